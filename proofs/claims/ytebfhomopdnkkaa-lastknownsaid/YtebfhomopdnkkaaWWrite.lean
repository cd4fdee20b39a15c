/-
  pack.Num, pack.Bytes, pack.Text.
-/
import Derived.Test.YtebfhomopdnkkaaBIs
import Derived.Test.YtebfhomopdnkkaaWGroups
namespace Go.Proofs.Ytebfhomopdnkkaa
open Go.RowKit Go.Lib
set_option linter.unusedVariables false

theorem groups_is (v : Int) (hv : C.fits v) (w : World) :
    Calls Try.prog 47 #[.int .i64 v] w fun e w' => (∃ p n c, e = .returned (.slice p n c) ∧ Is w' p n c (C.num v)) ∧ Below w.heap.size w w' := by
  refine (groups_any v hv w).mono ?_
  rintro e w' ⟨⟨x, rfl, ho⟩, hb⟩
  obtain ⟨p, n, c, rfl, hi⟩ := Own.is ho
  exact ⟨⟨p, n, c, rfl, hi⟩, hb⟩
/-- slices.Concat of two rows, of three, in a row just laid. -/
theorem concat_two (p1 : Option Addr) (n1 c1 : Nat) (l1 : List UInt8) (p2 : Option Addr) (n2 c2 : Nat) (l2 : List UInt8) (B cap : Nat) (w : World) (hB : B = w.heap.size) (h1 : Is w p1 n1 c1 l1) (h2 : Is w p2 n2 c2 l2) (hl : l1.length + l2.length ≤ 100000) :
    Calls Try.prog 33 #[.slice (some ⟨B, 0, none⟩) 2 cap] (w.alloc (.cells #[.slice p1 n1 c1, .slice p2 n2 c2] 32)) fun e w' => (∃ p n c, e = .returned (.slice p n c) ∧ Is w' p n c (l1 ++ l2)) ∧ Below w.heap.size w w' := by
  obtain ⟨rfl, k1⟩ := h1
  obtain ⟨rfl, k2⟩ := h2
  refine (concat_new w [⟨p1, l1, c1⟩, ⟨p2, l2, c2⟩] 2 B cap _ (l1 ++ l2) hB rfl rfl (by simp) (ok_cons k1 (ok_one k2)) (Nat.le_trans (by simpa [joined] using hl) (by decide)) (by simp [joined])).mono ?_
  rintro e w' ⟨⟨x, rfl, ho⟩, hb⟩
  obtain ⟨p, n, c, rfl, hi⟩ := Own.is ho
  exact ⟨⟨p, n, c, rfl, hi⟩, hb⟩
theorem concat_three (p1 : Option Addr) (n1 c1 : Nat) (l1 : List UInt8) (p2 : Option Addr) (n2 c2 : Nat) (l2 : List UInt8) (p3 : Option Addr) (n3 c3 : Nat) (l3 : List UInt8) (B cap : Nat) (w : World) (hB : B = w.heap.size) (h1 : Is w p1 n1 c1 l1) (h2 : Is w p2 n2 c2 l2) (h3 : Is w p3 n3 c3 l3) (hl : l1.length + (l2.length + l3.length) ≤ 100000) :
    Calls Try.prog 33 #[.slice (some ⟨B, 0, none⟩) 3 cap] (w.alloc (.cells #[.slice p1 n1 c1, .slice p2 n2 c2, .slice p3 n3 c3] 32)) fun e w' => (∃ p n c, e = .returned (.slice p n c) ∧ Is w' p n c (l1 ++ (l2 ++ l3))) ∧ Below w.heap.size w w' := by
  obtain ⟨rfl, k1⟩ := h1
  obtain ⟨rfl, k2⟩ := h2
  obtain ⟨rfl, k3⟩ := h3
  refine (concat_new w [⟨p1, l1, c1⟩, ⟨p2, l2, c2⟩, ⟨p3, l3, c3⟩] 3 B cap _ (l1 ++ (l2 ++ l3)) hB rfl rfl (by simp) (ok_cons k1 (ok_cons k2 (ok_one k3))) (Nat.le_trans (by simpa [joined] using hl) (by decide)) (by simp [joined])).mono ?_
  rintro e w' ⟨⟨x, rfl, ho⟩, hb⟩
  obtain ⟨p, n, c, rfl, hi⟩ := Own.is ho
  exact ⟨⟨p, n, c, rfl, hi⟩, hb⟩
set_option maxHeartbeats 1000000 in
theorem num_any (pb : Option Addr) (nb cb : Nat) (lb : List UInt8) (v : Int) (w : World) (hb : Is w pb nb cb lb) (hv : C.fits v) (hl : lb.length ≤ 90000) :
    Calls Try.prog 32 #[.slice pb nb cb, .int .i64 v] w fun e w' => (∃ p n c, e = .returned (.slice p n c) ∧ Is w' p n c (lb ++ C.num v)) ∧ Below w.heap.size w w' := by
  have HB : Hid (Is w pb nb cb lb) := hb
  have HL : Hid (lb.length + (C.num v).length ≤ 100000) := by
    have := (C.num_ten hv).2
    show _ ≤ _
    omega
  clear hb
  go_enter Try.func32, Try.ntmps32
  go_wp2_with fail
  refine (groups_is v hv w).mono ?_
  rintro e w1 ⟨⟨p1, n1, c1, rfl, hi1⟩, h1⟩
  have HI1 : Hid (Is w1 p1 n1 c1 (C.num v)) := hi1
  clear hi1
  go_wp2_with fail
  refine (concat_two pb nb cb lb p1 n1 c1 (C.num v) _ _ w1 rfl (Is.below HB.out h1) HI1.out HL.out).mono ?_
  rintro e w2 ⟨⟨p2, n2, c2, rfl, hi2⟩, h2⟩
  have HI2 : Hid (Is w2 p2 n2 c2 (lb ++ C.num v)) := hi2
  clear hi2
  go_wp2
  go_ret
  exact ⟨⟨_, _, _, rfl, HI2.out⟩, bt h1 h2⟩
set_option maxHeartbeats 1000000 in
theorem bytes_any (pb : Option Addr) (nb cb : Nat) (lb : List UInt8) (px : Option Addr) (nx cx : Nat) (lx : List UInt8) (w : World) (hb : Is w pb nb cb lb) (hx : Is w px nx cx lx) (hl : lb.length ≤ 40000) (hlx : lx.length ≤ 40000) :
    Calls Try.prog 49 #[.slice pb nb cb, .slice px nx cx] w fun e w' => (∃ p n c, e = .returned (.slice p n c) ∧ Is w' p n c (lb ++ C.byt lx)) ∧ Below w.heap.size w w' := by
  have HB : Hid (Is w pb nb cb lb) := hb
  have HX : Hid (Is w px nx cx lx) := hx
  have hn := hx.1
  have HV : Hid (C.fits (nx : Int)) := ⟨by omega, by omega⟩
  have HE : Hid (lb ++ (C.num (nx : Int) ++ lx) = lb ++ C.byt lx) := by show _ = _; rw [hn]; rfl
  have HL : Hid (lb.length + ((C.num (nx : Int)).length + lx.length) ≤ 100000) := by
    have := (C.num_ten HV.out).2
    show _ ≤ _
    omega
  clear hb hx hn
  go_enter Try.func49, Try.ntmps49
  go_wp2_with fail
  refine (groups_is (nx : Int) HV.out w).mono ?_
  rintro e w1 ⟨⟨p1, n1, c1, rfl, hi1⟩, h1⟩
  have HI1 : Hid (Is w1 p1 n1 c1 (C.num (nx : Int))) := hi1
  clear hi1
  go_wp2_with fail
  refine (concat_three pb nb cb lb p1 n1 c1 (C.num (nx : Int)) px nx cx lx _ _ w1 rfl (Is.below HB.out h1) HI1.out (Is.below HX.out h1) HL.out).mono ?_
  rintro e w2 ⟨⟨p2, n2, c2, rfl, hi2⟩, h2⟩
  have HI2 : Hid (Is w2 p2 n2 c2 (lb ++ C.byt lx)) := by rw [HE.out] at hi2; exact hi2
  clear hi2
  go_wp2
  go_ret
  exact ⟨⟨_, _, _, rfl, HI2.out⟩, bt h1 h2⟩
set_option maxHeartbeats 1000000 in
theorem text_any (pb : Option Addr) (nb cb : Nat) (lb : List UInt8) (s : ByteArray) (w : World) (hb : Is w pb nb cb lb) (hl : lb.length ≤ 40000) (hs : s.data.toList.length ≤ 40000) :
    Calls Try.prog 34 #[.slice pb nb cb, .string s] w fun e w' => (∃ p n c, e = .returned (.slice p n c) ∧ Is w' p n c (lb ++ C.byt s.data.toList)) ∧ Below w.heap.size w w' := by
  have HB : Hid (Is w pb nb cb lb) := hb
  have HS : Hid (s.data.toList.length ≤ 40000) := hs
  obtain ⟨p1, n1, c1, w1, hr, hi1, h1⟩ := conv_bytes w s (Nat.le_trans (show s.size ≤ 40000 from by simpa using hs) (by decide))
  have HI1 : Hid (Is w1 p1 n1 c1 s.data.toList) := hi1
  clear hb hi1 hs
  go_enter Try.func34, Try.ntmps34
  go_wp2_with fail
  refine (bytes_any pb nb cb lb p1 n1 c1 s.data.toList w1 (Is.below HB.out h1) HI1.out hl HS.out).mono ?_
  rintro e w2 ⟨⟨p2, n2, c2, rfl, hi2⟩, h2⟩
  have HI2 : Hid (Is w2 p2 n2 c2 (lb ++ C.byt s.data.toList)) := hi2
  clear hi2
  go_wp2
  go_ret
  exact ⟨⟨_, _, _, rfl, HI2.out⟩, bt h1 h2⟩
end Go.Proofs.Ytebfhomopdnkkaa
