/-
  pack.Reader: take, Bytes, Text, Bad, End, Read.
-/
import Derived.Test.YtebfhomopdnkkaaWReader
namespace Go.Proofs.Ytebfhomopdnkkaa
open Go.RowKit Go.Lib
set_option linter.unusedVariables false

theorem rnum_zero (s : Option (List UInt8)) (b : Int) : 0 ≤ (C.rnum s 0 b).1 ∧ ((C.rnum s 0 b).2 = none → (C.rnum s 0 b).1 = 0) := by
  rw [rnum_all]
  split
  · exact ⟨Int.le_refl _, fun _ => rfl⟩
  · exact ⟨by omega, fun h => by cases h⟩
theorem rnum_len (s : Option (List UInt8)) (a b : Int) : ((C.rnum s a b).2.getD []).length ≤ (s.getD []).length := by
  rw [rnum_all]
  split
  · exact Nat.zero_le _
  · simp only [Option.getD_some, List.length_drop]; omega
theorem rbytes_all (s : Option (List UInt8)) (m v : Int) (s1 : Option (List UInt8)) (h : C.rnum s 0 m = (v, s1)) : C.rbytes s m = if ((s1.getD []).length : Int) < v then ([], none) else ((s1.getD []).take v.toNat, s1.map fun l => l.drop v.toNat) := by
  have h0 := rnum_zero s m
  rw [h] at h0
  unfold C.rbytes
  rw [h]
  cases s1 with
  | none =>
    have := h0.2 rfl
    simp only at this
    subst this
    simp
  | some l => simp
theorem rbytes_len (s : Option (List UInt8)) (m : Int) : (C.rbytes s m).1.length ≤ (s.getD []).length ∧ ((C.rbytes s m).2.getD []).length ≤ (s.getD []).length := by
  have h1 := rnum_len s 0 m
  obtain ⟨v, s1, hr⟩ : ∃ v s1, C.rnum s 0 m = (v, s1) := ⟨_, _, rfl⟩
  rw [hr] at h1
  rw [rbytes_all s m v s1 hr]
  by_cases h : ((s1.getD []).length : Int) < v
  · rw [if_pos h]; exact ⟨Nat.zero_le _, Nat.zero_le _⟩
  · rw [if_neg h]
    refine ⟨by simp only [List.length_take] at *; omega, ?_⟩
    cases s1 with
    | none => exact Nat.zero_le _
    | some l => simp only [Option.map_some, Option.getD_some, List.length_drop] at *; omega
theorem rnum_at (w : World) (g : Nat) (s : Option (List UInt8)) (p : Option Addr) (n c : Nat) (a b v : Int) (s1 : Option (List UInt8)) (h : Rd w g s p n c) (hl : (s.getD []).length ≤ 100000) (hr : C.rnum s a b = (v, s1)) :
    Calls Try.prog 28 #[.pointer (some ⟨g, 0, none⟩), .int .i64 a, .int .i64 b] w fun e w' => e = .returned (.int .i64 v) ∧ (∃ p' n' c', Rd w' g s1 p' n' c') ∧ w.grownBy w' (some g) := by
  have := rnum_any w g s p n c a b h hl
  rw [hr] at this
  exact this
set_option maxHeartbeats 4000000 in
theorem take_bad (w : World) (g : Nat) (s : Option (List UInt8)) (p : Option Addr) (n c : Nat) (m : Int) (k : Nat) (s1 : Option (List UInt8)) (h : Rd w g s p n c) (hl : (s.getD []).length ≤ 100000) (hr : C.rnum s 0 m = ((k : Int), s1)) (hk : (s1.getD []).length < k) :
    Calls Try.prog 46 #[.pointer (some ⟨g, 0, none⟩), .int .i64 m] w fun e w' => e = .returned (.slice none 0 0) ∧ Rd w' g none none 0 0 ∧ w.grownBy w' (some g) := by
  have H : Hid _ := h
  have HL : Hid _ := hl
  have HR : Hid _ := hr
  clear h hl hr
  go_enter Try.func46, Try.ntmps46
  go_wp2_with fail
  refine (rnum_at w g s p n c 0 m k s1 H.out HL.out HR.out).mono ?_
  rintro e w1 ⟨rfl, ⟨p1, n1, c1, hr1⟩, hg1⟩
  have h0 := hr1.c0
  have h1 := hr1.c1
  have hn1 : n1 < k := by have := hr1.is.1; omega
  have hcm1 : n1 ≤ 9223372036854775807 := Nat.le_trans hr1.nc (Nat.le_trans hr1.cm (by decide))
  have HR1 : Hid _ := hr1
  clear hr1 hk
  go_wp2_with fail
  refine (spoil_any w1 g _ _ _ _ HR1.out).mono ?_
  rintro e w2 ⟨rfl, hr2, hg2⟩
  have HR2 : Hid _ := hr2
  clear hr2
  go_wp2
  go_ret
  exact ⟨rfl, HR2.out, gtrans hg1 hg2⟩
set_option maxHeartbeats 4000000 in
theorem take_ok (w : World) (g : Nat) (s : Option (List UInt8)) (p : Option Addr) (n c : Nat) (m : Int) (k : Nat) (s1 : Option (List UInt8)) (h : Rd w g s p n c) (hl : (s.getD []).length ≤ 100000) (hr : C.rnum s 0 m = ((k : Int), s1)) (hk : ¬ (s1.getD []).length < k) :
    Calls Try.prog 46 #[.pointer (some ⟨g, 0, none⟩), .int .i64 m] w fun e w' => (∃ px nx cx, e = .returned (.slice px nx cx) ∧ Is w' px nx cx ((s1.getD []).take k)) ∧ (∃ p' n' c', Rd w' g (s1.map fun l => l.drop k) p' n' c') ∧ w.grownBy w' (some g) := by
  have H : Hid _ := h
  have HL : Hid _ := hl
  have HR : Hid _ := hr
  have HD : Hid ((s1.map fun l => l.drop k).getD [] = (s1.getD []).drop k ∧ (s1.map fun l => l.drop k).isNone = s1.isNone) := by cases s1 <;> simp [Hid]
  clear h hl hr
  go_enter Try.func46, Try.ntmps46
  go_wp2_with fail
  refine (rnum_at w g s p n c 0 m k s1 H.out HL.out HR.out).mono ?_
  rintro e w1 ⟨rfl, ⟨p1, n1, c1, hr1⟩, hg1⟩
  have h0 := hr1.c0
  have h1 := hr1.c1
  have f0 := hr1.fz 0
  have hn1 : k ≤ n1 := by have := hr1.is.1; omega
  have hnc := hr1.nc
  have hcm1 : c1 ≤ 9223372036854775807 := Nat.le_trans hr1.cm (by decide)
  have HR1 : Hid _ := hr1
  have hpa := hr1.pa
  clear hr1 hk
  rcases hpa with ⟨rfl, rfl⟩ | ⟨b, o, rfl⟩
  · obtain rfl : n1 = 0 := by omega
    obtain rfl : k = 0 := by omega
    go_wp2
    go_ret
    refine ⟨⟨_, _, _, rfl, ?_⟩, ⟨none, 0, 0, ?_, ?_, Nat.le_refl _, Nat.zero_le _, Or.inl ⟨rfl, rfl⟩⟩, gtrans hg1 (set_grown _ _ _ _)⟩
    · exact Is.take (Is.grown HR1.out.is (set_grown _ _ _ _) HR1.out.nb) 0 _ (Nat.le_refl _)
    · rw [HD.out.2]; exact set_block (o := 0) (v := .slice none 0 0) HR1.out.blk
    · rw [HD.out.1]; exact Is.grown HR1.out.is (set_grown _ _ _ _) HR1.out.nb
  · by_cases hck : c1 = k
    · subst hck
      obtain rfl : n1 = c1 := by omega
      go_wp2
      go_ret
      refine ⟨⟨_, _, _, rfl, ?_⟩, ⟨_, 0, 0, ?_, ?_, Nat.le_refl _, Nat.zero_le _, Or.inr ⟨b, o, rfl⟩⟩, gtrans hg1 (set_grown _ _ _ _)⟩
      · exact Is.take (Is.grown HR1.out.is (set_grown _ _ _ _) HR1.out.nb) _ _ (Nat.le_refl _)
      · rw [HD.out.2]; exact set_block (o := 0) (v := .slice (some ⟨b, o, none⟩) 0 0) HR1.out.blk
      · rw [HD.out.1]; have := Is.drop_all (Is.grown HR1.out.is (set_grown w1 g 0 (.slice (some ⟨b, o, none⟩) 0 0)) HR1.out.nb) n1 0 (Nat.le_refl _); rw [Nat.sub_self] at this; exact this
    · go_wp2
      go_ret
      refine ⟨⟨_, _, _, rfl, ?_⟩, ⟨_, n1 - k, c1 - k, ?_, ?_, by omega, by have := HR1.out.cm; omega, Or.inr ⟨b, o + k, rfl⟩⟩, gtrans hg1 (set_grown _ _ _ _)⟩
      · exact Is.take (Is.grown HR1.out.is (set_grown _ _ _ _) HR1.out.nb) _ _ hn1
      · rw [HD.out.2]; exact set_block (o := 0) (v := .slice (some ⟨b, o + k, none⟩) (n1 - k) (c1 - k)) HR1.out.blk
      · rw [HD.out.1]; exact Is.drop (Is.grown HR1.out.is (set_grown _ _ _ _) HR1.out.nb) k _
theorem take_any (w : World) (g : Nat) (s : Option (List UInt8)) (p : Option Addr) (n c : Nat) (m : Int) (h : Rd w g s p n c) (hl : (s.getD []).length ≤ 100000) :
    Calls Try.prog 46 #[.pointer (some ⟨g, 0, none⟩), .int .i64 m] w fun e w' => (∃ px nx cx, e = .returned (.slice px nx cx) ∧ Is w' px nx cx (C.rbytes s m).1) ∧ (∃ p' n' c', Rd w' g (C.rbytes s m).2 p' n' c') ∧ w.grownBy w' (some g) := by
  obtain ⟨v, s1, hr⟩ : ∃ v s1, C.rnum s 0 m = (v, s1) := ⟨_, _, rfl⟩
  rw [rbytes_all s m v s1 hr]
  have h0 := (rnum_zero s m).1
  rw [hr] at h0
  obtain ⟨k, rfl⟩ := Int.eq_ofNat_of_zero_le (show 0 ≤ v from h0)
  by_cases hk : (s1.getD []).length < k
  · rw [if_pos (by omega)]
    exact (take_bad w g s p n c m k s1 h hl hr hk).mono fun e w' ⟨h1, h2, h3⟩ => ⟨⟨_, _, _, h1, Is.nil _⟩, ⟨_, _, _, h2⟩, h3⟩
  · rw [if_neg (by omega)]
    exact take_ok w g s p n c m k s1 h hl hr hk
theorem take_at (w : World) (g : Nat) (s : Option (List UInt8)) (p : Option Addr) (n c : Nat) (m : Int) (l : List UInt8) (s1 : Option (List UInt8)) (h : Rd w g s p n c) (hl : (s.getD []).length ≤ 100000) (hr : C.rbytes s m = (l, s1)) :
    Calls Try.prog 46 #[.pointer (some ⟨g, 0, none⟩), .int .i64 m] w fun e w' => (∃ px nx cx, e = .returned (.slice px nx cx) ∧ Is w' px nx cx l) ∧ (∃ p' n' c', Rd w' g s1 p' n' c') ∧ w.grownBy w' (some g) := by
  have := take_any w g s p n c m h hl
  rw [hr] at this
  exact this
set_option maxHeartbeats 1000000 in
theorem rtext_at (w : World) (g : Nat) (s : Option (List UInt8)) (p : Option Addr) (n c : Nat) (m : Int) (l : List UInt8) (s1 : Option (List UInt8)) (h : Rd w g s p n c) (hl : (s.getD []).length ≤ 100000) (hr : C.rbytes s m = (l, s1)) :
    Calls Try.prog 29 #[.pointer (some ⟨g, 0, none⟩), .int .i64 m] w fun e w' => e = .returned (.string ⟨l.toArray⟩) ∧ (∃ p' n' c', Rd w' g s1 p' n' c') ∧ w.grownBy w' (some g) := by
  have H : Hid _ := h
  have HL : Hid _ := hl
  have HR : Hid _ := hr
  clear h hl hr
  go_enter Try.func29, Try.ntmps29
  go_wp2_with fail
  refine (take_at w g s p n c m l s1 H.out HL.out HR.out).mono ?_
  rintro e w1 ⟨⟨px, nx, cx, rfl, hi1⟩, ⟨p1, n1, c1, hr1⟩, hg1⟩
  have hcv := conv_is hi1
  have HR1 : Hid _ := hr1
  clear hi1 hr1
  go_wp2
  go_ret
  exact ⟨rfl, ⟨_, _, _, HR1.out⟩, hg1⟩
theorem bad_any (w : World) (g : Nat) (s : Option (List UInt8)) (p : Option Addr) (n c : Nat) (h : Rd w g s p n c) :
    Calls Try.prog 30 #[.pointer (some ⟨g, 0, none⟩)] w fun e w' => e = .returned (.bool s.isNone) ∧ w' = w := by
  have h1 := h.c1
  clear h
  go_enter Try.func30, Try.ntmps30
  go_wp2
  go_ret
  exact ⟨rfl, rfl⟩
theorem end_any (w : World) (g : Nat) (s : Option (List UInt8)) (p : Option Addr) (n c : Nat) (h : Rd w g s p n c) :
    Calls Try.prog 20 #[.pointer (some ⟨g, 0, none⟩)] w fun e w' => e = .returned (.bool (s == some [])) ∧ w' = w := by
  have h0 := h.c0
  have h1 := h.c1
  have hn := h.is.1
  clear h
  cases s with
  | none =>
    go_enter Try.func20, Try.ntmps20
    go_wp2
    go_ret
    exact ⟨rfl, rfl⟩
  | some l =>
    have HE : Hid (((n : Int) == 0) = (some l == some [])) := by
      show _ = _
      simp only [Option.getD_some] at hn
      subst hn
      cases l <;> simp; omega
    clear hn
    go_enter Try.func20, Try.ntmps20
    go_wp2
    go_ret
    exact ⟨ret_bool HE.out, rfl⟩
set_option maxHeartbeats 1000000 in
theorem read_any (w : World) (p : Option Addr) (n c : Nat) (l : List UInt8) (h : Is w p n c l) (hl : l.length ≤ 100000) :
    Calls Try.prog 14 #[.slice p n c] w fun e w' => (∃ g p' n' c', e = .returned (.pointer (some ⟨g, 0, none⟩)) ∧ w.heap.size ≤ g ∧ Rd w' g (some l) p' n' c') ∧ Below w.heap.size w w' := by
  obtain ⟨hn, hok⟩ := h
  have HO : Hid _ := hok
  have HL : Hid _ := hl
  subst hn
  clear hok hl
  go_enter Try.func14, Try.ntmps14
  go_wp2_with fail
  refine (clone_any p l c w HO.out (Nat.le_trans HL.out (by decide))).mono ?_
  rintro e w1 ⟨⟨v, rfl, ho⟩, hb⟩
  obtain ⟨p1, n1, c1, rfl, hi1, hnc, hcm, hpa⟩ : ∃ p1 n1 c1, v = .slice p1 n1 c1 ∧ Is w1 p1 n1 c1 l ∧ n1 ≤ c1 ∧ c1 ≤ maxLen ∧ ((p1 = none ∧ c1 = 0) ∨ ∃ b o, p1 = some ⟨b, o, none⟩) := by
    obtain ⟨p1, n1, c1, hv, hi1⟩ := Own.is ho
    rcases ho.2 with ⟨h1, h2⟩ | ⟨gg, cap, cur, h1, h2, h3, h4, h5, _⟩
    · rw [h1] at hv; cases hv; exact ⟨_, _, _, h1, hi1, Nat.le_refl _, Nat.zero_le _, Or.inl ⟨rfl, rfl⟩⟩
    · rw [h1] at hv; cases hv; exact ⟨_, _, _, h1, hi1, h4, h5, Or.inr ⟨_, _, rfl⟩⟩
  have HI1 : Hid _ := hi1
  have HCM : Hid _ := hcm
  have HPA : Hid _ := hpa
  clear hi1 ho hcm hpa
  go_wp2
  go_ret
  refine ⟨⟨w1.heap.size, p1, n1, c1, rfl, hb.size, ⟨?_, Is.below HI1.out (below_new _ _), hnc, HCM.out, HPA.out⟩⟩, bt hb (below_new _ _)⟩
  exact heap_alloc_new _ _
end Go.Proofs.Ytebfhomopdnkkaa
