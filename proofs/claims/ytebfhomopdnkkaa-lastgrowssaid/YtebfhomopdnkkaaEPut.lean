/-
  last.Last.Put.
-/
import Derived.Test.YtebfhomopdnkkaaEWrite
import Derived.Test.YtebfhomopdnkkaaWWrite
import Derived.Deep.RegionHeldLaw
namespace Go.Proofs.Ytebfhomopdnkkaa
open Go.RowKit Go.Lib
set_option linter.unusedVariables false

/-- Pack's calls, what they make under a letter. -/
theorem enum_at (pb : Option Addr) (nb cb : Nat) (lb l' : List UInt8) (v : Int) (w : World) (hb : Is w pb nb cb lb) (hv : C.fits v) (hl : lb.length ≤ 90000) (e : lb ++ C.num v = l') :
    Calls Try.prog 32 #[.slice pb nb cb, .int .i64 v] w fun e w' => (∃ p n c, e = .returned (.slice p n c) ∧ Is w' p n c l') ∧ Below w.heap.size w w' := by
  subst e; exact num_any pb nb cb lb v w hb hv hl
set_option maxRecDepth 100000 in
set_option maxHeartbeats 8000000 in
theorem eput_any (w : World) (g : Nat) (S : C.La) (pb : Option Addr) (nb cb : Nat) (lb l : List UInt8) (h : EAt w g false S) (hS : S.Ok) (hb : Is w pb nb cb lb) (hlb : lb.length ≤ 30000) (hl : l = lb ++ C.putL S) :
    Calls Try.prog 15 #[.pointer (some ⟨g, 0, none⟩), .slice pb nb cb] w fun e w' => (∃ p n k, e = .returned (.slice p n k) ∧ Is w' p n k l) ∧ Below w.heap.size w w' := by
  have HW : Hid _ := written_any w g S h hS
  have HB : Hid (Is w pb nb cb lb) := hb
  have HLB : Hid (lb.length ≤ 30000) := hlb
  by_cases hz : S.n = 0
  · have e1 : C.isL S = false := by simp [C.isL, hz]
    rw [e1] at HW
    have HL : Hid (lb ++ C.num 0 = l) := by show _ = _; rw [hl]; unfold C.putL; rw [if_pos hz]
    clear h hS hb hlb hl hz e1
    go_enter Try.func15, Try.ntmps15
    go_wp2_with fail
    refine (Calls.mono HW.out) ?_
    rintro e w1 ⟨rfl, hw⟩
    subst hw
    go_wp2_with fail
    refine (enum_at pb nb cb lb l 0 _ HB.out ⟨by decide, by decide⟩ (by have := HLB.out; omega) HL.out).mono ?_
    rintro e w2 ⟨⟨p2, n2, c2, rfl, hi2⟩, hb2⟩
    have HI : Hid _ := hi2
    clear hi2
    go_wp2
    go_ret
    exact ⟨⟨_, _, _, rfl, HI.out⟩, hb2⟩
  · have e1 : C.isL S = true := by simp [C.isL, hz]
    rw [e1] at HW
    have HF : Hid (C.fits 1 ∧ C.fits S.t ∧ C.fits S.r ∧ C.fits S.n) := ⟨⟨by decide, by decide⟩, C.fitsL hS.t, C.fitsL ⟨hS.r.1, by have := hS.r.2; omega⟩, C.fitsL hS.n⟩
    have HX : Hid (S.x.data.toList.length ≤ 100) := by
      have e : S.x.data.toList.length = S.x.size := Array.length_toList
      show _ ≤ _
      rw [e]; exact hS.x
    obtain ⟨l1, hl1⟩ : ∃ l1, [] ++ C.num 1 = l1 := ⟨_, rfl⟩
    obtain ⟨l2, hl2⟩ : ∃ l2, l1 ++ C.num S.t = l2 := ⟨_, rfl⟩
    obtain ⟨l3, hl3⟩ : ∃ l3, l2 ++ C.num S.r = l3 := ⟨_, rfl⟩
    obtain ⟨l4, hl4⟩ : ∃ l4, l3 ++ C.num S.n = l4 := ⟨_, rfl⟩
    obtain ⟨l5, hl5⟩ : ∃ l5, l4 ++ C.byt S.x.data.toList = l5 := ⟨_, rfl⟩
    have HL1 : Hid _ := hl1
    have HL2 : Hid _ := hl2
    have HL3 : Hid _ := hl3
    have HL4 : Hid _ := hl4
    have HL5 : Hid _ := hl5
    have HL : Hid (lb ++ l5 = l) := by
      show _ = _
      rw [hl, ← hl5, ← hl4, ← hl3, ← hl2, ← hl1]
      unfold C.putL
      rw [if_neg hz]
      simp [List.append_assoc]
    have HLN : Hid (l1.length ≤ 10 ∧ l2.length ≤ 20 ∧ l3.length ≤ 30 ∧ l4.length ≤ 40 ∧ l5.length ≤ 200) := by
      have k1 := (C.num_ten HF.out.1).2
      have k2 := (C.num_ten HF.out.2.1).2
      have k3 := (C.num_ten HF.out.2.2.1).2
      have k4 := (C.num_ten HF.out.2.2.2).2
      have k5 := HX.out
      have k6 := (C.num_ten (v := (S.x.data.toList.length : Int)) ⟨by omega, by omega⟩).2
      show _ ∧ _
      rw [← hl5, ← hl4, ← hl3, ← hl2, ← hl1]
      unfold C.byt
      simp only [List.length_append, List.length_nil]
      omega
    obtain ⟨x, t, r, n⟩ := S
    simp only at HF HX HL2 HL3 HL4 HL5
    have HE : Hid (EAt w g false ⟨x, t, r, n⟩) := h
    have HSW : Hid (∀ w', Below w.heap.size w w' → w'.cell? ⟨g, 1, none⟩ = some (.int .i64 t) ∧ w'.cell? ⟨g, 2, none⟩ = some (.int .i64 r) ∧ w'.cell? ⟨g, 3, none⟩ = some (.int .i64 n)) := fun w' hw => (cells4_at (h.below hw)).2
    clear h hS hb hlb hl hz e1 hl1 hl2 hl3 hl4 hl5
    go_enter Try.func15, Try.ntmps15
    go_wp2_with fail
    refine (Calls.mono HW.out) ?_
    rintro e w1 ⟨rfl, hw⟩
    subst hw
    clear HW
    go_wp2_with fail
    go_region_held_law (fun w' => w'.cell? ⟨g, 1, none⟩ = some (.int .i64 t) ∧ w'.cell? ⟨g, 2, none⟩ = some (.int .i64 r) ∧ w'.cell? ⟨g, 3, none⟩ = some (.int .i64 n))
      ((refine HSW.out _ ?_; repeat (first | exact Below.refl _ _ | exact below_new _ _ | refine Below.drew ?_ | refine bt ?_ (below_new _ _))))
      (fail)
    generalize hw2 : (w1.alloc (.cells #[.int .i64 1, .int .i64 t, .int .i64 r, .int .i64 n] 2)).drew = w2
    have hq2 : w2.heap[w1.heap.size]? = some (.cells #[.int .i64 1, .int .i64 t, .int .i64 r, .int .i64 n] 2) := by rw [← hw2]; exact heap_alloc_new w1 _
    have HB2 : Hid (Below w1.heap.size w1 w2) := by show Below _ _ _; rw [← hw2]; exact (below_new w1 _).drew
    clear hw2
    obtain ⟨gb, hgb⟩ : ∃ gb, gb = w1.heap.size := ⟨_, rfl⟩
    rw [← hgb] at hq2 ⊢
    have HGB : Hid (gb = w1.heap.size) := hgb
    have HQ : Hid (∀ w', Below w2.heap.size w2 w' → w'.cell? ⟨gb, 0, none⟩ = some (.int .i64 1) ∧ w'.cell? ⟨gb, 1, none⟩ = some (.int .i64 t) ∧ w'.cell? ⟨gb, 2, none⟩ = some (.int .i64 r) ∧ w'.cell? ⟨gb, 3, none⟩ = some (.int .i64 n)) := fun w' hw => by
      have := keep_on hw hq2
      simp [World.cell?, this]
    have HE2 : Hid (∀ w', Below w2.heap.size w2 w' → w'.cell? ⟨g, 0, none⟩ = some (.string x)) := fun w' hw => (cells4_at (HE.out.below (bt HB2.out hw))).1
    clear hq2 hgb HE HSW
    obtain ⟨c0, c1, c2, c3⟩ := HQ.out w2 (Below.refl _ _)
    go_wp2_with fail
    refine wp_loop_rounds 5 ?_
    rw [rounds_succ]
    go_wp2_with fail
    refine (enum_at none 0 0 [] l1 1 _ (Is.nil _) HF.out.1 (by simp) HL1.out).mono ?_
    rintro e w3 ⟨⟨p3, n3, k3, rfl, hi3⟩, hb3⟩
    have HI3 : Hid (Is w3 p3 n3 k3 l1) := hi3
    have HB3 : Hid (Below w2.heap.size w2 w3) := hb3
    clear hi3 hb3 c0 c1 c2 c3
    obtain ⟨c0, c1, c2, c3⟩ := HQ.out w3 HB3.out
    go_wp2
    rw [rounds_succ]
    go_wp2_with fail
    refine (enum_at p3 n3 k3 l1 l2 t _ HI3.out HF.out.2.1 (by have := HLN.out; omega) HL2.out).mono ?_
    rintro e w4 ⟨⟨p4, n4, k4, rfl, hi4⟩, hb4⟩
    have HI4 : Hid (Is w4 p4 n4 k4 l2) := hi4
    have HB4 : Hid (Below w2.heap.size w2 w4) := bt HB3.out hb4
    clear hi4 hb4 c0 c1 c2 c3 HI3
    obtain ⟨c0, c1, c2, c3⟩ := HQ.out w4 HB4.out
    go_wp2
    rw [rounds_succ]
    go_wp2_with fail
    refine (enum_at p4 n4 k4 l2 l3 r _ HI4.out HF.out.2.2.1 (by have := HLN.out; omega) HL3.out).mono ?_
    rintro e w5 ⟨⟨p5, n5, k5, rfl, hi5⟩, hb5⟩
    have HI5 : Hid (Is w5 p5 n5 k5 l3) := hi5
    have HB5 : Hid (Below w2.heap.size w2 w5) := bt HB4.out hb5
    clear hi5 hb5 c0 c1 c2 c3 HI4
    obtain ⟨c0, c1, c2, c3⟩ := HQ.out w5 HB5.out
    go_wp2
    rw [rounds_succ]
    go_wp2_with fail
    refine (enum_at p5 n5 k5 l3 l4 n _ HI5.out HF.out.2.2.2 (by have := HLN.out; omega) HL4.out).mono ?_
    rintro e w6 ⟨⟨p6, n6, k6, rfl, hi6⟩, hb6⟩
    have HI6 : Hid (Is w6 p6 n6 k6 l4) := hi6
    have HB6 : Hid (Below w2.heap.size w2 w6) := bt HB5.out hb6
    clear hi6 hb6 c0 c1 c2 c3 HI5
    have c0 := HE2.out w6 HB6.out
    go_wp2
    rw [rounds_succ]
    go_wp2_with fail
    refine (text_any p6 n6 k6 l4 x _ HI6.out (by have := HLN.out; omega) (by have := HX.out; omega)).mono ?_
    rintro e w7 ⟨⟨p7, n7, k7, rfl, hi7⟩, hb7⟩
    rw [HL5.out] at hi7
    have HI7 : Hid (Is w7 p7 n7 k7 l5) := hi7
    have HB7 : Hid (Below w1.heap.size w1 w7) := bt HB2.out (bt HB6.out hb7)
    clear hi7 hb7 c0 HI6
    go_wp2_with fail
    refine (concat_two pb nb cb lb p7 n7 k7 l5 _ _ w7 rfl (HB.out.below HB7.out) HI7.out (by have := HLN.out; have := HLB.out; omega)).mono ?_
    rintro e w8 ⟨⟨p8, n8, k8, rfl, hi8⟩, hb8⟩
    rw [HL.out] at hi8
    have HI8 : Hid (Is w8 p8 n8 k8 l ∧ Below w1.heap.size w1 w8) := ⟨hi8, bt HB7.out hb8⟩
    clear hi8 hb8
    go_wp2
    go_ret
    exact ⟨⟨_, _, _, rfl, HI8.out.1⟩, HI8.out.2⟩
end Go.Proofs.Ytebfhomopdnkkaa
