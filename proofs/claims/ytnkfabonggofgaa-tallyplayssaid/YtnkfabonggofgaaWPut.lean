/-
  vec.Put.
-/
import Derived.Test.YtnkfabonggofgaaWNext2
import Derived.Test.YtnkfabonggofgaaWTake
namespace Go.Proofs.Ytnkfabonggofgaa
open Go.RowKit Go.Lib
set_option linter.unusedVariables false

theorem num_at (pb : Option Addr) (nb cb : Nat) (lb l' : List UInt8) (v : Int) (w : World) (hb : Is w pb nb cb lb) (hv : C.fits v) (hl : lb.length ≤ 90000) (hl' : l' = lb ++ C.num v) :
    Calls Try.prog 36 #[.slice pb nb cb, .int .i64 v] w fun e w' => (∃ p n c, e = .returned (.slice p n c) ∧ Is w' p n c l') ∧ Below w.heap.size w w' := by
  subst hl'; exact num_any pb nb cb lb v w hb hv hl
set_option maxRecDepth 100000 in
set_option maxHeartbeats 4000000 in
theorem put_any (pb : Option Addr) (nb cb : Nat) (lb : List UInt8) (a : V7) (w : World) (hb : Is w pb nb cb lb) (hv : C.fits7 a) (hl : lb.length ≤ 90000) :
    Calls Try.prog 31 #[.slice pb nb cb, a.v] w fun e w' => (∃ p n c, e = .returned (.slice p n c) ∧ Is w' p n c (lb ++ C.vbytes a)) ∧ Below w.heap.size w w' := by
  have HB : Hid (Is w pb nb cb lb) := hb
  obtain ⟨a0, a1, a2, a3, a4, a5, a6⟩ := a
  have HV : Hid _ := hv
  have N0 : Hid ((C.num a0).length ≤ 10) := (C.num_ten hv.1).2
  have N1 : Hid ((C.num a1).length ≤ 10) := (C.num_ten hv.2.1).2
  have N2 : Hid ((C.num a2).length ≤ 10) := (C.num_ten hv.2.2.1).2
  have N3 : Hid ((C.num a3).length ≤ 10) := (C.num_ten hv.2.2.2.1).2
  have N4 : Hid ((C.num a4).length ≤ 10) := (C.num_ten hv.2.2.2.2.1).2
  have N5 : Hid ((C.num a5).length ≤ 10) := (C.num_ten hv.2.2.2.2.2.1).2
  have N6 : Hid ((C.num a6).length ≤ 10) := (C.num_ten hv.2.2.2.2.2.2).2
  clear hb hv
  have HI0 : Hid (Is w none 0 0 []) := Is.nil w
  obtain ⟨l1, e1⟩ : ∃ l, l = [] ++ C.num a0 := ⟨_, rfl⟩
  obtain ⟨l2, e2⟩ : ∃ l, l = l1 ++ C.num a1 := ⟨_, rfl⟩
  obtain ⟨l3, e3⟩ : ∃ l, l = l2 ++ C.num a2 := ⟨_, rfl⟩
  obtain ⟨l4, e4⟩ : ∃ l, l = l3 ++ C.num a3 := ⟨_, rfl⟩
  obtain ⟨l5, e5⟩ : ∃ l, l = l4 ++ C.num a4 := ⟨_, rfl⟩
  obtain ⟨l6, e6⟩ : ∃ l, l = l5 ++ C.num a5 := ⟨_, rfl⟩
  obtain ⟨l7, e7⟩ : ∃ l, l = l6 ++ C.num a6 := ⟨_, rfl⟩
  have E : Hid (l7 = C.vbytes ⟨a0, a1, a2, a3, a4, a5, a6⟩ ∧ l1.length ≤ 90000 ∧ l2.length ≤ 90000 ∧ l3.length ≤ 90000 ∧ l4.length ≤ 90000 ∧ l5.length ≤ 90000 ∧ l6.length ≤ 90000 ∧ lb.length + l7.length ≤ 100000) := by
    have := N0.out; have := N1.out; have := N2.out; have := N3.out; have := N4.out; have := N5.out; have := N6.out
    refine ⟨?_, ?_, ?_, ?_, ?_, ?_, ?_, ?_⟩
    · subst e7 e6 e5 e4 e3 e2 e1; simp only [C.vbytes, List.nil_append, List.append_assoc]
    all_goals (subst e7 e6 e5 e4 e3 e2 e1; simp only [List.length_append, List.length_nil]; omega)
  rw [← E.out.1]
  have G1 : Hid _ := e1
  have G2 : Hid _ := e2
  have G3 : Hid _ := e3
  have G4 : Hid _ := e4
  have G5 : Hid _ := e5
  have G6 : Hid _ := e6
  have G7 : Hid _ := e7
  clear e1 e2 e3 e4 e5 e6 e7 N0 N1 N2 N3 N4 N5 N6
  simp only [V7.v]
  obtain ⟨i0, i1, i2, i3, i4, i5, i6⟩ := idx7 a0 a1 a2 a3 a4 a5 a6
  go_enter Try.func31, Try.ntmps31
  go_wp2
  refine wp_loop_rounds 8 ?_
  rw [rounds_succ]
  go_wp2_with fail
  refine (num_at none 0 0 [] l1 a0 _ (HI0.out.below (below_new _ _)) HV.out.1 (by decide) G1.out).mono ?_
  rintro x w1 ⟨⟨p1, n1, c1, rfl, hi1⟩, hb1'⟩
  have HI1 : Hid _ := hi1
  have hb1 := bt (below_new _ _) hb1'
  clear hi1 hb1'
  go_wp2
  rw [rounds_succ]
  go_wp2_with fail
  refine (num_at p1 n1 c1 l1 l2 a1 _ HI1.out HV.out.2.1 E.out.2.1 G2.out).mono ?_
  rintro x w2 ⟨⟨p2, n2, c2, rfl, hi2⟩, hb2⟩
  have HI2 : Hid _ := hi2
  clear hi2
  go_wp2
  rw [rounds_succ]
  go_wp2_with fail
  refine (num_at p2 n2 c2 l2 l3 a2 _ HI2.out HV.out.2.2.1 E.out.2.2.1 G3.out).mono ?_
  rintro x w3 ⟨⟨p3, n3, c3, rfl, hi3⟩, hb3⟩
  have HI3 : Hid _ := hi3
  clear hi3
  go_wp2
  rw [rounds_succ]
  go_wp2_with fail
  refine (num_at p3 n3 c3 l3 l4 a3 _ HI3.out HV.out.2.2.2.1 E.out.2.2.2.1 G4.out).mono ?_
  rintro x w4 ⟨⟨p4, n4, c4, rfl, hi4⟩, hb4⟩
  have HI4 : Hid _ := hi4
  clear hi4
  go_wp2
  rw [rounds_succ]
  go_wp2_with fail
  refine (num_at p4 n4 c4 l4 l5 a4 _ HI4.out HV.out.2.2.2.2.1 E.out.2.2.2.2.1 G5.out).mono ?_
  rintro x w5 ⟨⟨p5, n5, c5, rfl, hi5⟩, hb5⟩
  have HI5 : Hid _ := hi5
  clear hi5
  go_wp2
  rw [rounds_succ]
  go_wp2_with fail
  refine (num_at p5 n5 c5 l5 l6 a5 _ HI5.out HV.out.2.2.2.2.2.1 E.out.2.2.2.2.2.1 G6.out).mono ?_
  rintro x w6 ⟨⟨p6, n6, c6, rfl, hi6⟩, hb6⟩
  have HI6 : Hid _ := hi6
  clear hi6
  go_wp2
  rw [rounds_succ]
  go_wp2_with fail
  refine (num_at p6 n6 c6 l6 l7 a6 _ HI6.out HV.out.2.2.2.2.2.2 E.out.2.2.2.2.2.2.1 G7.out).mono ?_
  rintro x w7 ⟨⟨p7, n7, c7, rfl, hi7⟩, hb7⟩
  have HI7 : Hid _ := hi7
  have HB7 : Hid (Below w.heap.size w w7) := bt hb1 (bt hb2 (bt hb3 (bt hb4 (bt hb5 (bt hb6 hb7)))))
  clear hi7 hb1 hb2 hb3 hb4 hb5 hb6 hb7
  go_wp2
  rw [rounds_succ]
  go_wp2_with fail
  refine (concat_two pb nb cb lb p7 n7 c7 l7 _ _ w7 rfl (Is.below HB.out HB7.out) HI7.out E.out.2.2.2.2.2.2.2).mono ?_
  rintro x w8 ⟨⟨p8, n8, c8, rfl, hi8⟩, hb8⟩
  have HI8 : Hid _ := hi8
  clear hi8
  go_wp2
  go_ret
  exact ⟨⟨_, _, _, rfl, HI8.out⟩, bt HB7.out hb8⟩
end Go.Proofs.Ytnkfabonggofgaa
