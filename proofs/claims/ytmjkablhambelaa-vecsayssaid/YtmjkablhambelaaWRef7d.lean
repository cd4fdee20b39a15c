/-
  The document's own clocks (rostrumref7): PutVec, GetVec.
-/
import Derived.Test.YtmjkablhambelaaWRef7c
import Derived.Test.YtmjkablhambelaaRRead3
namespace Go.Proofs.Ytmjkablhambelaa
open Go.RowKit Go.Lib
set_option linter.unusedVariables false

theorem refnum_at (pb : Option Addr) (nb cb : Nat) (lb l' : List UInt8) (v : Int) (w : World) (hb : Is w pb nb cb lb) (hv : C.fits v) (hl : lb.length ≤ 90000) (e : l' = lb ++ C.num v) :
    Calls Try.prog 38 #[.slice pb nb cb, .int .i64 v] w fun e w' => (∃ p n c, e = .returned (.slice p n c) ∧ Is w' p n c l') ∧ Below w.heap.size w w' := by
  subst e
  refine (refnum_any pb nb cb lb v w hb hv hl).mono ?_
  rintro e w' ⟨⟨x, rfl, ho⟩, hb⟩
  obtain ⟨p, n, c, rfl, hi⟩ := Own.is ho
  exact ⟨⟨p, n, c, rfl, hi⟩, hb⟩
set_option maxRecDepth 100000 in
set_option maxHeartbeats 8000000 in
theorem rput_any (pb : Option Addr) (nb cb : Nat) (lb : List UInt8) (a : V7) (w : World) (hb : Is w pb nb cb lb) (hv : C.fits7 a) (hl : lb.length ≤ 80000) :
    Calls Try.prog 31 #[.slice pb nb cb, a.v] w fun e w' => (∃ p n c, e = .returned (.slice p n c) ∧ Is w' p n c (lb ++ C.vbytes a)) ∧ Below w.heap.size w w' := by
  have HI0 : Hid (Is w pb nb cb lb) := hb
  obtain ⟨a0, a1, a2, a3, a4, a5, a6⟩ := a
  have HV : Hid _ := hv
  have N0 : Hid ((C.num a0).length ≤ 10) := (C.num_ten hv.1).2
  have N1 : Hid ((C.num a1).length ≤ 10) := (C.num_ten hv.2.1).2
  have N2 : Hid ((C.num a2).length ≤ 10) := (C.num_ten hv.2.2.1).2
  have N3 : Hid ((C.num a3).length ≤ 10) := (C.num_ten hv.2.2.2.1).2
  have N4 : Hid ((C.num a4).length ≤ 10) := (C.num_ten hv.2.2.2.2.1).2
  have N5 : Hid ((C.num a5).length ≤ 10) := (C.num_ten hv.2.2.2.2.2.1).2
  have N6 : Hid ((C.num a6).length ≤ 10) := (C.num_ten hv.2.2.2.2.2.2).2
  obtain ⟨l1, e1⟩ : ∃ l, l = lb ++ C.num a0 := ⟨_, rfl⟩
  obtain ⟨l2, e2⟩ : ∃ l, l = l1 ++ C.num a1 := ⟨_, rfl⟩
  obtain ⟨l3, e3⟩ : ∃ l, l = l2 ++ C.num a2 := ⟨_, rfl⟩
  obtain ⟨l4, e4⟩ : ∃ l, l = l3 ++ C.num a3 := ⟨_, rfl⟩
  obtain ⟨l5, e5⟩ : ∃ l, l = l4 ++ C.num a4 := ⟨_, rfl⟩
  obtain ⟨l6, e6⟩ : ∃ l, l = l5 ++ C.num a5 := ⟨_, rfl⟩
  obtain ⟨l7, e7⟩ : ∃ l, l = l6 ++ C.num a6 := ⟨_, rfl⟩
  have E : Hid (l7 = lb ++ C.vbytes ⟨a0, a1, a2, a3, a4, a5, a6⟩ ∧ l1.length ≤ 90000 ∧ l2.length ≤ 90000 ∧ l3.length ≤ 90000 ∧ l4.length ≤ 90000 ∧ l5.length ≤ 90000 ∧ l6.length ≤ 90000 ∧ lb.length ≤ 90000) := by
    have := N0.out; have := N1.out; have := N2.out; have := N3.out; have := N4.out; have := N5.out; have := N6.out
    refine ⟨?_, ?_, ?_, ?_, ?_, ?_, ?_, by omega⟩
    · subst e7 e6 e5 e4 e3 e2 e1; simp only [C.vbytes, List.append_assoc]
    all_goals (subst e7 e6 e5 e4 e3 e2 e1; simp only [List.length_append]; omega)
  rw [← E.out.1]
  have G1 : Hid _ := e1
  have G2 : Hid _ := e2
  have G3 : Hid _ := e3
  have G4 : Hid _ := e4
  have G5 : Hid _ := e5
  have G6 : Hid _ := e6
  have G7 : Hid _ := e7
  clear e1 e2 e3 e4 e5 e6 e7 N0 N1 N2 N3 N4 N5 N6 hb hv hl
  simp only [V7.v]
  go_enter Try.func31, Try.ntmps31
  go_wp2
  refine wp_loop_rounds 8 ?_
  rw [rounds_succ]
  go_wp2_with fail
  refine (refnum_at pb nb cb lb l1 a0 _ (HI0.out.below (below_new _ _)) HV.out.1 E.out.2.2.2.2.2.2.2 G1.out).mono ?_
  rintro x w1 ⟨⟨p1, n1, c1, rfl, hi1⟩, hb1⟩
  have HI1 : Hid _ := hi1
  have HQ1 : Hid (RB w1 w.heap.size ⟨a0, a1, a2, a3, a4, a5, a6⟩) := kept_block hb1
  have HB1 : Hid (Below w.heap.size w w1) := bt (below_new _ _) hb1
  obtain ⟨A0, A1, A2, A3, A4, A5, A6⟩ := box7 HQ1.out
  clear hi1 hb1
  go_wp2
  rw [rounds_succ]
  go_wp2_with fail
  refine (refnum_at p1 n1 c1 l1 l2 a1 _ HI1.out HV.out.2.1 E.out.2.1 G2.out).mono ?_
  rintro x w2 ⟨⟨p2, n2, c2, rfl, hi2⟩, hb2⟩
  have HI2 : Hid _ := hi2
  have HQ2 : Hid (RB w2 w.heap.size ⟨a0, a1, a2, a3, a4, a5, a6⟩) := HQ1.out.keep hb2
  have HB2 : Hid (Below w.heap.size w w2) := bt HB1.out hb2
  clear A0 A1 A2 A3 A4 A5 A6 hi2 hb2
  obtain ⟨A0, A1, A2, A3, A4, A5, A6⟩ := box7 HQ2.out
  go_wp2
  rw [rounds_succ]
  go_wp2_with fail
  refine (refnum_at p2 n2 c2 l2 l3 a2 _ HI2.out HV.out.2.2.1 E.out.2.2.1 G3.out).mono ?_
  rintro x w3 ⟨⟨p3, n3, c3, rfl, hi3⟩, hb3⟩
  have HI3 : Hid _ := hi3
  have HQ3 : Hid (RB w3 w.heap.size ⟨a0, a1, a2, a3, a4, a5, a6⟩) := HQ2.out.keep hb3
  have HB3 : Hid (Below w.heap.size w w3) := bt HB2.out hb3
  clear A0 A1 A2 A3 A4 A5 A6 hi3 hb3
  obtain ⟨A0, A1, A2, A3, A4, A5, A6⟩ := box7 HQ3.out
  go_wp2
  rw [rounds_succ]
  go_wp2_with fail
  refine (refnum_at p3 n3 c3 l3 l4 a3 _ HI3.out HV.out.2.2.2.1 E.out.2.2.2.1 G4.out).mono ?_
  rintro x w4 ⟨⟨p4, n4, c4, rfl, hi4⟩, hb4⟩
  have HI4 : Hid _ := hi4
  have HQ4 : Hid (RB w4 w.heap.size ⟨a0, a1, a2, a3, a4, a5, a6⟩) := HQ3.out.keep hb4
  have HB4 : Hid (Below w.heap.size w w4) := bt HB3.out hb4
  clear A0 A1 A2 A3 A4 A5 A6 hi4 hb4
  obtain ⟨A0, A1, A2, A3, A4, A5, A6⟩ := box7 HQ4.out
  go_wp2
  rw [rounds_succ]
  go_wp2_with fail
  refine (refnum_at p4 n4 c4 l4 l5 a4 _ HI4.out HV.out.2.2.2.2.1 E.out.2.2.2.2.1 G5.out).mono ?_
  rintro x w5 ⟨⟨p5, n5, c5, rfl, hi5⟩, hb5⟩
  have HI5 : Hid _ := hi5
  have HQ5 : Hid (RB w5 w.heap.size ⟨a0, a1, a2, a3, a4, a5, a6⟩) := HQ4.out.keep hb5
  have HB5 : Hid (Below w.heap.size w w5) := bt HB4.out hb5
  clear A0 A1 A2 A3 A4 A5 A6 hi5 hb5
  obtain ⟨A0, A1, A2, A3, A4, A5, A6⟩ := box7 HQ5.out
  go_wp2
  rw [rounds_succ]
  go_wp2_with fail
  refine (refnum_at p5 n5 c5 l5 l6 a5 _ HI5.out HV.out.2.2.2.2.2.1 E.out.2.2.2.2.2.1 G6.out).mono ?_
  rintro x w6 ⟨⟨p6, n6, c6, rfl, hi6⟩, hb6⟩
  have HI6 : Hid _ := hi6
  have HQ6 : Hid (RB w6 w.heap.size ⟨a0, a1, a2, a3, a4, a5, a6⟩) := HQ5.out.keep hb6
  have HB6 : Hid (Below w.heap.size w w6) := bt HB5.out hb6
  clear A0 A1 A2 A3 A4 A5 A6 hi6 hb6
  obtain ⟨A0, A1, A2, A3, A4, A5, A6⟩ := box7 HQ6.out
  go_wp2
  rw [rounds_succ]
  go_wp2_with fail
  refine (refnum_at p6 n6 c6 l6 l7 a6 _ HI6.out HV.out.2.2.2.2.2.2 E.out.2.2.2.2.2.2.1 G7.out).mono ?_
  rintro x w7 ⟨⟨p7, n7, c7, rfl, hi7⟩, hb7⟩
  have HI7 : Hid _ := hi7
  have HQ7 : Hid (RB w7 w.heap.size ⟨a0, a1, a2, a3, a4, a5, a6⟩) := HQ6.out.keep hb7
  have HB7 : Hid (Below w.heap.size w w7) := bt HB6.out hb7
  clear A0 A1 A2 A3 A4 A5 A6 hi7 hb7
  obtain ⟨A0, A1, A2, A3, A4, A5, A6⟩ := box7 HQ7.out
  go_wp2
  rw [rounds_succ]
  go_wp2
  go_ret
  exact ⟨⟨_, _, _, rfl, HI7.out⟩, HB7.out⟩
theorem rgrow_nb {w : World} {b : Nat} {v : V7} (h : RB w b v) : NB w b := nb7 h
theorem rlen' {s s' : Option (List UInt8)} {a b v : Int} (h : C.rnum s a b = (v, s')) (hl : (s.getD []).length ≤ 100000) : (s'.getD []).length ≤ 100000 := rnum_len' h hl
set_option maxRecDepth 100000 in
set_option maxHeartbeats 8000000 in
theorem rgetN_any (w : World) (g : Nat) (p : Option Addr) (n c : Nat) (l : List UInt8) (s s0 s1 s2 s3 s4 s5 s6 : Option (List UInt8)) (x0 x1 x2 x3 x4 x5 x6 : Int) (h : Rs w g p n c l s) (hl : l.length ≤ 100000)
    (h0 : C.rnum s 0 1099511627776 = (x0, s0)) (h1 : C.rnum s0 0 1099511627776 = (x1, s1)) (h2 : C.rnum s1 0 1099511627776 = (x2, s2)) (h3 : C.rnum s2 0 1099511627776 = (x3, s3)) (h4 : C.rnum s3 0 1099511627776 = (x4, s4)) (h5 : C.rnum s4 0 1099511627776 = (x5, s5)) (h6 : C.rnum s5 0 1099511627776 = (x6, s6)) :
    Calls Try.prog 17 #[.pointer (some ⟨g, 0, none⟩)] w fun e w' => e = .returned (if s6.isNone then zero7 else ⟨x0, x1, x2, x3, x4, x5, x6⟩ : V7).v ∧ Rs w' g p n c l s6 ∧ w.grownBy w' (some g) := by
  have HX : Hid (Rs w g p n c l s) := h
  have HG : Hid (g < w.heap.size) := h.lt
  have HL : Hid (l.length ≤ 100000) := hl
  have E0 : Hid _ := h0
  have E1 : Hid _ := h1
  have E2 : Hid _ := h2
  have E3 : Hid _ := h3
  have E4 : Hid _ := h4
  have E5 : Hid _ := h5
  have E6 : Hid _ := h6
  clear h hl h0 h1 h2 h3 h4 h5 h6
  go_enter Try.func17, Try.ntmps17
  go_wp2
  refine wp_loop_rounds 8 ?_
  rw [rounds_succ]
  go_wp2_with fail
  refine (refrnum_at _ g p n c l s s0 0 1099511627776 x0 (HX.out.below (bt (below_new _ _) (below_new _ _))) HL.out E0.out).mono ?_
  rintro x w0 ⟨rfl, hr0, hg0'⟩
  have hz0 : w0.heap[w.heap.size]? = some (.cells #[.int .i64 0, .int .i64 0, .int .i64 0, .int .i64 0, .int .i64 0, .int .i64 0, .int .i64 0] 37) := (hg0'.block _ (by simp <;> omega) (fun e => by have := HG.out; have := Option.some.inj e; omega)).trans (by rw [(below_new _ _).block _ (by simp)]; exact heap_alloc_new _ _)
  have hq0 : w0.heap[w.heap.size + 1]? = some (.cells #[.int .i64 0, .int .i64 0, .int .i64 0, .int .i64 0, .int .i64 0, .int .i64 0, .int .i64 0] 37) := (hg0'.block _ (by simp) (fun e => by have := HG.out; have := Option.some.inj e; omega)).trans (by have := heap_alloc_new (w.alloc (.cells #[.int .i64 0, .int .i64 0, .int .i64 0, .int .i64 0, .int .i64 0, .int .i64 0, .int .i64 0] 37)) (.cells #[.int .i64 0, .int .i64 0, .int .i64 0, .int .i64 0, .int .i64 0, .int .i64 0, .int .i64 0] 37); simpa using this)
  have hg0 : w.grownBy w0 (some g) := gtrans (gbelow (bt (below_new _ _) (below_new _ _))) hg0'
  clear hg0'
  have HR0 : Hid (Rs (w0.setCell ⟨w.heap.size + 1, 0, none⟩ (.int .i64 x0)) g p n c l s0) := hr0.kept (set_grown _ _ _ _) (nb7 hq0) (by have := HG.out; omega)
  have HZ0 : Hid _ := hz0
  have HQ0 : Hid _ := hq0
  have HGB0 : Hid _ := hg0
  have f0 := frozen_cells hq0 0
  have a0 := (box7 hq0).1
  clear hr0 hz0 hq0 hg0
  go_wp2
  rw [rounds_succ]
  go_wp2_with fail
  refine (refrnum_at _ g p n c l s0 s1 0 1099511627776 x1 HR0.out HL.out E1.out).mono ?_
  rintro x w1 ⟨rfl, hr1, hg1'⟩
  have hz1 : w1.heap[w.heap.size]? = some (.cells #[.int .i64 0, .int .i64 0, .int .i64 0, .int .i64 0, .int .i64 0, .int .i64 0, .int .i64 0] 37) := (hg1'.block _ (by rw [size_set]; exact (Array.getElem?_eq_some_iff.1 HZ0.out).1) (fun e => by have := HG.out; have := Option.some.inj e; omega)).trans ((Below.heap_setCell _ _ _ _ (by show w.heap.size ≠ w.heap.size + 1; omega)).trans HZ0.out)
  have hq1 : w1.heap[w.heap.size + 1]? = some (.cells #[.int .i64 x0, .int .i64 0, .int .i64 0, .int .i64 0, .int .i64 0, .int .i64 0, .int .i64 0] 37) := (hg1'.block _ (by rw [size_set]; exact (Array.getElem?_eq_some_iff.1 HQ0.out).1) (fun e => by have := HG.out; have := Option.some.inj e; omega)).trans (set_block HQ0.out)
  have hg1 : w.grownBy w1 (some g) := gtrans (grown_set HGB0.out (Nat.le_succ _)) hg1'
  clear hg1' f0 a0
  have HR1 : Hid (Rs (w1.setCell ⟨w.heap.size + 1, 1, none⟩ (.int .i64 x1)) g p n c l s1) := hr1.kept (set_grown _ _ _ _) (nb7 hq1) (by have := HG.out; omega)
  have HZ1 : Hid _ := hz1
  have HQ1 : Hid _ := hq1
  have HGB1 : Hid _ := hg1
  have f1 := frozen_cells hq1 1
  have a1 := (box7 hq1).2.1
  clear hr1 hz1 hq1 hg1
  go_wp2
  rw [rounds_succ]
  go_wp2_with fail
  refine (refrnum_at _ g p n c l s1 s2 0 1099511627776 x2 HR1.out HL.out E2.out).mono ?_
  rintro x w2 ⟨rfl, hr2, hg2'⟩
  have hz2 : w2.heap[w.heap.size]? = some (.cells #[.int .i64 0, .int .i64 0, .int .i64 0, .int .i64 0, .int .i64 0, .int .i64 0, .int .i64 0] 37) := (hg2'.block _ (by rw [size_set]; exact (Array.getElem?_eq_some_iff.1 HZ1.out).1) (fun e => by have := HG.out; have := Option.some.inj e; omega)).trans ((Below.heap_setCell _ _ _ _ (by show w.heap.size ≠ w.heap.size + 1; omega)).trans HZ1.out)
  have hq2 : w2.heap[w.heap.size + 1]? = some (.cells #[.int .i64 x0, .int .i64 x1, .int .i64 0, .int .i64 0, .int .i64 0, .int .i64 0, .int .i64 0] 37) := (hg2'.block _ (by rw [size_set]; exact (Array.getElem?_eq_some_iff.1 HQ1.out).1) (fun e => by have := HG.out; have := Option.some.inj e; omega)).trans (set_block HQ1.out)
  have hg2 : w.grownBy w2 (some g) := gtrans (grown_set HGB1.out (Nat.le_succ _)) hg2'
  clear hg2' f1 a1
  have HR2 : Hid (Rs (w2.setCell ⟨w.heap.size + 1, 2, none⟩ (.int .i64 x2)) g p n c l s2) := hr2.kept (set_grown _ _ _ _) (nb7 hq2) (by have := HG.out; omega)
  have HZ2 : Hid _ := hz2
  have HQ2 : Hid _ := hq2
  have HGB2 : Hid _ := hg2
  have f2 := frozen_cells hq2 2
  have a2 := (box7 hq2).2.2.1
  clear hr2 hz2 hq2 hg2
  go_wp2
  rw [rounds_succ]
  go_wp2_with fail
  refine (refrnum_at _ g p n c l s2 s3 0 1099511627776 x3 HR2.out HL.out E3.out).mono ?_
  rintro x w3 ⟨rfl, hr3, hg3'⟩
  have hz3 : w3.heap[w.heap.size]? = some (.cells #[.int .i64 0, .int .i64 0, .int .i64 0, .int .i64 0, .int .i64 0, .int .i64 0, .int .i64 0] 37) := (hg3'.block _ (by rw [size_set]; exact (Array.getElem?_eq_some_iff.1 HZ2.out).1) (fun e => by have := HG.out; have := Option.some.inj e; omega)).trans ((Below.heap_setCell _ _ _ _ (by show w.heap.size ≠ w.heap.size + 1; omega)).trans HZ2.out)
  have hq3 : w3.heap[w.heap.size + 1]? = some (.cells #[.int .i64 x0, .int .i64 x1, .int .i64 x2, .int .i64 0, .int .i64 0, .int .i64 0, .int .i64 0] 37) := (hg3'.block _ (by rw [size_set]; exact (Array.getElem?_eq_some_iff.1 HQ2.out).1) (fun e => by have := HG.out; have := Option.some.inj e; omega)).trans (set_block HQ2.out)
  have hg3 : w.grownBy w3 (some g) := gtrans (grown_set HGB2.out (Nat.le_succ _)) hg3'
  clear hg3' f2 a2
  have HR3 : Hid (Rs (w3.setCell ⟨w.heap.size + 1, 3, none⟩ (.int .i64 x3)) g p n c l s3) := hr3.kept (set_grown _ _ _ _) (nb7 hq3) (by have := HG.out; omega)
  have HZ3 : Hid _ := hz3
  have HQ3 : Hid _ := hq3
  have HGB3 : Hid _ := hg3
  have f3 := frozen_cells hq3 3
  have a3 := (box7 hq3).2.2.2.1
  clear hr3 hz3 hq3 hg3
  go_wp2
  rw [rounds_succ]
  go_wp2_with fail
  refine (refrnum_at _ g p n c l s3 s4 0 1099511627776 x4 HR3.out HL.out E4.out).mono ?_
  rintro x w4 ⟨rfl, hr4, hg4'⟩
  have hz4 : w4.heap[w.heap.size]? = some (.cells #[.int .i64 0, .int .i64 0, .int .i64 0, .int .i64 0, .int .i64 0, .int .i64 0, .int .i64 0] 37) := (hg4'.block _ (by rw [size_set]; exact (Array.getElem?_eq_some_iff.1 HZ3.out).1) (fun e => by have := HG.out; have := Option.some.inj e; omega)).trans ((Below.heap_setCell _ _ _ _ (by show w.heap.size ≠ w.heap.size + 1; omega)).trans HZ3.out)
  have hq4 : w4.heap[w.heap.size + 1]? = some (.cells #[.int .i64 x0, .int .i64 x1, .int .i64 x2, .int .i64 x3, .int .i64 0, .int .i64 0, .int .i64 0] 37) := (hg4'.block _ (by rw [size_set]; exact (Array.getElem?_eq_some_iff.1 HQ3.out).1) (fun e => by have := HG.out; have := Option.some.inj e; omega)).trans (set_block HQ3.out)
  have hg4 : w.grownBy w4 (some g) := gtrans (grown_set HGB3.out (Nat.le_succ _)) hg4'
  clear hg4' f3 a3
  have HR4 : Hid (Rs (w4.setCell ⟨w.heap.size + 1, 4, none⟩ (.int .i64 x4)) g p n c l s4) := hr4.kept (set_grown _ _ _ _) (nb7 hq4) (by have := HG.out; omega)
  have HZ4 : Hid _ := hz4
  have HQ4 : Hid _ := hq4
  have HGB4 : Hid _ := hg4
  have f4 := frozen_cells hq4 4
  have a4 := (box7 hq4).2.2.2.2.1
  clear hr4 hz4 hq4 hg4
  go_wp2
  rw [rounds_succ]
  go_wp2_with fail
  refine (refrnum_at _ g p n c l s4 s5 0 1099511627776 x5 HR4.out HL.out E5.out).mono ?_
  rintro x w5 ⟨rfl, hr5, hg5'⟩
  have hz5 : w5.heap[w.heap.size]? = some (.cells #[.int .i64 0, .int .i64 0, .int .i64 0, .int .i64 0, .int .i64 0, .int .i64 0, .int .i64 0] 37) := (hg5'.block _ (by rw [size_set]; exact (Array.getElem?_eq_some_iff.1 HZ4.out).1) (fun e => by have := HG.out; have := Option.some.inj e; omega)).trans ((Below.heap_setCell _ _ _ _ (by show w.heap.size ≠ w.heap.size + 1; omega)).trans HZ4.out)
  have hq5 : w5.heap[w.heap.size + 1]? = some (.cells #[.int .i64 x0, .int .i64 x1, .int .i64 x2, .int .i64 x3, .int .i64 x4, .int .i64 0, .int .i64 0] 37) := (hg5'.block _ (by rw [size_set]; exact (Array.getElem?_eq_some_iff.1 HQ4.out).1) (fun e => by have := HG.out; have := Option.some.inj e; omega)).trans (set_block HQ4.out)
  have hg5 : w.grownBy w5 (some g) := gtrans (grown_set HGB4.out (Nat.le_succ _)) hg5'
  clear hg5' f4 a4
  have HR5 : Hid (Rs (w5.setCell ⟨w.heap.size + 1, 5, none⟩ (.int .i64 x5)) g p n c l s5) := hr5.kept (set_grown _ _ _ _) (nb7 hq5) (by have := HG.out; omega)
  have HZ5 : Hid _ := hz5
  have HQ5 : Hid _ := hq5
  have HGB5 : Hid _ := hg5
  have f5 := frozen_cells hq5 5
  have a5 := (box7 hq5).2.2.2.2.2.1
  clear hr5 hz5 hq5 hg5
  go_wp2
  rw [rounds_succ]
  go_wp2_with fail
  refine (refrnum_at _ g p n c l s5 s6 0 1099511627776 x6 HR5.out HL.out E6.out).mono ?_
  rintro x w6 ⟨rfl, hr6, hg6'⟩
  have hz6 : w6.heap[w.heap.size]? = some (.cells #[.int .i64 0, .int .i64 0, .int .i64 0, .int .i64 0, .int .i64 0, .int .i64 0, .int .i64 0] 37) := (hg6'.block _ (by rw [size_set]; exact (Array.getElem?_eq_some_iff.1 HZ5.out).1) (fun e => by have := HG.out; have := Option.some.inj e; omega)).trans ((Below.heap_setCell _ _ _ _ (by show w.heap.size ≠ w.heap.size + 1; omega)).trans HZ5.out)
  have hq6 : w6.heap[w.heap.size + 1]? = some (.cells #[.int .i64 x0, .int .i64 x1, .int .i64 x2, .int .i64 x3, .int .i64 x4, .int .i64 x5, .int .i64 0] 37) := (hg6'.block _ (by rw [size_set]; exact (Array.getElem?_eq_some_iff.1 HQ5.out).1) (fun e => by have := HG.out; have := Option.some.inj e; omega)).trans (set_block HQ5.out)
  have hg6 : w.grownBy w6 (some g) := gtrans (grown_set HGB5.out (Nat.le_succ _)) hg6'
  clear hg6' f5 a5
  have HR6 : Hid (Rs (w6.setCell ⟨w.heap.size + 1, 6, none⟩ (.int .i64 x6)) g p n c l s6) := hr6.kept (set_grown _ _ _ _) (nb7 hq6) (by have := HG.out; omega)
  have HZ6 : Hid _ := hz6
  have HQ6 : Hid _ := hq6
  have HGB6 : Hid _ := hg6
  have f6 := frozen_cells hq6 6
  have a6 := (box7 hq6).2.2.2.2.2.2
  clear hr6 hz6 hq6 hg6
  have HW : Hid (∃ W, W = w6.setCell ⟨w.heap.size + 1, 6, none⟩ (.int .i64 x6) ∧ Rs W g p n c l s6 ∧ w.grownBy W (some g) ∧ W.heap[w.heap.size]? = some (.cells #[.int .i64 0, .int .i64 0, .int .i64 0, .int .i64 0, .int .i64 0, .int .i64 0, .int .i64 0] 37) ∧ W.heap[w.heap.size + 1]? = some (.cells #[.int .i64 x0, .int .i64 x1, .int .i64 x2, .int .i64 x3, .int .i64 x4, .int .i64 x5, .int .i64 x6] 37)) :=
    ⟨_, rfl, HR6.out, grown_set HGB6.out (Nat.le_succ _), (Below.heap_setCell _ _ _ _ (by show w.heap.size ≠ w.heap.size + 1; omega)).trans HZ6.out, set_block HQ6.out⟩
  clear HR6 HZ6 HQ6 HGB6 HR5 HZ5 HQ5 HGB5 HR4 HZ4 HQ4 HGB4 HR3 HZ3 HQ3 HGB3 HR2 HZ2 HQ2 HGB2 HR1 HZ1 HQ1 HGB1 HR0 HZ0 HQ0 HGB0
  obtain ⟨W, hWe, hR, hG, hZ, hQ⟩ := HW.out
  go_wp2
  rw [rounds_succ]
  rw [← hWe]
  clear f6 a6 hWe HW
  have HR : Hid _ := hR
  have HGW : Hid _ := hG
  obtain ⟨b0, b1, b2, b3, b4, b5, b6⟩ := box7 hZ
  obtain ⟨f0, f1, f2, f3, f4, f5, f6⟩ := frozen7 hZ
  obtain ⟨q0, q1, q2, q3, q4, q5, q6⟩ := box7 hQ
  have HNB : Hid (NB W w.heap.size) := nb7 hZ
  have HLT : Hid (g ≠ w.heap.size) := by have := HG.out; show ¬ _; omega
  clear hZ hQ hG
  cases s6 with
  | none =>
    obtain ⟨ai, hrr, hdr⟩ := hR
    clear hdr
    have k2 : W.cell? ⟨g, 2, none⟩ = some (.bool true) := hrr.c2
    clear hrr
    go_wp2
    refine bodyPost_ret (v := zero7.v) (by simp [results, Try.results17, go_sem, zero7, V7.v, *]) rfl ⟨rfl, ?_, ?_⟩
    · exact Rs.kept HR.out (sets7 _ _ _ _ _ _ _ _ _) HNB.out HLT.out
    · repeat' (refine grown_set ?_ (Nat.le_refl _))
      exact HGW.out
  | some r =>
    obtain ⟨ai, hrr, hdr⟩ := hR
    clear hdr
    have k2 : W.cell? ⟨g, 2, none⟩ = some (.bool false) := hrr.c2
    clear hrr
    go_wp2
    refine bodyPost_ret (v := (⟨x0, x1, x2, x3, x4, x5, x6⟩ : V7).v) (by simp [results, Try.results17, go_sem, V7.v, *]) rfl ⟨rfl, ?_, ?_⟩
    · exact Rs.kept HR.out (sets7 _ _ _ _ _ _ _ _ _) HNB.out HLT.out
    · repeat' (refine grown_set ?_ (Nat.le_refl _))
      exact HGW.out
theorem rget_any (w : World) (g : Nat) (p : Option Addr) (n c : Nat) (l : List UInt8) (s : Option (List UInt8)) (h : Rs w g p n c l s) (hl : l.length ≤ 100000) :
    Calls Try.prog 17 #[.pointer (some ⟨g, 0, none⟩)] w fun e w' => e = .returned (C.getV s).1.v ∧ Rs w' g p n c l (C.getV s).2 ∧ w.grownBy w' (some g) := by
  obtain ⟨x0, s0, h0⟩ : ∃ x s', C.rnum s 0 1099511627776 = (x, s') := ⟨_, _, rfl⟩
  obtain ⟨x1, s1, h1⟩ : ∃ x s', C.rnum s0 0 1099511627776 = (x, s') := ⟨_, _, rfl⟩
  obtain ⟨x2, s2, h2⟩ : ∃ x s', C.rnum s1 0 1099511627776 = (x, s') := ⟨_, _, rfl⟩
  obtain ⟨x3, s3, h3⟩ : ∃ x s', C.rnum s2 0 1099511627776 = (x, s') := ⟨_, _, rfl⟩
  obtain ⟨x4, s4, h4⟩ : ∃ x s', C.rnum s3 0 1099511627776 = (x, s') := ⟨_, _, rfl⟩
  obtain ⟨x5, s5, h5⟩ : ∃ x s', C.rnum s4 0 1099511627776 = (x, s') := ⟨_, _, rfl⟩
  obtain ⟨x6, s6, h6⟩ : ∃ x s', C.rnum s5 0 1099511627776 = (x, s') := ⟨_, _, rfl⟩
  rw [getV_eq h0 h1 h2 h3 h4 h5 h6]
  exact rgetN_any w g p n c l s s0 s1 s2 s3 s4 s5 s6 x0 x1 x2 x3 x4 x5 x6 h hl h0 h1 h2 h3 h4 h5 h6
theorem rget_at (w : World) (g : Nat) (p : Option Addr) (n c : Nat) (l : List UInt8) (s s1 : Option (List UInt8)) (v : V7) (h : Rs w g p n c l s) (hl : l.length ≤ 100000) (hv : C.getV s = (v, s1)) :
    Calls Try.prog 17 #[.pointer (some ⟨g, 0, none⟩)] w fun e w' => e = .returned v.v ∧ Rs w' g p n c l s1 ∧ w.grownBy w' (some g) := by
  have := rget_any w g p n c l s h hl
  rw [hv] at this
  exact this
end Go.Proofs.Ytmjkablhambelaa
