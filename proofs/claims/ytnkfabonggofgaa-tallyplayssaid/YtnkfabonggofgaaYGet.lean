/-
  tally.row, tally.Get.
-/
import Derived.Test.YtnkfabonggofgaaYObj
import Derived.Test.YtnkfabonggofgaaWGet
namespace Go.Proofs.Ytnkfabonggofgaa
open Go.RowKit Go.Lib
set_option linter.unusedVariables false

set_option maxRecDepth 100000 in
set_option maxHeartbeats 8000000 in
theorem row_any (w : World) (g : Nat) (s s0 s1 s2 s3 s4 s5 s6 : Option (List UInt8)) (p : Option Addr) (n c : Nat) (x0 x1 x2 x3 x4 x5 x6 : Int) (h : Rd w g s p n c) (hl : (s.getD []).length ≤ 100000)
    (h0 : C.rnum s 0 1125899906842624 = (x0, s0)) (h1 : C.rnum s0 0 1125899906842624 = (x1, s1)) (h2 : C.rnum s1 0 1125899906842624 = (x2, s2)) (h3 : C.rnum s2 0 1125899906842624 = (x3, s3)) (h4 : C.rnum s3 0 1125899906842624 = (x4, s4)) (h5 : C.rnum s4 0 1125899906842624 = (x5, s5)) (h6 : C.rnum s5 0 1125899906842624 = (x6, s6)) :
    Calls Try.prog 25 #[.pointer (some ⟨g, 0, none⟩)] w fun e w' => e = .returned (⟨x0, x1, x2, x3, x4, x5, x6⟩ : V7).v ∧ (∃ p' n' c', Rd w' g s6 p' n' c') ∧ w.grownBy w' (some g) := by
  have HX : Hid (Rd w g s p n c) := h
  have HG : Hid (g < w.heap.size) := h.lt
  have HL : Hid ((s.getD []).length ≤ 100000) := hl
  have L0 : Hid ((s0.getD []).length ≤ 100000) := rnum_len' h0 hl
  have L1 : Hid ((s1.getD []).length ≤ 100000) := rnum_len' h1 L0.out
  have L2 : Hid ((s2.getD []).length ≤ 100000) := rnum_len' h2 L1.out
  have L3 : Hid ((s3.getD []).length ≤ 100000) := rnum_len' h3 L2.out
  have L4 : Hid ((s4.getD []).length ≤ 100000) := rnum_len' h4 L3.out
  have L5 : Hid ((s5.getD []).length ≤ 100000) := rnum_len' h5 L4.out
  have E0 : Hid _ := h0
  have E1 : Hid _ := h1
  have E2 : Hid _ := h2
  have E3 : Hid _ := h3
  have E4 : Hid _ := h4
  have E5 : Hid _ := h5
  have E6 : Hid _ := h6
  clear h hl h0 h1 h2 h3 h4 h5 h6
  go_enter Try.func25, Try.ntmps25
  go_wp2
  refine wp_loop_rounds 8 ?_
  rw [rounds_succ]
  go_wp2_with fail
  refine (rnum_at _ g s _ _ _ 0 1125899906842624 x0 s0 (HX.out.below (bt (below_new _ _) (below_new _ _))) HL.out E0.out).mono ?_
  rintro x w0 ⟨rfl, ⟨p0, n0, c0, hr0⟩, hg0'⟩
  have hz0 : w0.heap[w.heap.size]? = some (.cells #[.int .i64 0, .int .i64 0, .int .i64 0, .int .i64 0, .int .i64 0, .int .i64 0, .int .i64 0] 49) := (hg0'.block _ (by simp <;> omega) (fun e => by have := HG.out; have := Option.some.inj e; omega)).trans (by rw [(below_new _ _).block _ (by simp)]; exact heap_alloc_new _ _)
  have hq0 : w0.heap[w.heap.size + 1]? = some (.cells #[.int .i64 0, .int .i64 0, .int .i64 0, .int .i64 0, .int .i64 0, .int .i64 0, .int .i64 0] 49) := (hg0'.block _ (by simp) (fun e => by have := HG.out; have := Option.some.inj e; omega)).trans (by have := heap_alloc_new (w.alloc (.cells #[.int .i64 0, .int .i64 0, .int .i64 0, .int .i64 0, .int .i64 0, .int .i64 0, .int .i64 0] 49)) (.cells #[.int .i64 0, .int .i64 0, .int .i64 0, .int .i64 0, .int .i64 0, .int .i64 0, .int .i64 0] 49); simpa using this)
  have hg0 : w.grownBy w0 (some g) := gtrans (gbelow (bt (below_new _ _) (below_new _ _))) hg0'
  clear hg0'
  have HR0 : Hid (Rd (w0.setCell ⟨w.heap.size + 1, 0, none⟩ (.int .i64 x0)) g s0 p0 n0 c0) := get_round hr0 hq0 (by have := HG.out; omega)
  have HZ0 : Hid _ := hz0
  have HQ0 : Hid _ := hq0
  have HGB0 : Hid _ := hg0
  have f0 := frozen_cells hq0 0
  have a0 := (box7 hq0).1
  clear hr0 hz0 hq0 hg0
  go_wp2
  rw [rounds_succ]
  go_wp2_with fail
  refine (rnum_at _ g s0 _ _ _ 0 1125899906842624 x1 s1 HR0.out L0.out E1.out).mono ?_
  rintro x w1 ⟨rfl, ⟨p1, n1, c1, hr1⟩, hg1'⟩
  have hz1 : w1.heap[w.heap.size]? = some (.cells #[.int .i64 0, .int .i64 0, .int .i64 0, .int .i64 0, .int .i64 0, .int .i64 0, .int .i64 0] 49) := (hg1'.block _ (by rw [size_set]; exact (Array.getElem?_eq_some_iff.1 HZ0.out).1) (fun e => by have := HG.out; have := Option.some.inj e; omega)).trans ((Below.heap_setCell _ _ _ _ (by show w.heap.size ≠ w.heap.size + 1; omega)).trans HZ0.out)
  have hq1 : w1.heap[w.heap.size + 1]? = some (.cells #[.int .i64 x0, .int .i64 0, .int .i64 0, .int .i64 0, .int .i64 0, .int .i64 0, .int .i64 0] 49) := (hg1'.block _ (by rw [size_set]; exact (Array.getElem?_eq_some_iff.1 HQ0.out).1) (fun e => by have := HG.out; have := Option.some.inj e; omega)).trans (set_block HQ0.out)
  have hg1 : w.grownBy w1 (some g) := gtrans (grown_set HGB0.out (Nat.le_succ _)) hg1'
  clear hg1' f0 a0
  have HR1 : Hid (Rd (w1.setCell ⟨w.heap.size + 1, 1, none⟩ (.int .i64 x1)) g s1 p1 n1 c1) := get_round hr1 hq1 (by have := HG.out; omega)
  have HZ1 : Hid _ := hz1
  have HQ1 : Hid _ := hq1
  have HGB1 : Hid _ := hg1
  have f1 := frozen_cells hq1 1
  have a1 := (box7 hq1).2.1
  clear hr1 hz1 hq1 hg1
  go_wp2
  rw [rounds_succ]
  go_wp2_with fail
  refine (rnum_at _ g s1 _ _ _ 0 1125899906842624 x2 s2 HR1.out L1.out E2.out).mono ?_
  rintro x w2 ⟨rfl, ⟨p2, n2, c2, hr2⟩, hg2'⟩
  have hz2 : w2.heap[w.heap.size]? = some (.cells #[.int .i64 0, .int .i64 0, .int .i64 0, .int .i64 0, .int .i64 0, .int .i64 0, .int .i64 0] 49) := (hg2'.block _ (by rw [size_set]; exact (Array.getElem?_eq_some_iff.1 HZ1.out).1) (fun e => by have := HG.out; have := Option.some.inj e; omega)).trans ((Below.heap_setCell _ _ _ _ (by show w.heap.size ≠ w.heap.size + 1; omega)).trans HZ1.out)
  have hq2 : w2.heap[w.heap.size + 1]? = some (.cells #[.int .i64 x0, .int .i64 x1, .int .i64 0, .int .i64 0, .int .i64 0, .int .i64 0, .int .i64 0] 49) := (hg2'.block _ (by rw [size_set]; exact (Array.getElem?_eq_some_iff.1 HQ1.out).1) (fun e => by have := HG.out; have := Option.some.inj e; omega)).trans (set_block HQ1.out)
  have hg2 : w.grownBy w2 (some g) := gtrans (grown_set HGB1.out (Nat.le_succ _)) hg2'
  clear hg2' f1 a1
  have HR2 : Hid (Rd (w2.setCell ⟨w.heap.size + 1, 2, none⟩ (.int .i64 x2)) g s2 p2 n2 c2) := get_round hr2 hq2 (by have := HG.out; omega)
  have HZ2 : Hid _ := hz2
  have HQ2 : Hid _ := hq2
  have HGB2 : Hid _ := hg2
  have f2 := frozen_cells hq2 2
  have a2 := (box7 hq2).2.2.1
  clear hr2 hz2 hq2 hg2
  go_wp2
  rw [rounds_succ]
  go_wp2_with fail
  refine (rnum_at _ g s2 _ _ _ 0 1125899906842624 x3 s3 HR2.out L2.out E3.out).mono ?_
  rintro x w3 ⟨rfl, ⟨p3, n3, c3, hr3⟩, hg3'⟩
  have hz3 : w3.heap[w.heap.size]? = some (.cells #[.int .i64 0, .int .i64 0, .int .i64 0, .int .i64 0, .int .i64 0, .int .i64 0, .int .i64 0] 49) := (hg3'.block _ (by rw [size_set]; exact (Array.getElem?_eq_some_iff.1 HZ2.out).1) (fun e => by have := HG.out; have := Option.some.inj e; omega)).trans ((Below.heap_setCell _ _ _ _ (by show w.heap.size ≠ w.heap.size + 1; omega)).trans HZ2.out)
  have hq3 : w3.heap[w.heap.size + 1]? = some (.cells #[.int .i64 x0, .int .i64 x1, .int .i64 x2, .int .i64 0, .int .i64 0, .int .i64 0, .int .i64 0] 49) := (hg3'.block _ (by rw [size_set]; exact (Array.getElem?_eq_some_iff.1 HQ2.out).1) (fun e => by have := HG.out; have := Option.some.inj e; omega)).trans (set_block HQ2.out)
  have hg3 : w.grownBy w3 (some g) := gtrans (grown_set HGB2.out (Nat.le_succ _)) hg3'
  clear hg3' f2 a2
  have HR3 : Hid (Rd (w3.setCell ⟨w.heap.size + 1, 3, none⟩ (.int .i64 x3)) g s3 p3 n3 c3) := get_round hr3 hq3 (by have := HG.out; omega)
  have HZ3 : Hid _ := hz3
  have HQ3 : Hid _ := hq3
  have HGB3 : Hid _ := hg3
  have f3 := frozen_cells hq3 3
  have a3 := (box7 hq3).2.2.2.1
  clear hr3 hz3 hq3 hg3
  go_wp2
  rw [rounds_succ]
  go_wp2_with fail
  refine (rnum_at _ g s3 _ _ _ 0 1125899906842624 x4 s4 HR3.out L3.out E4.out).mono ?_
  rintro x w4 ⟨rfl, ⟨p4, n4, c4, hr4⟩, hg4'⟩
  have hz4 : w4.heap[w.heap.size]? = some (.cells #[.int .i64 0, .int .i64 0, .int .i64 0, .int .i64 0, .int .i64 0, .int .i64 0, .int .i64 0] 49) := (hg4'.block _ (by rw [size_set]; exact (Array.getElem?_eq_some_iff.1 HZ3.out).1) (fun e => by have := HG.out; have := Option.some.inj e; omega)).trans ((Below.heap_setCell _ _ _ _ (by show w.heap.size ≠ w.heap.size + 1; omega)).trans HZ3.out)
  have hq4 : w4.heap[w.heap.size + 1]? = some (.cells #[.int .i64 x0, .int .i64 x1, .int .i64 x2, .int .i64 x3, .int .i64 0, .int .i64 0, .int .i64 0] 49) := (hg4'.block _ (by rw [size_set]; exact (Array.getElem?_eq_some_iff.1 HQ3.out).1) (fun e => by have := HG.out; have := Option.some.inj e; omega)).trans (set_block HQ3.out)
  have hg4 : w.grownBy w4 (some g) := gtrans (grown_set HGB3.out (Nat.le_succ _)) hg4'
  clear hg4' f3 a3
  have HR4 : Hid (Rd (w4.setCell ⟨w.heap.size + 1, 4, none⟩ (.int .i64 x4)) g s4 p4 n4 c4) := get_round hr4 hq4 (by have := HG.out; omega)
  have HZ4 : Hid _ := hz4
  have HQ4 : Hid _ := hq4
  have HGB4 : Hid _ := hg4
  have f4 := frozen_cells hq4 4
  have a4 := (box7 hq4).2.2.2.2.1
  clear hr4 hz4 hq4 hg4
  go_wp2
  rw [rounds_succ]
  go_wp2_with fail
  refine (rnum_at _ g s4 _ _ _ 0 1125899906842624 x5 s5 HR4.out L4.out E5.out).mono ?_
  rintro x w5 ⟨rfl, ⟨p5, n5, c5, hr5⟩, hg5'⟩
  have hz5 : w5.heap[w.heap.size]? = some (.cells #[.int .i64 0, .int .i64 0, .int .i64 0, .int .i64 0, .int .i64 0, .int .i64 0, .int .i64 0] 49) := (hg5'.block _ (by rw [size_set]; exact (Array.getElem?_eq_some_iff.1 HZ4.out).1) (fun e => by have := HG.out; have := Option.some.inj e; omega)).trans ((Below.heap_setCell _ _ _ _ (by show w.heap.size ≠ w.heap.size + 1; omega)).trans HZ4.out)
  have hq5 : w5.heap[w.heap.size + 1]? = some (.cells #[.int .i64 x0, .int .i64 x1, .int .i64 x2, .int .i64 x3, .int .i64 x4, .int .i64 0, .int .i64 0] 49) := (hg5'.block _ (by rw [size_set]; exact (Array.getElem?_eq_some_iff.1 HQ4.out).1) (fun e => by have := HG.out; have := Option.some.inj e; omega)).trans (set_block HQ4.out)
  have hg5 : w.grownBy w5 (some g) := gtrans (grown_set HGB4.out (Nat.le_succ _)) hg5'
  clear hg5' f4 a4
  have HR5 : Hid (Rd (w5.setCell ⟨w.heap.size + 1, 5, none⟩ (.int .i64 x5)) g s5 p5 n5 c5) := get_round hr5 hq5 (by have := HG.out; omega)
  have HZ5 : Hid _ := hz5
  have HQ5 : Hid _ := hq5
  have HGB5 : Hid _ := hg5
  have f5 := frozen_cells hq5 5
  have a5 := (box7 hq5).2.2.2.2.2.1
  clear hr5 hz5 hq5 hg5
  go_wp2
  rw [rounds_succ]
  go_wp2_with fail
  refine (rnum_at _ g s5 _ _ _ 0 1125899906842624 x6 s6 HR5.out L5.out E6.out).mono ?_
  rintro x w6 ⟨rfl, ⟨p6, n6, c6, hr6⟩, hg6'⟩
  have hz6 : w6.heap[w.heap.size]? = some (.cells #[.int .i64 0, .int .i64 0, .int .i64 0, .int .i64 0, .int .i64 0, .int .i64 0, .int .i64 0] 49) := (hg6'.block _ (by rw [size_set]; exact (Array.getElem?_eq_some_iff.1 HZ5.out).1) (fun e => by have := HG.out; have := Option.some.inj e; omega)).trans ((Below.heap_setCell _ _ _ _ (by show w.heap.size ≠ w.heap.size + 1; omega)).trans HZ5.out)
  have hq6 : w6.heap[w.heap.size + 1]? = some (.cells #[.int .i64 x0, .int .i64 x1, .int .i64 x2, .int .i64 x3, .int .i64 x4, .int .i64 x5, .int .i64 0] 49) := (hg6'.block _ (by rw [size_set]; exact (Array.getElem?_eq_some_iff.1 HQ5.out).1) (fun e => by have := HG.out; have := Option.some.inj e; omega)).trans (set_block HQ5.out)
  have hg6 : w.grownBy w6 (some g) := gtrans (grown_set HGB5.out (Nat.le_succ _)) hg6'
  clear hg6' f5 a5
  have HR6 : Hid (Rd (w6.setCell ⟨w.heap.size + 1, 6, none⟩ (.int .i64 x6)) g s6 p6 n6 c6) := get_round hr6 hq6 (by have := HG.out; omega)
  have HZ6 : Hid _ := hz6
  have HQ6 : Hid _ := hq6
  have HGB6 : Hid _ := hg6
  have f6 := frozen_cells hq6 6
  have a6 := (box7 hq6).2.2.2.2.2.2
  clear hr6 hz6 hq6 hg6
  go_wp2
  have HW : Hid (∃ W, W = w6.setCell ⟨w.heap.size + 1, 6, none⟩ (.int .i64 x6) ∧ Rd W g s6 p6 n6 c6 ∧ w.grownBy W (some g) ∧ W.heap[w.heap.size]? = some (.cells #[.int .i64 0, .int .i64 0, .int .i64 0, .int .i64 0, .int .i64 0, .int .i64 0, .int .i64 0] 49) ∧ W.heap[w.heap.size + 1]? = some (.cells #[.int .i64 x0, .int .i64 x1, .int .i64 x2, .int .i64 x3, .int .i64 x4, .int .i64 x5, .int .i64 x6] 49)) :=
    ⟨_, rfl, HR6.out, grown_set HGB6.out (Nat.le_succ _), (Below.heap_setCell _ _ _ _ (by show w.heap.size ≠ w.heap.size + 1; omega)).trans HZ6.out, set_block HQ6.out⟩
  clear HR6 HZ6 HQ6 HGB6 f6 a6 HR5 HZ5 HQ5 HGB5 HR4 HZ4 HQ4 HGB4 HR3 HZ3 HQ3 HGB3 HR2 HZ2 HQ2 HGB2 HR1 HZ1 HQ1 HGB1 HR0 HZ0 HQ0 HGB0
  obtain ⟨W, hWe, hR, hG, hZ, hQ⟩ := HW.out
  rw [← hWe]
  have HR : Hid _ := hR
  have HGW : Hid _ := hG
  clear hR hG hWe HW
  obtain ⟨b0, b1, b2, b3, b4, b5, b6⟩ := box7 hZ
  obtain ⟨f0, f1, f2, f3, f4, f5, f6⟩ := frozen7 hZ
  obtain ⟨q0, q1, q2, q3, q4, q5, q6⟩ := box7 hQ
  have HNB : Hid (NB W w.heap.size) := nb7 hZ
  clear hZ hQ
  rw [rounds_succ]
  go_wp2
  refine bodyPost_ret (v := (⟨x0, x1, x2, x3, x4, x5, x6⟩ : V7).v) (by simp [results, Try.results25, go_sem, V7.v, *]) rfl ⟨rfl, ⟨p6, n6, c6, ?_⟩, ?_⟩
  · refine HR.out.kept (sets7 _ _ _ _ _ _ _ _ _) HNB.out (by have := HG.out; omega)
  · repeat' (refine grown_set ?_ (Nat.le_refl _))
    exact HGW.out
theorem row_at (w : World) (g : Nat) (s s' : Option (List UInt8)) (p : Option Addr) (n c : Nat) (v : V7) (h : Rd w g s p n c) (hl : (s.getD []).length ≤ 100000) (hv : C.getN s 1125899906842624 = (v, s')) :
    Calls Try.prog 25 #[.pointer (some ⟨g, 0, none⟩)] w fun e w' => e = .returned v.v ∧ (∃ p' n' c', Rd w' g s' p' n' c') ∧ w.grownBy w' (some g) := by
  obtain ⟨x0, s0, h0⟩ : ∃ x s', C.rnum s 0 1125899906842624 = (x, s') := ⟨_, _, rfl⟩
  obtain ⟨x1, s1, h1⟩ : ∃ x s', C.rnum s0 0 1125899906842624 = (x, s') := ⟨_, _, rfl⟩
  obtain ⟨x2, s2, h2⟩ : ∃ x s', C.rnum s1 0 1125899906842624 = (x, s') := ⟨_, _, rfl⟩
  obtain ⟨x3, s3, h3⟩ : ∃ x s', C.rnum s2 0 1125899906842624 = (x, s') := ⟨_, _, rfl⟩
  obtain ⟨x4, s4, h4⟩ : ∃ x s', C.rnum s3 0 1125899906842624 = (x, s') := ⟨_, _, rfl⟩
  obtain ⟨x5, s5, h5⟩ : ∃ x s', C.rnum s4 0 1125899906842624 = (x, s') := ⟨_, _, rfl⟩
  obtain ⟨x6, s6, h6⟩ : ∃ x s', C.rnum s5 0 1125899906842624 = (x, s') := ⟨_, _, rfl⟩
  have e : C.getN s 1125899906842624 = (⟨x0, x1, x2, x3, x4, x5, x6⟩, s6) := by
    simp only [C.getN, h0, h1, h2, h3, h4, h5, h6]
  rw [e] at hv
  simp only [Prod.mk.injEq] at hv
  obtain ⟨rfl, rfl⟩ := hv
  exact row_any w g s s0 s1 s2 s3 s4 s5 s6 p n c x0 x1 x2 x3 x4 x5 x6 h hl h0 h1 h2 h3 h4 h5 h6
theorem getN_len (s : Option (List UInt8)) (m : Int) : ((C.getN s m).2.getD []).length ≤ (s.getD []).length := by
  unfold C.getN
  exact Nat.le_trans (rnum_len _ _ _) (Nat.le_trans (rnum_len _ _ _) (Nat.le_trans (rnum_len _ _ _) (Nat.le_trans (rnum_len _ _ _) (Nat.le_trans (rnum_len _ _ _) (Nat.le_trans (rnum_len _ _ _) (rnum_len _ _ _))))))
/-- What Get leaves: none, if the reader is bad then. -/
def TGet (w : World) (g : Nat) (t : TypeId) (T : C.Ta) (s : Option (List UInt8)) (e : Ending) (w' : World) : Prop :=
  (s = none ∧ e = .returned (.pointer none)) ∨ (∃ r k, s = some r ∧ e = .returned (.pointer (some ⟨k, 0, none⟩)) ∧ w.heap.size ≤ k ∧ TaAt w' k t T)
set_option maxRecDepth 100000 in
set_option maxHeartbeats 4000000 in
theorem tget_any (w : World) (g : Nat) (s s' : Option (List UInt8)) (p : Option Addr) (n c : Nat) (T : C.Ta) (h : Rd w g s p n c) (hl : (s.getD []).length ≤ 100000) (hv : C.getT s = (T, s')) :
    Calls Try.prog 11 #[.pointer (some ⟨g, 0, none⟩)] w fun e w' => TGet w g 51 T s' e w' ∧ (∃ p' n' c', Rd w' g s' p' n' c') ∧ w.grownBy w' (some g) := by
  obtain ⟨U, s1, h1⟩ : ∃ U s1, C.getN s 1125899906842624 = (U, s1) := ⟨_, _, rfl⟩
  obtain ⟨D, s2, h2⟩ : ∃ D s2, C.getN s1 1125899906842624 = (D, s2) := ⟨_, _, rfl⟩
  have e : C.getT s = (⟨U, D⟩, s2) := by simp only [C.getT, h1, h2]
  rw [e] at hv
  simp only [Prod.mk.injEq] at hv
  obtain ⟨rfl, rfl⟩ := hv
  have HL1 : Hid ((s1.getD []).length ≤ 100000) := by have := getN_len s 1125899906842624; rw [h1] at this; exact Nat.le_trans this hl
  have H1 : Hid _ := row_at w g s s1 p n c U h hl h1
  have H2 : Hid (∀ w p n c, Rd w g s1 p n c → Calls Try.prog 25 #[.pointer (some ⟨g, 0, none⟩)] w fun e w' => e = .returned D.v ∧ (∃ p' n' c', Rd w' g s2 p' n' c') ∧ w.grownBy w' (some g)) := fun w p n c h => row_at w g s1 s2 p n c D h HL1.out h2
  clear h hl h1 h2 e HL1
  obtain ⟨u0, u1, u2, u3, u4, u5, u6⟩ := U
  obtain ⟨d0, d1, d2, d3, d4, d5, d6⟩ := D
  simp only [V7.v] at H1 H2
  go_enter Try.func11, Try.ntmps11
  go_wp2_with fail
  refine Calls.mono H1.out ?_
  rintro e w1 ⟨rfl, ⟨p1, n1, c1, hr1⟩, hg1⟩
  have HR1 : Hid _ := hr1
  clear hr1 H1
  go_wp2_with fail
  refine Calls.mono (H2.out _ _ _ _ HR1.out) ?_
  rintro e w2 ⟨rfl, ⟨p2, n2, c2, hr2⟩, hg2⟩
  have HR2 : Hid _ := hr2
  have HG2 : Hid (w.grownBy w2 (some g)) := gtrans hg1 hg2
  have HN : Hid _ := heap_alloc_new w2 (.cells (cells14 ⟨u0, u1, u2, u3, u4, u5, u6⟩ ⟨d0, d1, d2, d3, d4, d5, d6⟩) 51)
  clear hr2 hg1 hg2 H2 HR1
  go_wp2_with fail
  refine (bad_any _ g s2 p2 n2 c2 (HR2.out.below (below_new _ _))).mono ?_
  rintro e w3 ⟨rfl, hw⟩
  subst hw
  cases s2 with
  | none =>
    go_wp2
    go_ret
    exact ⟨Or.inl ⟨rfl, rfl⟩, ⟨_, _, _, HR2.out.below (below_new _ _)⟩, gtrans HG2.out (gbelow (below_new _ _))⟩
  | some r =>
    go_wp2
    go_ret
    exact ⟨Or.inr ⟨r, _, rfl, rfl, HG2.out.size, HN.out⟩, ⟨_, _, _, HR2.out.below (below_new _ _)⟩, gtrans HG2.out (gbelow (below_new _ _))⟩
end Go.Proofs.Ytnkfabonggofgaa
