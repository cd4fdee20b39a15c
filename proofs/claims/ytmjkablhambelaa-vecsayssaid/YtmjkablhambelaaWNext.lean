/-
  vec.Next.
-/
import Derived.Test.YtmjkablhambelaaWVec2
import Derived.BigRegion
namespace Go.Proofs.Ytmjkablhambelaa
open Go.RowKit Go.Lib
set_option linter.unusedVariables false

/-- Blocks' cells are not frozen. -/
theorem frozen_cells {w : World} {b : Nat} {cs : Array Value} {t : TypeId} (h : w.heap[b]? = some (.cells cs t)) (o : Nat) : w.frozen? ⟨b, o, none⟩ = false := by
  simp [World.frozen?, h]
theorem frozen7 {w : World} {b : Nat} {cs : Array Value} {t : TypeId} (h : w.heap[b]? = some (.cells cs t)) :
    w.frozen? ⟨b, 0, none⟩ = false ∧ w.frozen? ⟨b, 1, none⟩ = false ∧ w.frozen? ⟨b, 2, none⟩ = false ∧ w.frozen? ⟨b, 3, none⟩ = false ∧ w.frozen? ⟨b, 4, none⟩ = false ∧ w.frozen? ⟨b, 5, none⟩ = false ∧ w.frozen? ⟨b, 6, none⟩ = false :=
  ⟨frozen_cells h _, frozen_cells h _, frozen_cells h _, frozen_cells h _, frozen_cells h _, frozen_cells h _, frozen_cells h _⟩
theorem box2 {w : World} {b : Nat} {x0 x1 : Int} {t : TypeId} {m : Nat × Nat} (h : w.heap[b]? = some (.cells #[.int .i64 x0, .int .i64 x1] t m)) :
    w.cell? ⟨b, 0, none⟩ = some (.int .i64 x0) ∧ w.cell? ⟨b, 1, none⟩ = some (.int .i64 x1) := by
  simp [World.cell?, h]
theorem three_boxes (w : World) (X Y Z : Obj) {w1 : World} (h : Below (((w.alloc X).alloc Y).alloc Z).heap.size (((w.alloc X).alloc Y).alloc Z) w1) : w1.heap[w.heap.size]? = some X ∧ w1.heap[w.heap.size + 1]? = some Y ∧ w1.heap[w.heap.size + 1 + 1]? = some Z := by
  refine ⟨?_, ?_, ?_⟩
  · rw [h.block _ (by simp; omega), (below_new _ Z).block _ (by simp; omega), (below_new (w.alloc X) Y).block _ (by simp)]; exact heap_alloc_new _ _
  · rw [h.block _ (by simp), (below_new _ Z).block _ (by simp)]; have := heap_alloc_new (w.alloc X) Y; simpa using this
  · rw [h.block _ (by simp)]; have := heap_alloc_new ((w.alloc X).alloc Y) Z; simpa using this
theorem three_below (w : World) (X Y Z : Obj) {w1 : World} (h : Below (((w.alloc X).alloc Y).alloc Z).heap.size (((w.alloc X).alloc Y).alloc Z) w1) : Below w.heap.size w w1 :=
  bt (below_new _ _) (bt (below_new _ _) (bt (below_new _ _) h))
def zero7 : V7 := ⟨0, 0, 0, 0, 0, 0, 0⟩
set_option maxRecDepth 100000 in
set_option maxHeartbeats 4000000 in
/-- No next one. -/
theorem next_arg (a : V7) (r : Int) (w : World) (h : (C.isRep r && C.good a) = false) :
    Calls Try.prog 10 #[a.v, .int .i64 r] w fun e w' => e = .returned (.tuple #[zero7.v, .agg #[.int .i64 0, .int .i64 0], .int .i64 1]) ∧ Below w.heap.size w w' := by
  cases hr : C.isRep r with
  | false =>
    obtain ⟨a0, a1, a2, a3, a4, a5, a6⟩ := a
    simp only [V7.v]
    clear h
    go_enter Try.func10, Try.ntmps10
    go_wp2_with fail
    refine (isrep_false hr _).mono ?_
    rintro x w1 ⟨rfl, hw⟩
    subst w1
    go_wp2
    refine bodyPost_ret (v := .tuple #[zero7.v, .agg #[.int .i64 0, .int .i64 0], .int .i64 1]) (by simp [results, Try.results10, go_sem, zero7, V7.v]) rfl ⟨rfl, ?_⟩
    exact bt (below_new _ _) (bt (below_new _ _) (below_new _ _))
  | true =>
    rw [hr, Bool.true_and] at h
    have kg := good_at h
    obtain ⟨a0, a1, a2, a3, a4, a5, a6⟩ := a
    simp only [V7.v] at *
    go_enter Try.func10, Try.ntmps10
    go_wp2_with fail
    refine (isrep_true hr _).mono ?_
    rintro x w1 ⟨rfl, hw⟩
    subst w1
    go_wp2_with fail
    refine (kg _).mono ?_
    rintro x w1 ⟨rfl, hb1⟩
    obtain ⟨q1, q2, q3⟩ := three_boxes w _ _ _ hb1
    have hB := three_below w _ _ _ hb1
    obtain ⟨c0, c1, c2, c3, c4, c5, c6⟩ := box7 q2
    obtain ⟨f0, f1, f2, f3, f4, f5, f6⟩ := frozen7 q2
    obtain ⟨d0, d1⟩ := box2 q3
    obtain ⟨g0, g1, _⟩ := frozen7 q3
    clear q1 q2 q3 hb1
    go_wp2
    refine bodyPost_ret (v := .tuple #[zero7.v, .agg #[.int .i64 0, .int .i64 0], .int .i64 1]) (by simp [results, Try.results10, go_sem, zero7, V7.v, *]) rfl ⟨rfl, ?_⟩
    repeat' (refine Below.setCell ?_ (by simp <;> omega) _)
    exact hB
set_option maxRecDepth 100000 in
set_option maxHeartbeats 4000000 in
/-- No more. -/
theorem next_lim (a : V7) (k : Nat) (w : World) (hk : k < 7) (hg : C.good a = true) (hl : C.at7 a k = 1099511627776) :
    Calls Try.prog 10 #[a.v, .int .i64 k] w fun e w' => e = .returned (.tuple #[zero7.v, .agg #[.int .i64 0, .int .i64 0], .int .i64 2]) ∧ Below w.heap.size w w' := by
  have kg := good_at hg
  have hr := isrep_lt hk
  obtain ⟨a0, a1, a2, a3, a4, a5, a6⟩ := a
  have hc : k = 0 ∨ k = 1 ∨ k = 2 ∨ k = 3 ∨ k = 4 ∨ k = 5 ∨ k = 6 := by omega
  clear hg
  rcases hc with rfl | rfl | rfl | rfl | rfl | rfl | rfl
  all_goals
    simp only [C.at7] at hl
    subst hl
    simp only [V7.v] at *
    go_enter Try.func10, Try.ntmps10
    go_wp2_with fail
    refine (isrep_true hr _).mono ?_
    rintro x w1 ⟨rfl, hw⟩
    subst w1
    go_wp2_with fail
    refine (kg _).mono ?_
    rintro x w1 ⟨rfl, hb1⟩
    obtain ⟨q1, q2, q3⟩ := three_boxes w _ _ _ hb1
    have hB := three_below w _ _ _ hb1
    obtain ⟨b0, b1, b2, b3, b4, b5, b6⟩ := box7 q1
    obtain ⟨c0, c1, c2, c3, c4, c5, c6⟩ := box7 q2
    obtain ⟨f0, f1, f2, f3, f4, f5, f6⟩ := frozen7 q2
    obtain ⟨d0, d1⟩ := box2 q3
    obtain ⟨g0, g1, _⟩ := frozen7 q3
    clear q1 q2 q3 hb1
    go_wp2
    refine bodyPost_ret (v := .tuple #[zero7.v, .agg #[.int .i64 0, .int .i64 0], .int .i64 2]) (by simp [results, Try.results10, go_sem, zero7, V7.v, *]) rfl ⟨rfl, ?_⟩
    repeat' (refine Below.setCell ?_ (by simp <;> omega) _)
    exact hB
end Go.Proofs.Ytmjkablhambelaa
