/-
  vec.Next.
-/
import Derived.Test.YtebfhomopdnkkaaWVec2
import Derived.BigRegion
namespace Go.Proofs.Ytebfhomopdnkkaa
open Go.RowKit Go.Lib
set_option linter.unusedVariables false

/-- Blocks' cells are not frozen. -/
theorem frozen_cells {w : World} {b : Nat} {cs : Array Value} {t : TypeId} (h : w.heap[b]? = some (.cells cs t)) (o : Nat) : w.frozen? ⟨b, o, none⟩ = false := by
  simp [World.frozen?, h]
theorem frozen7 {w : World} {b : Nat} {cs : Array Value} {t : TypeId} (h : w.heap[b]? = some (.cells cs t)) :
    w.frozen? ⟨b, 0, none⟩ = false ∧ w.frozen? ⟨b, 1, none⟩ = false ∧ w.frozen? ⟨b, 2, none⟩ = false ∧ w.frozen? ⟨b, 3, none⟩ = false ∧ w.frozen? ⟨b, 4, none⟩ = false ∧ w.frozen? ⟨b, 5, none⟩ = false ∧ w.frozen? ⟨b, 6, none⟩ = false :=
  ⟨frozen_cells h _, frozen_cells h _, frozen_cells h _, frozen_cells h _, frozen_cells h _, frozen_cells h _, frozen_cells h _⟩
theorem box2 {w : World} {b : Nat} {x0 x1 : Int} {t : TypeId} {m : Nat × Nat} (h : w.heap[b]? = some (.cells #[.int .i64 x0, .int .i64 x1] t m)) :
    w.cell? ⟨b, 0, none⟩ = some (.int .i64 x0) ∧ w.cell? ⟨b, 1, none⟩ = some (.int .i64 x1) := by
  simp [World.cell?, h]
theorem three_boxes (w : World) (X Y Z : Obj) {w1 : World} (h : Below (((w.alloc X).alloc Y).alloc Z).heap.size (((w.alloc X).alloc Y).alloc Z) w1) : w1.heap[w.heap.size]? = some X ∧ w1.heap[w.heap.size + 1]? = some Y ∧ w1.heap[w.heap.size + 1 + 1]? = some Z := by
  refine ⟨?_, ?_, ?_⟩
  · rw [h.block _ (by simp; omega), (below_new _ Z).block _ (by simp; omega), (below_new (w.alloc X) Y).block _ (by simp)]; exact heap_alloc_new _ _
  · rw [h.block _ (by simp), (below_new _ Z).block _ (by simp)]; have := heap_alloc_new (w.alloc X) Y; simpa using this
  · rw [h.block _ (by simp)]; have := heap_alloc_new ((w.alloc X).alloc Y) Z; simpa using this
theorem three_below (w : World) (X Y Z : Obj) {w1 : World} (h : Below (((w.alloc X).alloc Y).alloc Z).heap.size (((w.alloc X).alloc Y).alloc Z) w1) : Below w.heap.size w w1 :=
  bt (below_new _ _) (bt (below_new _ _) (bt (below_new _ _) h))
def zero7 : V7 := ⟨0, 0, 0, 0, 0, 0, 0⟩
end Go.Proofs.Ytebfhomopdnkkaa
