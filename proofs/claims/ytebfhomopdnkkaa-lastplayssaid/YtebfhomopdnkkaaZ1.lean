/-
  Several texts in one: WVec, WEq, WVec2, WNext, WNext2.
-/
import Derived.Test.YtebfhomopdnkkaaBIs
import Derived.Test.YtebfhomopdnkkaaVMath
import Derived.LoopN
import Derived.Laws.StructEq
import Derived.ChangeKeysEq
import Derived.Deep.RegionHeldLaw
import Derived.Deep.QuietTactic
import Derived.BigQuiet
import Derived.BigRegion
namespace Go.Proofs.Ytebfhomopdnkkaa
open Go.RowKit Go.Lib
set_option linter.unusedVariables false

def V7.v (a : V7) : Value := .agg #[.int .i64 a.x0, .int .i64 a.x1, .int .i64 a.x2, .int .i64 a.x3, .int .i64 a.x4, .int .i64 a.x5, .int .i64 a.x6]
theorem max_run (x y : Int) : ∃ m, m = max x y ∧ ∀ (w : World) (ts : Array TypeId) (t : TypeId), (Builtin.max_ ts t #[.int .i64 x, .int .i64 y]).run Try.prog w = .ok (.int .i64 m) w :=
  ⟨_, rfl, fun w ts t => by
    have e : (if y > x then y else x) = max x y := by split <;> omega
    simp [Builtin.max_, Builtin.max2, e]⟩
theorem min_run (x y : Int) : ∃ m, m = min x y ∧ ∀ (w : World) (ts : Array TypeId) (t : TypeId), (Builtin.min_ ts t #[.int .i64 x, .int .i64 y]).run Try.prog w = .ok (.int .i64 m) w :=
  ⟨_, rfl, fun w ts t => by
    have e : (if y < x then y else x) = min x y := by split <;> omega
    simp [Builtin.min_, Builtin.min2, e]⟩
end Go.Proofs.Ytebfhomopdnkkaa

namespace Go.Proofs.Ytebfhomopdnkkaa
open Go.RowKit Go.Lib
set_option linter.unusedVariables false

end Go.Proofs.Ytebfhomopdnkkaa

namespace Go.Proofs.Ytebfhomopdnkkaa
open Go.RowKit Go.Lib
set_option linter.unusedVariables false

theorem bel_alike {A B C : World} (h : Below A.heap.size A B) (h1 : C.heap = B.heap) (h2 : C.os = B.os) (h3 : C.tape = B.tape) (h4 : C.output = B.output) : Below A.heap.size A C :=
  ⟨h2.trans h.os, h3.trans h.tape, h4.trans h.output, by rw [h1]; exact h.size, fun k hk => by rw [h1]; exact h.block k hk⟩
/-- A clock in a block of its own: its cells. -/
theorem box7 {w : World} {b : Nat} {x0 x1 x2 x3 x4 x5 x6 : Int} {t : TypeId} {m : Nat × Nat} (h : w.heap[b]? = some (.cells #[.int .i64 x0, .int .i64 x1, .int .i64 x2, .int .i64 x3, .int .i64 x4, .int .i64 x5, .int .i64 x6] t m)) :
    w.cell? ⟨b, 0, none⟩ = some (.int .i64 x0) ∧ w.cell? ⟨b, 1, none⟩ = some (.int .i64 x1) ∧ w.cell? ⟨b, 2, none⟩ = some (.int .i64 x2) ∧ w.cell? ⟨b, 3, none⟩ = some (.int .i64 x3) ∧ w.cell? ⟨b, 4, none⟩ = some (.int .i64 x4) ∧ w.cell? ⟨b, 5, none⟩ = some (.int .i64 x5) ∧ w.cell? ⟨b, 6, none⟩ = some (.int .i64 x6) := by
  simp [World.cell?, h]
theorem two_boxes (w : World) (X Y : Obj) {w1 : World} (h : Below ((w.alloc X).alloc Y).heap.size ((w.alloc X).alloc Y) w1) : w1.heap[w.heap.size]? = some X ∧ w1.heap[w.heap.size + 1]? = some Y := by
  constructor
  · rw [h.block _ (by simp; omega), (below_new (w.alloc X) Y).block _ (by simp)]; exact heap_alloc_new _ _
  · rw [h.block _ (by simp)]; have := heap_alloc_new (w.alloc X) Y; simpa using this
namespace C
def isRep (r : Int) : Bool := decide (0 ≤ r) && decide (r < 7)
end C
theorem isrep_cases {r : Int} (h : C.isRep r = true) : ∃ k : Nat, k < 7 ∧ r = k := by
  simp only [C.isRep, Bool.and_eq_true, decide_eq_true_eq] at h
  exact ⟨r.toNat, by omega, by omega⟩
theorem isrep_lt {k : Nat} (h : k < 7) : C.isRep (k : Int) = true := by
  simp only [C.isRep, Bool.and_eq_true, decide_eq_true_eq]; omega
end Go.Proofs.Ytebfhomopdnkkaa

namespace Go.Proofs.Ytebfhomopdnkkaa
open Go.RowKit Go.Lib
set_option linter.unusedVariables false

/-- Blocks' cells are not frozen. -/
theorem frozen_cells {w : World} {b : Nat} {cs : Array Value} {t : TypeId} (h : w.heap[b]? = some (.cells cs t)) (o : Nat) : w.frozen? ⟨b, o, none⟩ = false := by
  simp [World.frozen?, h]
theorem frozen7 {w : World} {b : Nat} {cs : Array Value} {t : TypeId} (h : w.heap[b]? = some (.cells cs t)) :
    w.frozen? ⟨b, 0, none⟩ = false ∧ w.frozen? ⟨b, 1, none⟩ = false ∧ w.frozen? ⟨b, 2, none⟩ = false ∧ w.frozen? ⟨b, 3, none⟩ = false ∧ w.frozen? ⟨b, 4, none⟩ = false ∧ w.frozen? ⟨b, 5, none⟩ = false ∧ w.frozen? ⟨b, 6, none⟩ = false :=
  ⟨frozen_cells h _, frozen_cells h _, frozen_cells h _, frozen_cells h _, frozen_cells h _, frozen_cells h _, frozen_cells h _⟩
theorem box2 {w : World} {b : Nat} {x0 x1 : Int} {t : TypeId} {m : Nat × Nat} (h : w.heap[b]? = some (.cells #[.int .i64 x0, .int .i64 x1] t m)) :
    w.cell? ⟨b, 0, none⟩ = some (.int .i64 x0) ∧ w.cell? ⟨b, 1, none⟩ = some (.int .i64 x1) := by
  simp [World.cell?, h]
theorem three_boxes (w : World) (X Y Z : Obj) {w1 : World} (h : Below (((w.alloc X).alloc Y).alloc Z).heap.size (((w.alloc X).alloc Y).alloc Z) w1) : w1.heap[w.heap.size]? = some X ∧ w1.heap[w.heap.size + 1]? = some Y ∧ w1.heap[w.heap.size + 1 + 1]? = some Z := by
  refine ⟨?_, ?_, ?_⟩
  · rw [h.block _ (by simp; omega), (below_new _ Z).block _ (by simp; omega), (below_new (w.alloc X) Y).block _ (by simp)]; exact heap_alloc_new _ _
  · rw [h.block _ (by simp), (below_new _ Z).block _ (by simp)]; have := heap_alloc_new (w.alloc X) Y; simpa using this
  · rw [h.block _ (by simp)]; have := heap_alloc_new ((w.alloc X).alloc Y) Z; simpa using this
theorem three_below (w : World) (X Y Z : Obj) {w1 : World} (h : Below (((w.alloc X).alloc Y).alloc Z).heap.size (((w.alloc X).alloc Y).alloc Z) w1) : Below w.heap.size w w1 :=
  bt (below_new _ _) (bt (below_new _ _) (bt (below_new _ _) h))
def zero7 : V7 := ⟨0, 0, 0, 0, 0, 0, 0⟩
end Go.Proofs.Ytebfhomopdnkkaa

namespace Go.Proofs.Ytebfhomopdnkkaa
open Go.RowKit Go.Lib
set_option linter.unusedVariables false

end Go.Proofs.Ytebfhomopdnkkaa
