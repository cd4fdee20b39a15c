/-
  vec.isReplica, vec.Has, vec.Cmp, vec.Next.
-/
import Derived.Test.YtebfhomopdnkkaaWEq
import Derived.Deep.RegionHeldLaw
import Derived.Deep.QuietTactic
import Derived.BigQuiet
namespace Go.Proofs.Ytebfhomopdnkkaa
open Go.RowKit Go.Lib
set_option linter.unusedVariables false

theorem bel_alike {A B C : World} (h : Below A.heap.size A B) (h1 : C.heap = B.heap) (h2 : C.os = B.os) (h3 : C.tape = B.tape) (h4 : C.output = B.output) : Below A.heap.size A C :=
  ⟨h2.trans h.os, h3.trans h.tape, h4.trans h.output, by rw [h1]; exact h.size, fun k hk => by rw [h1]; exact h.block k hk⟩
/-- A clock in a block of its own: its cells. -/
theorem box7 {w : World} {b : Nat} {x0 x1 x2 x3 x4 x5 x6 : Int} {t : TypeId} {m : Nat × Nat} (h : w.heap[b]? = some (.cells #[.int .i64 x0, .int .i64 x1, .int .i64 x2, .int .i64 x3, .int .i64 x4, .int .i64 x5, .int .i64 x6] t m)) :
    w.cell? ⟨b, 0, none⟩ = some (.int .i64 x0) ∧ w.cell? ⟨b, 1, none⟩ = some (.int .i64 x1) ∧ w.cell? ⟨b, 2, none⟩ = some (.int .i64 x2) ∧ w.cell? ⟨b, 3, none⟩ = some (.int .i64 x3) ∧ w.cell? ⟨b, 4, none⟩ = some (.int .i64 x4) ∧ w.cell? ⟨b, 5, none⟩ = some (.int .i64 x5) ∧ w.cell? ⟨b, 6, none⟩ = some (.int .i64 x6) := by
  simp [World.cell?, h]
theorem two_boxes (w : World) (X Y : Obj) {w1 : World} (h : Below ((w.alloc X).alloc Y).heap.size ((w.alloc X).alloc Y) w1) : w1.heap[w.heap.size]? = some X ∧ w1.heap[w.heap.size + 1]? = some Y := by
  constructor
  · rw [h.block _ (by simp; omega), (below_new (w.alloc X) Y).block _ (by simp)]; exact heap_alloc_new _ _
  · rw [h.block _ (by simp)]; have := heap_alloc_new (w.alloc X) Y; simpa using this
namespace C
def isRep (r : Int) : Bool := decide (0 ≤ r) && decide (r < 7)
end C
theorem isrep_cases {r : Int} (h : C.isRep r = true) : ∃ k : Nat, k < 7 ∧ r = k := by
  simp only [C.isRep, Bool.and_eq_true, decide_eq_true_eq] at h
  exact ⟨r.toNat, by omega, by omega⟩
theorem isrep_lt {k : Nat} (h : k < 7) : C.isRep (k : Int) = true := by
  simp only [C.isRep, Bool.and_eq_true, decide_eq_true_eq]; omega
end Go.Proofs.Ytebfhomopdnkkaa
