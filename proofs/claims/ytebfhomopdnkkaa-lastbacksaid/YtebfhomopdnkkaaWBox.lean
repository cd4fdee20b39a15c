/-
  Blocks' cells in all worlds of a class.
-/
import Derived.Test.YtebfhomopdnkkaaWLaw
import Derived.Test.YtebfhomopdnkkaaBNew
import Derived.Deep.RegionWith
namespace Go.Proofs.Ytebfhomopdnkkaa
open Go.RowKit Go.Lib
set_option linter.unusedVariables false

/-- A clock's block: its cells in all such worlds. -/
theorem box7_all {w : World} {b : Nat} {x0 x1 x2 x3 x4 x5 x6 : Int} {t : TypeId} (h : w.heap[b]? = some (.cells #[.int .i64 x0, .int .i64 x1, .int .i64 x2, .int .i64 x3, .int .i64 x4, .int .i64 x5, .int .i64 x6] t)) :
    (∀ n : NewW w, n.v.cell? ⟨b, 0, none⟩ = some (.int .i64 x0)) ∧ (∀ n : NewW w, n.v.cell? ⟨b, 1, none⟩ = some (.int .i64 x1)) ∧ (∀ n : NewW w, n.v.cell? ⟨b, 2, none⟩ = some (.int .i64 x2)) ∧ (∀ n : NewW w, n.v.cell? ⟨b, 3, none⟩ = some (.int .i64 x3)) ∧ (∀ n : NewW w, n.v.cell? ⟨b, 4, none⟩ = some (.int .i64 x4)) ∧ (∀ n : NewW w, n.v.cell? ⟨b, 5, none⟩ = some (.int .i64 x5)) ∧ (∀ n : NewW w, n.v.cell? ⟨b, 6, none⟩ = some (.int .i64 x6)) :=
  ⟨fun n => (box7 (keep_on n.h h)).1, fun n => (box7 (keep_on n.h h)).2.1, fun n => (box7 (keep_on n.h h)).2.2.1, fun n => (box7 (keep_on n.h h)).2.2.2.1, fun n => (box7 (keep_on n.h h)).2.2.2.2.1, fun n => (box7 (keep_on n.h h)).2.2.2.2.2.1, fun n => (box7 (keep_on n.h h)).2.2.2.2.2.2⟩
theorem box2_all {w : World} {b : Nat} {x0 x1 : Int} {t : TypeId} (h : w.heap[b]? = some (.cells #[.int .i64 x0, .int .i64 x1] t)) :
    (∀ n : NewW w, n.v.cell? ⟨b, 0, none⟩ = some (.int .i64 x0)) ∧ (∀ n : NewW w, n.v.cell? ⟨b, 1, none⟩ = some (.int .i64 x1)) :=
  ⟨fun n => (box2 (keep_on n.h h)).1, fun n => (box2 (keep_on n.h h)).2⟩
end Go.Proofs.Ytebfhomopdnkkaa
