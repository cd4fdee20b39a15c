/-
  The law's own start: awake.
-/
import Derived.Test.YtnkfabonggofgaaWGet
namespace Go.Proofs.Ytnkfabonggofgaa
open Go.RowKit Go.Lib
set_option linter.unusedVariables false

theorem merge_at {a b c : V7} (h : C.mrg a b = c) (w : World) : Calls Try.prog 28 #[a.v, b.v] w fun e w' => e = .returned c.v ∧ Below w.heap.size w w' := by
  have := merge_any a b w; rw [h] at this; exact this
theorem eq_vec {a b : V7} {x : Bool} (h : C.same a b = x) (w : World) : (Op.equalIn 10000 49 a.v b.v).run Try.prog w = .ok x w := by
  rw [eq7_vec, h]
end Go.Proofs.Ytnkfabonggofgaa
