/-
  vec.Le, vec.Good, vec.Merge, vec.Least.
-/
import Derived.Test.YtebfhomopdnkkaaBIs
import Derived.Test.YtebfhomopdnkkaaVMath
import Derived.LoopN
namespace Go.Proofs.Ytebfhomopdnkkaa
open Go.RowKit Go.Lib
set_option linter.unusedVariables false

def V7.v (a : V7) : Value := .agg #[.int .i64 a.x0, .int .i64 a.x1, .int .i64 a.x2, .int .i64 a.x3, .int .i64 a.x4, .int .i64 a.x5, .int .i64 a.x6]
theorem max_run (x y : Int) : ∃ m, m = max x y ∧ ∀ (w : World) (ts : Array TypeId) (t : TypeId), (Builtin.max_ ts t #[.int .i64 x, .int .i64 y]).run Try.prog w = .ok (.int .i64 m) w :=
  ⟨_, rfl, fun w ts t => by
    have e : (if y > x then y else x) = max x y := by split <;> omega
    simp [Builtin.max_, Builtin.max2, e]⟩
theorem min_run (x y : Int) : ∃ m, m = min x y ∧ ∀ (w : World) (ts : Array TypeId) (t : TypeId), (Builtin.min_ ts t #[.int .i64 x, .int .i64 y]).run Try.prog w = .ok (.int .i64 m) w :=
  ⟨_, rfl, fun w ts t => by
    have e : (if y < x then y else x) = min x y := by split <;> omega
    simp [Builtin.min_, Builtin.min2, e]⟩
end Go.Proofs.Ytebfhomopdnkkaa
