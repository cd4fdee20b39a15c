/-
  The law's own start: awake.
-/
import Derived.Test.YtoglhhoniojbaaaWGet
namespace Go.Proofs.Ytoglhhoniojbaaa
open Go.RowKit Go.Lib
set_option linter.unusedVariables false

theorem merge_at {a b c : V7} (h : C.mrg a b = c) (w : World) : Calls Try.prog 31 #[a.v, b.v] w fun e w' => e = .returned c.v ∧ Below w.heap.size w w' := by
  have := merge_any a b w; rw [h] at this; exact this
theorem le_at {a b : V7} {x : Bool} (h : C.le a b = x) (w : World) : Calls Try.prog 29 #[a.v, b.v] w fun e w' => e = .returned (.bool x) ∧ Below w.heap.size w w' := by
  have := le_any a b w; rw [h] at this; exact this
theorem has_at {a : V7} {r n : Int} {x : Bool} (h : C.has a r n = x) (w : World) : Calls Try.prog 28 #[a.v, .agg #[.int .i64 r, .int .i64 n]] w fun e w' => e = .returned (.bool x) ∧ Below w.heap.size w w' := by
  have := has_any a r n w; rw [h] at this; exact this
theorem eq_vec {a b : V7} {x : Bool} (h : C.same a b = x) (w : World) : (Op.equalIn 10000 28 a.v b.v).run Try.prog w = .ok x w := by
  rw [eq7_vec, h]
set_option maxRecDepth 100000 in
set_option maxHeartbeats 4000000 in
theorem eq2_dot (a b c d : Int) (w : World) : (Op.equalIn 10000 31 (.agg #[.int .i64 a, .int .i64 b]) (.agg #[.int .i64 c, .int .i64 d])).run Try.prog w = .ok (a == c && b == d) w := by
  have u3 := Try.underlying2
  have a3 := Try.isAgg2
  have z3 := Try.sizeOf2
  have u4 := Try.underlying3
  have a4 := Try.isAgg3
  have z4 := Try.sizeOf3
  have hS : Try.prog.underlying 31 = some (.struct (Try.prog.fieldsOf 31)) := by kernel_rfl
  have hp : Try.prog.stoodInHeld 31 = false := by kernel_rfl
  rw [show (10000 : Nat) = 9999 + 1 from rfl, run_equalIn_agg w 9999 31 _ _ hS hp]
  simp only [Program.fieldsOf, Try.underlying31]
  go_simp
  by_cases h1 : a = c <;> by_cases h2 : b = d <;> simp [h1, h2]
end Go.Proofs.Ytoglhhoniojbaaa
