/-
  The law's own start: awake.
-/
import Derived.Test.YtmjkablhambelaaWGet
namespace Go.Proofs.Ytmjkablhambelaa
open Go.RowKit Go.Lib
set_option linter.unusedVariables false

theorem zero_two (w : World) : Calls Try.prog 10 #[.agg #[.int .i64 0, .int .i64 0, .int .i64 0, .int .i64 0, .int .i64 0, .int .i64 0, .int .i64 0], .int .i64 2] w fun e w' => e = .returned (.tuple #[.agg #[.int .i64 0, .int .i64 0, .int .i64 1, .int .i64 0, .int .i64 0, .int .i64 0, .int .i64 0], .agg #[.int .i64 2, .int .i64 1], .int .i64 0]) ∧ Below w.heap.size w w' :=
  next_ok zero7 2 w (by decide) (by decide) (by decide)
theorem cmp_at {a b : V7} {x : Int} (h : C.cmp a b = x) (w : World) : Calls Try.prog 29 #[a.v, b.v] w fun e w' => e = .returned (.int .i64 x) ∧ Below w.heap.size w w' := by
  have := cmp_any a b w; rw [h] at this; exact this
theorem least_at {a b c : V7} (h : C.lst a b = c) (w : World) : Calls Try.prog 25 #[a.v, b.v] w fun e w' => e = .returned c.v ∧ Below w.heap.size w w' := by
  have := least_any a b w; rw [h] at this; exact this
theorem merge_at {a b c : V7} (h : C.mrg a b = c) (w : World) : Calls Try.prog 23 #[a.v, b.v] w fun e w' => e = .returned c.v ∧ Below w.heap.size w w' := by
  have := merge_any a b w; rw [h] at this; exact this
theorem le_at {a b : V7} {x : Bool} (h : C.le a b = x) (w : World) : Calls Try.prog 27 #[a.v, b.v] w fun e w' => e = .returned (.bool x) ∧ Below w.heap.size w w' := by
  have := le_any a b w; rw [h] at this; exact this
theorem has_at {a : V7} {r n : Int} {x : Bool} (h : C.has a r n = x) (w : World) : Calls Try.prog 14 #[a.v, .agg #[.int .i64 r, .int .i64 n]] w fun e w' => e = .returned (.bool x) ∧ Below w.heap.size w w' := by
  have := has_any a r n w; rw [h] at this; exact this
theorem eq_vec {a b : V7} {x : Bool} (h : C.same a b = x) (w : World) : (Op.equalIn 10000 24 a.v b.v).run Try.prog w = .ok x w := by
  rw [eq7_vec, h]
set_option maxRecDepth 100000 in
set_option maxHeartbeats 4000000 in
theorem eq2_dot (a b c d : Int) (w : World) : (Op.equalIn 10000 26 (.agg #[.int .i64 a, .int .i64 b]) (.agg #[.int .i64 c, .int .i64 d])).run Try.prog w = .ok (a == c && b == d) w := by
  have u3 := Try.underlying2
  have a3 := Try.isAgg2
  have z3 := Try.sizeOf2
  have u4 := Try.underlying3
  have a4 := Try.isAgg3
  have z4 := Try.sizeOf3
  have hS : Try.prog.underlying 26 = some (.struct (Try.prog.fieldsOf 26)) := by kernel_rfl
  have hp : Try.prog.stoodInHeld 26 = false := by kernel_rfl
  rw [show (10000 : Nat) = 9999 + 1 from rfl, run_equalIn_agg w 9999 26 _ _ hS hp]
  simp only [Program.fieldsOf, Try.underlying26]
  go_simp
  by_cases h1 : a = c <;> by_cases h2 : b = d <;> simp [h1, h2]
set_option maxRecDepth 100000 in
set_option maxHeartbeats 4000000 in
theorem awake_any (w : World) : Calls Try.prog 9 #[] w fun e w' => e = .returned (.bool true) ∧ Below w.heap.size w w' := by
  have kE1 : ∀ w, (Op.equalIn 10000 24 (.agg #[.int .i64 0, .int .i64 0, .int .i64 1, .int .i64 0, .int .i64 0, .int .i64 0, .int .i64 0]) (.agg #[.int .i64 0, .int .i64 0, .int .i64 1, .int .i64 0, .int .i64 0, .int .i64 0, .int .i64 0])).run Try.prog w = .ok true w :=
    fun w => eq_vec (a := ⟨0, 0, 1, 0, 0, 0, 0⟩) (b := ⟨0, 0, 1, 0, 0, 0, 0⟩) (by decide) w
  have kE2 : ∀ w, (Op.equalIn 10000 24 (.agg #[.int .i64 1, .int .i64 1, .int .i64 0, .int .i64 0, .int .i64 0, .int .i64 0, .int .i64 0]) (.agg #[.int .i64 1, .int .i64 1, .int .i64 0, .int .i64 0, .int .i64 0, .int .i64 0, .int .i64 0])).run Try.prog w = .ok true w :=
    fun w => eq_vec (a := ⟨1, 1, 0, 0, 0, 0, 0⟩) (b := ⟨1, 1, 0, 0, 0, 0, 0⟩) (by decide) w
  have kE3 : ∀ w, (Op.equalIn 10000 26 (.agg #[.int .i64 2, .int .i64 1]) (.agg #[.int .i64 2, .int .i64 1])).run Try.prog w = .ok true w := fun w => eq2_dot 2 1 2 1 w
  go_enter Try.func9, Try.ntmps9
  go_wp2_with fail
  refine (zero_two _).mono ?_
  rintro e w1 ⟨rfl, h1⟩
  go_wp2_with fail
  refine (cmp_at (a := ⟨1, 0, 0, 0, 0, 0, 0⟩) (b := ⟨0, 1, 0, 0, 0, 0, 0⟩) (x := 2) (by decide) _).mono ?_
  rintro e w2 ⟨rfl, h2⟩
  go_wp2_with fail
  refine (least_at (a := ⟨2, 1, 0, 0, 0, 0, 0⟩) (b := ⟨1, 3, 0, 0, 0, 0, 0⟩) (c := ⟨1, 1, 0, 0, 0, 0, 0⟩) rfl _).mono ?_
  rintro e w3 ⟨rfl, h3⟩
  simp only [V7.v]
  go_wp2
  go_ret
  exact ⟨rfl, bt h1 (bt (bt (below_new _ _) (below_new _ _)) (bt h2 h3))⟩
end Go.Proofs.Ytmjkablhambelaa
