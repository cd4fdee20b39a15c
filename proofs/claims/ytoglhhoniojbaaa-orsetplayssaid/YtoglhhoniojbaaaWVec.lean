/-
  vec.Le, vec.Good, vec.Merge, vec.Least.
-/
import Derived.Test.YtoglhhoniojbaaaBIs
import Derived.Test.YtoglhhoniojbaaaVMath
import Derived.LoopN
namespace Go.Proofs.Ytoglhhoniojbaaa
open Go.RowKit Go.Lib
set_option linter.unusedVariables false

def V7.v (a : V7) : Value := .agg #[.int .i64 a.x0, .int .i64 a.x1, .int .i64 a.x2, .int .i64 a.x3, .int .i64 a.x4, .int .i64 a.x5, .int .i64 a.x6]
theorem max_run (x y : Int) : ∃ m, m = max x y ∧ ∀ (w : World) (ts : Array TypeId) (t : TypeId), (Builtin.max_ ts t #[.int .i64 x, .int .i64 y]).run Try.prog w = .ok (.int .i64 m) w :=
  ⟨_, rfl, fun w ts t => by
    have e : (if y > x then y else x) = max x y := by split <;> omega
    simp [Builtin.max_, Builtin.max2, e]⟩
theorem min_run (x y : Int) : ∃ m, m = min x y ∧ ∀ (w : World) (ts : Array TypeId) (t : TypeId), (Builtin.min_ ts t #[.int .i64 x, .int .i64 y]).run Try.prog w = .ok (.int .i64 m) w :=
  ⟨_, rfl, fun w ts t => by
    have e : (if y < x then y else x) = min x y := by split <;> omega
    simp [Builtin.min_, Builtin.min2, e]⟩
theorem idx7 (x0 x1 x2 x3 x4 x5 x6 : Int) :
    (∀ w : World, (Instr.index 28 (.agg #[.int .i64 x0, .int .i64 x1, .int .i64 x2, .int .i64 x3, .int .i64 x4, .int .i64 x5, .int .i64 x6]) (.int .i64 0)).run Try.prog w = .ok (.int .i64 x0) w) ∧
    (∀ w : World, (Instr.index 28 (.agg #[.int .i64 x0, .int .i64 x1, .int .i64 x2, .int .i64 x3, .int .i64 x4, .int .i64 x5, .int .i64 x6]) (.int .i64 1)).run Try.prog w = .ok (.int .i64 x1) w) ∧
    (∀ w : World, (Instr.index 28 (.agg #[.int .i64 x0, .int .i64 x1, .int .i64 x2, .int .i64 x3, .int .i64 x4, .int .i64 x5, .int .i64 x6]) (.int .i64 2)).run Try.prog w = .ok (.int .i64 x2) w) ∧
    (∀ w : World, (Instr.index 28 (.agg #[.int .i64 x0, .int .i64 x1, .int .i64 x2, .int .i64 x3, .int .i64 x4, .int .i64 x5, .int .i64 x6]) (.int .i64 3)).run Try.prog w = .ok (.int .i64 x3) w) ∧
    (∀ w : World, (Instr.index 28 (.agg #[.int .i64 x0, .int .i64 x1, .int .i64 x2, .int .i64 x3, .int .i64 x4, .int .i64 x5, .int .i64 x6]) (.int .i64 4)).run Try.prog w = .ok (.int .i64 x4) w) ∧
    (∀ w : World, (Instr.index 28 (.agg #[.int .i64 x0, .int .i64 x1, .int .i64 x2, .int .i64 x3, .int .i64 x4, .int .i64 x5, .int .i64 x6]) (.int .i64 5)).run Try.prog w = .ok (.int .i64 x5) w) ∧
    (∀ w : World, (Instr.index 28 (.agg #[.int .i64 x0, .int .i64 x1, .int .i64 x2, .int .i64 x3, .int .i64 x4, .int .i64 x5, .int .i64 x6]) (.int .i64 6)).run Try.prog w = .ok (.int .i64 x6) w) :=
  ⟨fun _ => by kernel_rfl, fun _ => by kernel_rfl, fun _ => by kernel_rfl, fun _ => by kernel_rfl, fun _ => by kernel_rfl, fun _ => by kernel_rfl, fun _ => by kernel_rfl⟩
set_option maxRecDepth 100000 in
set_option maxHeartbeats 4000000 in
theorem merge_any (a b : V7) (w : World) :
    Calls Try.prog 31 #[a.v, b.v] w fun e w' => e = .returned (C.mrg a b).v ∧ Below w.heap.size w w' := by
  obtain ⟨a0, a1, a2, a3, a4, a5, a6⟩ := a
  obtain ⟨b0, b1, b2, b3, b4, b5, b6⟩ := b
  simp only [V7.v, C.mrg]
  obtain ⟨i0, i1, i2, i3, i4, i5, i6⟩ := idx7 b0 b1 b2 b3 b4 b5 b6
  obtain ⟨m0, e0, r0⟩ := max_run a0 b0
  rw [← e0]
  clear e0
  obtain ⟨m1, e1, r1⟩ := max_run a1 b1
  rw [← e1]
  clear e1
  obtain ⟨m2, e2, r2⟩ := max_run a2 b2
  rw [← e2]
  clear e2
  obtain ⟨m3, e3, r3⟩ := max_run a3 b3
  rw [← e3]
  clear e3
  obtain ⟨m4, e4, r4⟩ := max_run a4 b4
  rw [← e4]
  clear e4
  obtain ⟨m5, e5, r5⟩ := max_run a5 b5
  rw [← e5]
  clear e5
  obtain ⟨m6, e6, r6⟩ := max_run a6 b6
  rw [← e6]
  clear e6
  go_enter Try.func31, Try.ntmps31
  go_wp2
  refine wp_loop_rounds 8 ?_
  repeat (rw [rounds_succ]; go_wp2)
  refine bodyPost_ret (v := .agg #[.int .i64 m0, .int .i64 m1, .int .i64 m2, .int .i64 m3, .int .i64 m4, .int .i64 m5, .int .i64 m6]) (by simp [results, Try.results31, go_sem]) rfl ⟨rfl, bt (below_new _ _) (bt (below_new _ _) (below_new _ _))⟩
set_option maxRecDepth 100000 in
set_option maxHeartbeats 4000000 in
theorem le_any (a b : V7) (w : World) :
    Calls Try.prog 29 #[a.v, b.v] w fun e w' => e = .returned (.bool (C.le a b)) ∧ Below w.heap.size w w' := by
  obtain ⟨a0, a1, a2, a3, a4, a5, a6⟩ := a
  obtain ⟨b0, b1, b2, b3, b4, b5, b6⟩ := b
  simp only [V7.v, C.le]
  obtain ⟨i0, i1, i2, i3, i4, i5, i6⟩ := idx7 a0 a1 a2 a3 a4 a5 a6
  go_enter Try.func29, Try.ntmps29
  go_wp2
  refine wp_loop_rounds 8 ?_
  repeat' (rw [rounds_succ]; go_wp2)
  all_goals
    go_ret
    exact ⟨ret_bool (by simp; omega), bt (below_new _ _) (below_new _ _)⟩
set_option maxRecDepth 100000 in
set_option maxHeartbeats 4000000 in
theorem good_any (a : V7) (w : World) :
    Calls Try.prog 26 #[a.v] w fun e w' => e = .returned (.bool (C.good a)) ∧ Below w.heap.size w w' := by
  obtain ⟨a0, a1, a2, a3, a4, a5, a6⟩ := a
  simp only [V7.v, C.good, C.inB]
  obtain ⟨i0, i1, i2, i3, i4, i5, i6⟩ := idx7 a0 a1 a2 a3 a4 a5 a6
  go_enter Try.func26, Try.ntmps26
  go_wp2
  refine wp_loop_rounds 8 ?_
  repeat' (rw [rounds_succ]; go_wp2)
  all_goals
    go_ret
    exact ⟨ret_bool (by simp; omega), below_new _ _⟩
end Go.Proofs.Ytoglhhoniojbaaa
