/-
  vec.Merge, vec.Least: the very world that they leave.
-/
import Derived.Test.YtmjkablhambelaaWLaw
namespace Go.Proofs.Ytmjkablhambelaa
open Go.RowKit Go.Lib
set_option linter.unusedVariables false

set_option maxRecDepth 100000 in
set_option maxHeartbeats 4000000 in
theorem merge_new (a b : V7) (w : World) :
    Calls Try.prog 23 #[a.v, b.v] w fun e w' => e = .returned (C.mrg a b).v ∧ ∃ X Y Z, w' = ((w.alloc X).alloc Y).alloc Z := by
  obtain ⟨a0, a1, a2, a3, a4, a5, a6⟩ := a
  obtain ⟨b0, b1, b2, b3, b4, b5, b6⟩ := b
  simp only [V7.v, C.mrg]
  obtain ⟨i0, i1, i2, i3, i4, i5, i6⟩ := idx7 b0 b1 b2 b3 b4 b5 b6
  obtain ⟨m0, e0, r0⟩ := max_run a0 b0
  rw [← e0]
  clear e0
  obtain ⟨m1, e1, r1⟩ := max_run a1 b1
  rw [← e1]
  clear e1
  obtain ⟨m2, e2, r2⟩ := max_run a2 b2
  rw [← e2]
  clear e2
  obtain ⟨m3, e3, r3⟩ := max_run a3 b3
  rw [← e3]
  clear e3
  obtain ⟨m4, e4, r4⟩ := max_run a4 b4
  rw [← e4]
  clear e4
  obtain ⟨m5, e5, r5⟩ := max_run a5 b5
  rw [← e5]
  clear e5
  obtain ⟨m6, e6, r6⟩ := max_run a6 b6
  rw [← e6]
  clear e6
  go_enter Try.func23, Try.ntmps23
  go_wp2
  refine wp_loop_rounds 8 ?_
  repeat (rw [rounds_succ]; go_wp2)
  refine bodyPost_ret (v := .agg #[.int .i64 m0, .int .i64 m1, .int .i64 m2, .int .i64 m3, .int .i64 m4, .int .i64 m5, .int .i64 m6]) (by simp [results, Try.results23, go_sem]) rfl ⟨rfl, _, _, _, rfl⟩
set_option maxRecDepth 100000 in
set_option maxHeartbeats 4000000 in
theorem least_new (a b : V7) (w : World) :
    Calls Try.prog 25 #[a.v, b.v] w fun e w' => e = .returned (C.lst a b).v ∧ ∃ X Y Z, w' = ((w.alloc X).alloc Y).alloc Z := by
  obtain ⟨a0, a1, a2, a3, a4, a5, a6⟩ := a
  obtain ⟨b0, b1, b2, b3, b4, b5, b6⟩ := b
  simp only [V7.v, C.lst]
  obtain ⟨i0, i1, i2, i3, i4, i5, i6⟩ := idx7 b0 b1 b2 b3 b4 b5 b6
  obtain ⟨m0, e0, r0⟩ := min_run a0 b0
  rw [← e0]
  clear e0
  obtain ⟨m1, e1, r1⟩ := min_run a1 b1
  rw [← e1]
  clear e1
  obtain ⟨m2, e2, r2⟩ := min_run a2 b2
  rw [← e2]
  clear e2
  obtain ⟨m3, e3, r3⟩ := min_run a3 b3
  rw [← e3]
  clear e3
  obtain ⟨m4, e4, r4⟩ := min_run a4 b4
  rw [← e4]
  clear e4
  obtain ⟨m5, e5, r5⟩ := min_run a5 b5
  rw [← e5]
  clear e5
  obtain ⟨m6, e6, r6⟩ := min_run a6 b6
  rw [← e6]
  clear e6
  go_enter Try.func25, Try.ntmps25
  go_wp2
  refine wp_loop_rounds 8 ?_
  repeat (rw [rounds_succ]; go_wp2)
  refine bodyPost_ret (v := .agg #[.int .i64 m0, .int .i64 m1, .int .i64 m2, .int .i64 m3, .int .i64 m4, .int .i64 m5, .int .i64 m6]) (by simp [results, Try.results25, go_sem]) rfl ⟨rfl, _, _, _, rfl⟩
theorem merge_nat {a b c : V7} (h : C.mrg a b = c) (w : World) : Calls Try.prog 23 #[a.v, b.v] w fun e w' => e = .returned c.v ∧ ∃ X Y Z, w' = ((w.alloc X).alloc Y).alloc Z := by
  have := merge_new a b w; rw [h] at this; exact this
theorem least_nat {a b c : V7} (h : C.lst a b = c) (w : World) : Calls Try.prog 25 #[a.v, b.v] w fun e w' => e = .returned c.v ∧ ∃ X Y Z, w' = ((w.alloc X).alloc Y).alloc Z := by
  have := least_new a b w; rw [h] at this; exact this
end Go.Proofs.Ytmjkablhambelaa
