/-
  vec.Good, vec.Next: the very world that they leave.
-/
import Derived.Test.YtmjkablhambelaaWNew
namespace Go.Proofs.Ytmjkablhambelaa
open Go.RowKit Go.Lib
set_option linter.unusedVariables false

set_option maxRecDepth 100000 in
set_option maxHeartbeats 4000000 in
theorem good_new (a : V7) (w : World) :
    Calls Try.prog 13 #[a.v] w fun e w' => e = .returned (.bool (C.good a)) ∧ ∃ X, w' = w.alloc X := by
  obtain ⟨a0, a1, a2, a3, a4, a5, a6⟩ := a
  simp only [V7.v, C.good, C.inB]
  obtain ⟨i0, i1, i2, i3, i4, i5, i6⟩ := idx7 a0 a1 a2 a3 a4 a5 a6
  go_enter Try.func13, Try.ntmps13
  go_wp2
  refine wp_loop_rounds 8 ?_
  repeat' (rw [rounds_succ]; go_wp2)
  all_goals
    go_ret
    exact ⟨ret_bool (by simp; omega), _, rfl⟩
theorem good_nat {a : V7} {b : Bool} (h : C.good a = b) (w : World) : Calls Try.prog 13 #[a.v] w fun e w' => e = .returned (.bool b) ∧ ∃ X, w' = w.alloc X := by
  have := good_new a w; rw [h] at this; exact this
set_option maxRecDepth 100000 in
set_option maxHeartbeats 4000000 in
/-- No next one. -/
theorem next_rep_new (a : V7) (r : Int) (w : World) (hr : C.isRep r = false) :
    Calls Try.prog 10 #[a.v, .int .i64 r] w fun e w' => e = .returned (.tuple #[zero7.v, .agg #[.int .i64 0, .int .i64 0], .int .i64 1]) ∧ ∃ X1 X2 X3, w' = ((w.alloc X1).alloc X2).alloc X3 := by
  obtain ⟨a0, a1, a2, a3, a4, a5, a6⟩ := a
  simp only [V7.v]
  go_enter Try.func10, Try.ntmps10
  go_wp2_with fail
  refine (isrep_false hr _).mono ?_
  rintro x w1 ⟨rfl, hw⟩
  subst w1
  go_wp2
  refine bodyPost_ret (v := .tuple #[zero7.v, .agg #[.int .i64 0, .int .i64 0], .int .i64 1]) (by simp [results, Try.results10, go_sem, zero7, V7.v]) rfl ⟨rfl, _, _, _, rfl⟩
set_option maxRecDepth 100000 in
set_option maxHeartbeats 4000000 in
/-- No more. -/
theorem next_lim_new (a : V7) (k : Nat) (w : World) (hk : k < 7) (hg : C.good a = true) (hl : C.at7 a k = 1099511627776) :
    Calls Try.prog 10 #[a.v, .int .i64 k] w fun e w' => e = .returned (.tuple #[zero7.v, .agg #[.int .i64 0, .int .i64 0], .int .i64 2]) ∧ ∃ X1 X2 X3 X4, w' = ((((w.alloc X1).alloc X2).alloc X3).alloc X4) := by
  have kg := good_nat hg
  have hr := isrep_lt hk
  obtain ⟨a0, a1, a2, a3, a4, a5, a6⟩ := a
  have hc : k = 0 ∨ k = 1 ∨ k = 2 ∨ k = 3 ∨ k = 4 ∨ k = 5 ∨ k = 6 := by omega
  clear hg
  rcases hc with rfl | rfl | rfl | rfl | rfl | rfl | rfl
  all_goals
    simp only [C.at7] at hl
    subst hl
    simp only [V7.v] at *
    go_enter Try.func10, Try.ntmps10
    go_wp2_with fail
    refine (isrep_true hr _).mono ?_
    rintro x w1 ⟨rfl, hw⟩
    subst w1
    go_wp2_with fail
    refine (kg _).mono ?_
    rintro x w1 ⟨rfl, X, rfl⟩
    go_wp2
    refine bodyPost_ret (v := .tuple #[zero7.v, .agg #[.int .i64 0, .int .i64 0], .int .i64 2]) (by simp [results, Try.results10, go_sem, zero7, V7.v, *]) rfl ⟨rfl, _, _, _, _, rfl⟩
set_option maxRecDepth 100000 in
set_option maxHeartbeats 8000000 in
/-- One more. -/
theorem next_ok_new (a : V7) (k : Nat) (w : World) (hk : k < 7) (hg : C.good a = true) (hl : C.at7 a k ≠ 1099511627776) :
    Calls Try.prog 10 #[a.v, .int .i64 k] w fun e w' => e = .returned (.tuple #[(C.inc a k).v, .agg #[.int .i64 k, .int .i64 (C.at7 a k + 1)], .int .i64 0]) ∧ ∃ X1 X2 X3 X4, w' = ((((w.alloc X1).alloc X2).alloc X3).alloc X4).drew := by
  have kg := good_nat hg
  have hr := isrep_lt hk
  obtain ⟨hk0, hk1⟩ := C.good_at7 hg k
  obtain ⟨a0, a1, a2, a3, a4, a5, a6⟩ := a
  have hc : k = 0 ∨ k = 1 ∨ k = 2 ∨ k = 3 ∨ k = 4 ∨ k = 5 ∨ k = 6 := by omega
  clear hg
  rcases hc with rfl | rfl | rfl | rfl | rfl | rfl | rfl
  all_goals
    simp only [C.at7, C.inc] at *
    simp only [V7.v] at *
    go_enter Try.func10, Try.ntmps10
    go_wp2_with fail
    refine (isrep_true hr _).mono ?_
    rintro x w1 ⟨rfl, hw⟩
    subst w1
    go_wp2_with fail
    refine (kg _).mono ?_
    rintro x w1 ⟨rfl, X, rfl⟩
    go_wp2
    go_region
    all_goals
      go_wp2
      refine bodyPost_ret (v := .tuple #[.agg #[_, _, _, _, _, _, _], .agg #[_, _], _]) (by simp [results, Try.results10, go_sem, *] <;> exact ⟨⟨rfl, rfl, rfl, rfl, rfl, rfl, rfl⟩, ⟨rfl, rfl⟩, rfl⟩) rfl ⟨rfl, _, _, _, _, rfl⟩
end Go.Proofs.Ytmjkablhambelaa
