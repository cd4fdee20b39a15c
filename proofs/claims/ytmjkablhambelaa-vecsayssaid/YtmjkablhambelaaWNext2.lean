/-
  vec.Next: one more.
-/
import Derived.Test.YtmjkablhambelaaWNext
namespace Go.Proofs.Ytmjkablhambelaa
open Go.RowKit Go.Lib
set_option linter.unusedVariables false

set_option maxRecDepth 100000 in
set_option maxHeartbeats 8000000 in
/-- One more. -/
theorem next_ok (a : V7) (k : Nat) (w : World) (hk : k < 7) (hg : C.good a = true) (hl : C.at7 a k ≠ 1099511627776) :
    Calls Try.prog 10 #[a.v, .int .i64 k] w fun e w' => e = .returned (.tuple #[(C.inc a k).v, .agg #[.int .i64 k, .int .i64 (C.at7 a k + 1)], .int .i64 0]) ∧ Below w.heap.size w w' := by
  have kg := good_at hg
  have hr := isrep_lt hk
  obtain ⟨hk0, hk1⟩ := C.good_at7 hg k
  obtain ⟨a0, a1, a2, a3, a4, a5, a6⟩ := a
  have hc : k = 0 ∨ k = 1 ∨ k = 2 ∨ k = 3 ∨ k = 4 ∨ k = 5 ∨ k = 6 := by omega
  clear hg
  rcases hc with rfl | rfl | rfl | rfl | rfl | rfl | rfl
  all_goals
    simp only [C.at7, C.inc] at *
    simp only [V7.v] at *
    go_enter Try.func10, Try.ntmps10
    go_wp2_with fail
    refine (isrep_true hr _).mono ?_
    rintro x w1 ⟨rfl, hw⟩
    subst w1
    go_wp2_with fail
    refine (kg _).mono ?_
    rintro x w1 ⟨rfl, hb1⟩
    obtain ⟨q1, q2, q3⟩ := three_boxes w _ _ _ hb1
    have hB := three_below w _ _ _ hb1
    obtain ⟨b0, b1, b2, b3, b4, b5, b6⟩ := box7 q1
    obtain ⟨e0, e1, e2, e3, e4, e5, e6⟩ := frozen7 q1
    obtain ⟨c0, c1, c2, c3, c4, c5, c6⟩ := box7 q2
    obtain ⟨f0, f1, f2, f3, f4, f5, f6⟩ := frozen7 q2
    obtain ⟨d0, d1⟩ := box2 q3
    obtain ⟨g0, g1, _⟩ := frozen7 q3
    clear q1 q2 q3 hb1
    go_wp2
    go_region
    all_goals
      go_wp2
      refine bodyPost_ret (v := .tuple #[.agg #[_, _, _, _, _, _, _], .agg #[_, _], _]) (by simp [results, Try.results10, go_sem, *] <;> exact ⟨⟨rfl, rfl, rfl, rfl, rfl, rfl, rfl⟩, ⟨rfl, rfl⟩, rfl⟩) rfl ⟨rfl, ?_⟩
      refine Below.drew ?_
      repeat' (refine Below.setCell ?_ (by simp <;> omega) _)
      exact hB
end Go.Proofs.Ytmjkablhambelaa
