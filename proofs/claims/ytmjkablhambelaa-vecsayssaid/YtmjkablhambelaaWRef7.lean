/-
  The document's own clocks (rostrumref7): Good, Has, Le, Cmp.
-/
import Derived.Test.YtmjkablhambelaaWBox
namespace Go.Proofs.Ytmjkablhambelaa
open Go.RowKit Go.Lib
set_option linter.unusedVariables false

set_option maxRecDepth 100000 in
set_option maxHeartbeats 4000000 in
theorem rgood_any (a : V7) (w : World) :
    Calls Try.prog 21 #[a.v] w fun e w' => e = .returned (.bool (C.good a)) ∧ Below w.heap.size w w' := by
  obtain ⟨a0, a1, a2, a3, a4, a5, a6⟩ := a
  simp only [V7.v, C.good, C.inB]
  go_enter Try.func21, Try.ntmps21
  go_wp2
  refine wp_loop_rounds 8 ?_
  repeat' (rw [rounds_succ]; go_wp2)
  all_goals
    go_ret
    exact ⟨ret_bool (by simp; omega), below_new _ _⟩
theorem rgood_at {a : V7} {b : Bool} (h : C.good a = b) (w : World) : Calls Try.prog 21 #[a.v] w fun e w' => e = .returned (.bool b) ∧ Below w.heap.size w w' := by
  have := rgood_any a w; rw [h] at this; exact this
set_option maxRecDepth 100000 in
set_option maxHeartbeats 4000000 in
theorem rhas_any (a : V7) (r n : Int) (w : World) :
    Calls Try.prog 22 #[a.v, .agg #[.int .i64 r, .int .i64 n]] w fun e w' => e = .returned (.bool (C.has a r n)) ∧ Below w.heap.size w w' := by
  obtain ⟨a0, a1, a2, a3, a4, a5, a6⟩ := a
  simp only [V7.v]
  by_cases h0 : 0 ≤ r
  · by_cases h7 : r < 7
    · by_cases hn : 1 ≤ n
      · obtain ⟨k, rfl⟩ := Int.eq_ofNat_of_zero_le h0
        have hc : k = 0 ∨ k = 1 ∨ k = 2 ∨ k = 3 ∨ k = 4 ∨ k = 5 ∨ k = 6 := by omega
        clear h0 h7
        rcases hc with rfl | rfl | rfl | rfl | rfl | rfl | rfl
        all_goals
          go_enter Try.func22, Try.ntmps22
          go_wp2
          go_quiet (fail)
          go_wp2
          go_ret
          exact ⟨ret_bool (by simp [C.has, C.at7, hn]), bel_alike (bt (below_new _ _) (below_new _ _)) rfl rfl rfl rfl⟩
      · have e : C.has ⟨a0, a1, a2, a3, a4, a5, a6⟩ r n = false := by simp [C.has, hn]
        have hn' : decide (1 ≤ n) = false := by simpa using hn
        rw [e]
        clear e
        go_enter Try.func22, Try.ntmps22
        go_wp2
        go_quiet (fail)
        go_wp2
        go_ret
        exact ⟨rfl, bel_alike (bt (below_new _ _) (below_new _ _)) rfl rfl rfl rfl⟩
    · have e : C.has ⟨a0, a1, a2, a3, a4, a5, a6⟩ r n = false := by simp [C.has, h7]
      have h7' : decide (r < 7) = false := by simpa using h7
      rw [e]
      clear e
      go_enter Try.func22, Try.ntmps22
      go_wp2
      go_quiet (fail)
      go_wp2
      go_ret
      exact ⟨rfl, bel_alike (bt (below_new _ _) (below_new _ _)) rfl rfl rfl rfl⟩
  · have e : C.has ⟨a0, a1, a2, a3, a4, a5, a6⟩ r n = false := by simp [C.has, h0]
    have h0' : decide (0 ≤ r) = false := by simpa using h0
    rw [e]
    clear e
    go_enter Try.func22, Try.ntmps22
    go_wp2
    go_quiet (fail)
    go_wp2
    go_ret
    exact ⟨rfl, bel_alike (bt (below_new _ _) (below_new _ _)) rfl rfl rfl rfl⟩
set_option maxRecDepth 100000 in
set_option maxHeartbeats 4000000 in
theorem rle_any (a b : V7) (w : World) :
    Calls Try.prog 28 #[a.v, b.v] w fun e w' => e = .returned (.bool (C.le a b)) ∧ Below w.heap.size w w' := by
  obtain ⟨a0, a1, a2, a3, a4, a5, a6⟩ := a
  obtain ⟨b0, b1, b2, b3, b4, b5, b6⟩ := b
  simp only [V7.v, C.le]
  go_enter Try.func28, Try.ntmps28
  go_wp2
  refine wp_loop_rounds 8 ?_
  by_cases h0 : b0 < a0
  · rw [rounds_succ]
    go_wp2_with fail
    go_quiet (fail)
    go_wp2
    go_ret
    exact ⟨ret_bool (by simp; omega), bel_alike (bt (below_new _ _) (below_new _ _)) rfl rfl rfl rfl⟩
  rw [rounds_succ]
  go_wp2_with fail
  go_quiet (fail)
  go_wp2
  by_cases h1 : b1 < a1
  · rw [rounds_succ]
    go_wp2_with fail
    go_quiet (fail)
    go_wp2
    go_ret
    exact ⟨ret_bool (by simp; omega), bel_alike (bt (below_new _ _) (below_new _ _)) rfl rfl rfl rfl⟩
  rw [rounds_succ]
  go_wp2_with fail
  go_quiet (fail)
  go_wp2
  by_cases h2 : b2 < a2
  · rw [rounds_succ]
    go_wp2_with fail
    go_quiet (fail)
    go_wp2
    go_ret
    exact ⟨ret_bool (by simp; omega), bel_alike (bt (below_new _ _) (below_new _ _)) rfl rfl rfl rfl⟩
  rw [rounds_succ]
  go_wp2_with fail
  go_quiet (fail)
  go_wp2
  by_cases h3 : b3 < a3
  · rw [rounds_succ]
    go_wp2_with fail
    go_quiet (fail)
    go_wp2
    go_ret
    exact ⟨ret_bool (by simp; omega), bel_alike (bt (below_new _ _) (below_new _ _)) rfl rfl rfl rfl⟩
  rw [rounds_succ]
  go_wp2_with fail
  go_quiet (fail)
  go_wp2
  by_cases h4 : b4 < a4
  · rw [rounds_succ]
    go_wp2_with fail
    go_quiet (fail)
    go_wp2
    go_ret
    exact ⟨ret_bool (by simp; omega), bel_alike (bt (below_new _ _) (below_new _ _)) rfl rfl rfl rfl⟩
  rw [rounds_succ]
  go_wp2_with fail
  go_quiet (fail)
  go_wp2
  by_cases h5 : b5 < a5
  · rw [rounds_succ]
    go_wp2_with fail
    go_quiet (fail)
    go_wp2
    go_ret
    exact ⟨ret_bool (by simp; omega), bel_alike (bt (below_new _ _) (below_new _ _)) rfl rfl rfl rfl⟩
  rw [rounds_succ]
  go_wp2_with fail
  go_quiet (fail)
  go_wp2
  by_cases h6 : b6 < a6
  · rw [rounds_succ]
    go_wp2_with fail
    go_quiet (fail)
    go_wp2
    go_ret
    exact ⟨ret_bool (by simp; omega), bel_alike (bt (below_new _ _) (below_new _ _)) rfl rfl rfl rfl⟩
  rw [rounds_succ]
  go_wp2_with fail
  go_quiet (fail)
  go_wp2
  rw [rounds_succ]
  go_wp2
  go_ret
  exact ⟨ret_bool (by simp; omega), bel_alike (bt (below_new _ _) (below_new _ _)) rfl rfl rfl rfl⟩
theorem rle_at {a b : V7} {x : Bool} (h : C.le a b = x) (w : World) : Calls Try.prog 28 #[a.v, b.v] w fun e w' => e = .returned (.bool x) ∧ Below w.heap.size w w' := by
  have := rle_any a b w; rw [h] at this; exact this
set_option maxRecDepth 100000 in
set_option maxHeartbeats 4000000 in
theorem rcmp_any (a b : V7) (w : World) :
    Calls Try.prog 30 #[a.v, b.v] w fun e w' => e = .returned (.int .i64 (C.cmp a b)) ∧ Below w.heap.size w w' := by
  obtain ⟨x, hx⟩ : ∃ x, C.le a b = x := ⟨_, rfl⟩
  obtain ⟨y, hy⟩ : ∃ y, C.le b a = y := ⟨_, rfl⟩
  have G1 : Hid (∀ w, _) := fun w => rle_at hx w
  have G2 : Hid (∀ w, _) := fun w => rle_at hy w
  have hz : C.cmp a b = if x && y then 0 else if x then -1 else if y then 1 else 2 := by unfold C.cmp; rw [hx, hy]
  rw [hz]
  clear hx hy hz
  obtain ⟨a0, a1, a2, a3, a4, a5, a6⟩ := a
  obtain ⟨b0, b1, b2, b3, b4, b5, b6⟩ := b
  simp only [V7.v] at *
  go_enter Try.func30, Try.ntmps30
  go_wp2_with fail
  refine wp_letter (w := (w.alloc (.cells #[.int .i64 a0, .int .i64 a1, .int .i64 a2, .int .i64 a3, .int .i64 a4, .int .i64 a5, .int .i64 a6] 37)).alloc (.cells #[.int .i64 b0, .int .i64 b1, .int .i64 b2, .int .i64 b3, .int .i64 b4, .int .i64 b5, .int .i64 b6] 37)) (fun w' => Below w.heap.size w w' ∧ w'.heap[w.heap.size]? = some (.cells #[.int .i64 a0, .int .i64 a1, .int .i64 a2, .int .i64 a3, .int .i64 a4, .int .i64 a5, .int .i64 a6] 37) ∧ w'.heap[w.heap.size + 1]? = some (.cells #[.int .i64 b0, .int .i64 b1, .int .i64 b2, .int .i64 b3, .int .i64 b4, .int .i64 b5, .int .i64 b6] 37)) ⟨bt (below_new _ _) (below_new _ _), two_boxes w _ _ (Below.refl _ _)⟩ ?_
  rintro w1 ⟨hb1, q1, q2⟩
  have HB1 : Hid _ := hb1
  have hne : Nonempty (NewW w1) := ⟨NewW.start w1⟩
  obtain ⟨A0, A1, A2, A3, A4, A5, A6⟩ := box7_all (w := w1) q1
  obtain ⟨B0, B1, B2, B3, B4, B5, B6⟩ := box7_all (w := w1) q2
  clear q1 q2 hb1
  refine wp_region_new (by kernel_rfl) (by kernel_rfl) ?_
  repeat (go_big_quiet_step ((first
    | (with_reducible exact new_of (G1.out _))
    | (with_reducible exact new_of (G2.out _)))))
  refine wpQuiet_nil ?_
  rintro _ ⟨w2, rfl⟩
  have HB2 : Hid (Below w.heap.size w w2.v) := bt HB1.out w2.h
  clear A0 A1 A2 A3 A4 A5 A6 B0 B1 B2 B3 B4 B5 B6
  cases x <;> cases y
  all_goals
    go_wp2
    go_ret
    exact ⟨rfl, HB2.out⟩
end Go.Proofs.Ytmjkablhambelaa
