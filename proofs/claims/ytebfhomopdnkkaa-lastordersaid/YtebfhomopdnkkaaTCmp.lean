/-
  cmp.Compare, cmp.Or, dots.compare.
-/
import Derived.Test.YtebfhomopdnkkaaTRow
import Derived.Deep.RegionWith
import Derived.Sort.Grow
namespace Go.Proofs.Ytebfhomopdnkkaa
open Go.RowKit Go.Lib Go.Sort
set_option linter.unusedVariables false

theorem cmpi_any (a b : Int) (w : World) : Calls Try.prog 42 #[.int .i64 a, .int .i64 b] w fun e w' => e = .returned (.int .i64 (C.cmp3 a b)) ∧ w' = w := by
  unfold C.cmp3
  by_cases h1 : a < b
  · rw [if_pos h1]
    go_enter Try.func42, Try.ntmps42
    go_wp2
    go_ret
    exact ⟨rfl, rfl⟩
  · rw [if_neg h1]
    by_cases h2 : b < a
    · rw [if_pos h2]
      go_enter Try.func42, Try.ntmps42
      go_wp2
      go_ret
      exact ⟨rfl, rfl⟩
    · rw [if_neg h2]
      go_enter Try.func42, Try.ntmps42
      go_wp2
      go_ret
      exact ⟨rfl, rfl⟩
theorem cmpl_any (a b : Int) (w : World) : Calls Try.prog 25 #[.int .i64 a, .int .i64 b] w fun e w' => e = .returned (.int .i64 (C.cmp3 a b)) ∧ w' = w := by
  unfold C.cmp3
  by_cases h1 : a < b
  · rw [if_pos h1]
    go_enter Try.func25, Try.ntmps25
    go_wp2
    go_ret
    exact ⟨rfl, rfl⟩
  · rw [if_neg h1]
    by_cases h2 : b < a
    · rw [if_pos h2]
      go_enter Try.func25, Try.ntmps25
      go_wp2
      go_ret
      exact ⟨rfl, rfl⟩
    · rw [if_neg h2]
      go_enter Try.func25, Try.ntmps25
      go_wp2
      go_ret
      exact ⟨rfl, rfl⟩
set_option maxHeartbeats 1000000 in
theorem or_any (x y : Int) (b : Nat) (w : World) (h0 : w.cell? ⟨b, 0, none⟩ = some (.int .i64 x)) (h1 : w.cell? ⟨b, 1, none⟩ = some (.int .i64 y)) :
    Calls Try.prog 24 #[.slice (some ⟨b, 0, none⟩) 2 2] w fun e w' => e = .returned (.int .i64 (if x = 0 then y else x)) ∧ w' = w := by
  by_cases hx : x = 0
  · rw [if_pos hx]
    by_cases hy : y = 0
    · go_enter Try.func24, Try.ntmps24
      go_wp2
      refine wp_loop_rounds 4 ?_
      repeat (rw [rounds_succ]; go_wp2)
      go_ret
      exact ⟨ret_int (by omega), rfl⟩
    · go_enter Try.func24, Try.ntmps24
      go_wp2
      refine wp_loop_rounds 4 ?_
      repeat (rw [rounds_succ]; go_wp2)
      go_ret
      exact ⟨rfl, rfl⟩
  · rw [if_neg hx]
    go_enter Try.func24, Try.ntmps24
    go_wp2
    refine wp_loop_rounds 4 ?_
    repeat (rw [rounds_succ]; go_wp2)
    go_ret
    exact ⟨rfl, rfl⟩
theorem new_cell (w : World) (cs : Array Value) (t : TypeId) (b j : Nat) (hb : b = w.heap.size) : (w.alloc (.cells cs t)).drew.cell? ⟨b, j, none⟩ = cs[j]? := by
  subst hb; exact World.cell?_alloc_mark w cs t _ j
theorem cmpD_or (a b : C.Dt) : C.cmpD a b = if C.cmp3 a.1 b.1 = 0 then C.cmp3 a.2 b.2 else C.cmp3 a.1 b.1 := by
  have e : C.cmpD a b = if a.1 < b.1 then -1 else if b.1 < a.1 then 1 else C.cmp3 a.2 b.2 := rfl
  rw [e]
  have e1 : C.cmp3 a.1 b.1 = if a.1 < b.1 then -1 else if b.1 < a.1 then 1 else 0 := rfl
  rw [e1]
  by_cases h1 : a.1 < b.1
  · simp [h1]
  · by_cases h2 : b.1 < a.1
    · simp [h1, h2]
    · simp [h1, h2]
end Go.Proofs.Ytebfhomopdnkkaa
