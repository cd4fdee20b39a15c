/-
  cmp.Compare, cmp.Or, dots.compare.
-/
import Derived.Test.YtoglhhoniojbaaaTRow
import Derived.Deep.RegionWith
import Derived.Sort.Grow
namespace Go.Proofs.Ytoglhhoniojbaaa
open Go.RowKit Go.Lib Go.Sort
set_option linter.unusedVariables false

theorem cmpi_any (a b : Int) (w : World) : Calls Try.prog 64 #[.int .i64 a, .int .i64 b] w fun e w' => e = .returned (.int .i64 (C.cmp3 a b)) ∧ w' = w := by
  unfold C.cmp3
  by_cases h1 : a < b
  · rw [if_pos h1]
    go_enter Try.func64, Try.ntmps64
    go_wp2
    go_ret
    exact ⟨rfl, rfl⟩
  · rw [if_neg h1]
    by_cases h2 : b < a
    · rw [if_pos h2]
      go_enter Try.func64, Try.ntmps64
      go_wp2
      go_ret
      exact ⟨rfl, rfl⟩
    · rw [if_neg h2]
      go_enter Try.func64, Try.ntmps64
      go_wp2
      go_ret
      exact ⟨rfl, rfl⟩
theorem cmpl_any (a b : Int) (w : World) : Calls Try.prog 65 #[.int .i64 a, .int .i64 b] w fun e w' => e = .returned (.int .i64 (C.cmp3 a b)) ∧ w' = w := by
  unfold C.cmp3
  by_cases h1 : a < b
  · rw [if_pos h1]
    go_enter Try.func65, Try.ntmps65
    go_wp2
    go_ret
    exact ⟨rfl, rfl⟩
  · rw [if_neg h1]
    by_cases h2 : b < a
    · rw [if_pos h2]
      go_enter Try.func65, Try.ntmps65
      go_wp2
      go_ret
      exact ⟨rfl, rfl⟩
    · rw [if_neg h2]
      go_enter Try.func65, Try.ntmps65
      go_wp2
      go_ret
      exact ⟨rfl, rfl⟩
set_option maxHeartbeats 1000000 in
theorem or_any (x y : Int) (b : Nat) (w : World) (h0 : w.cell? ⟨b, 0, none⟩ = some (.int .i64 x)) (h1 : w.cell? ⟨b, 1, none⟩ = some (.int .i64 y)) :
    Calls Try.prog 63 #[.slice (some ⟨b, 0, none⟩) 2 2] w fun e w' => e = .returned (.int .i64 (if x = 0 then y else x)) ∧ w' = w := by
  by_cases hx : x = 0
  · rw [if_pos hx]
    by_cases hy : y = 0
    · go_enter Try.func63, Try.ntmps63
      go_wp2
      refine wp_loop_rounds 4 ?_
      repeat (rw [rounds_succ]; go_wp2)
      go_ret
      exact ⟨ret_int (by omega), rfl⟩
    · go_enter Try.func63, Try.ntmps63
      go_wp2
      refine wp_loop_rounds 4 ?_
      repeat (rw [rounds_succ]; go_wp2)
      go_ret
      exact ⟨rfl, rfl⟩
  · rw [if_neg hx]
    go_enter Try.func63, Try.ntmps63
    go_wp2
    refine wp_loop_rounds 4 ?_
    repeat (rw [rounds_succ]; go_wp2)
    go_ret
    exact ⟨rfl, rfl⟩
theorem new_cell (w : World) (cs : Array Value) (t : TypeId) (b j : Nat) (hb : b = w.heap.size) : (w.alloc (.cells cs t)).drew.cell? ⟨b, j, none⟩ = cs[j]? := by
  subst hb; exact World.cell?_alloc_mark w cs t _ j
theorem cmpD_or (a b : C.Dt) : C.cmpD a b = if C.cmp3 a.1 b.1 = 0 then C.cmp3 a.2 b.2 else C.cmp3 a.1 b.1 := by
  have e : C.cmpD a b = if a.1 < b.1 then -1 else if b.1 < a.1 then 1 else C.cmp3 a.2 b.2 := rfl
  rw [e]
  have e1 : C.cmp3 a.1 b.1 = if a.1 < b.1 then -1 else if b.1 < a.1 then 1 else 0 := rfl
  rw [e1]
  by_cases h1 : a.1 < b.1
  · simp [h1]
  · by_cases h2 : b.1 < a.1
    · simp [h1, h2]
    · simp [h1, h2]
set_option maxRecDepth 100000 in
set_option maxHeartbeats 4000000 in
theorem compare_any (a b : C.Dt) (w : World) : Calls Try.prog 86 #[.agg #[.int .i64 a.1, .int .i64 a.2], .agg #[.int .i64 b.1, .int .i64 b.2]] w fun e w' => e = .returned (.int .i64 (C.cmpD a b)) ∧ ∃ q os', w' = grow (w.drewN q) os' := by
  rw [cmpD_or]
  obtain ⟨a1, a2⟩ := a
  obtain ⟨b1, b2⟩ := b
  simp only
  have K1 : ∀ W, _ := fun W => cmpi_any a1 b1 W
  have K2 : ∀ W, _ := fun W => cmpl_any a2 b2 W
  generalize C.cmp3 a1 b1 = x at K1 ⊢
  generalize C.cmp3 a2 b2 = y at K2 ⊢
  have K3 : ∀ b W, _ := fun b W => or_any x y b W
  generalize (if x = 0 then y else x) = z at K3 ⊢
  have G1 : Hid _ := K1
  have G2 : Hid _ := K2
  have G3 : Hid _ := K3
  clear K1 K2 K3
  go_enter Try.func86, Try.ntmps86
  have HSW : Hid (∀ w', Below ((w.alloc (.cells #[.int .i64 a1, .int .i64 a2] 31)).alloc (.cells #[.int .i64 b1, .int .i64 b2] 31)).heap.size ((w.alloc (.cells #[.int .i64 a1, .int .i64 a2] 31)).alloc (.cells #[.int .i64 b1, .int .i64 b2] 31)) w' → w'.cell? ⟨w.heap.size, 0, none⟩ = some (.int .i64 a1) ∧ w'.cell? ⟨w.heap.size, 1, none⟩ = some (.int .i64 a2) ∧ w'.cell? ⟨w.heap.size + 1, 0, none⟩ = some (.int .i64 b1) ∧ w'.cell? ⟨w.heap.size + 1, 1, none⟩ = some (.int .i64 b2)) := by
    intro w' hb
    have q1 : w'.heap[w.heap.size]? = some (.cells #[.int .i64 a1, .int .i64 a2] 31) := by
      rw [hb.block _ (by simp; omega), (below_new (w.alloc _) _).block _ (by simp)]; exact heap_alloc_new _ _
    have q2 : w'.heap[w.heap.size + 1]? = some (.cells #[.int .i64 b1, .int .i64 b2] 31) := by
      rw [hb.block _ (by simp)]; have := heap_alloc_new (w.alloc (.cells #[.int .i64 a1, .int .i64 a2] 31)) (.cells #[.int .i64 b1, .int .i64 b2] 31); simpa using this
    simp [World.cell?, q1, q2]
  go_wp2_with fail
  go_region_held_law (fun w' => w'.cell? ⟨w.heap.size, 0, none⟩ = some (.int .i64 a1) ∧ w'.cell? ⟨w.heap.size, 1, none⟩ = some (.int .i64 a2) ∧ w'.cell? ⟨w.heap.size + 1, 0, none⟩ = some (.int .i64 b1) ∧ w'.cell? ⟨w.heap.size + 1, 1, none⟩ = some (.int .i64 b2))
    ((refine HSW.out _ ?_; repeat (first | exact Below.refl _ _ | assumption | refine Below.drew ?_ | refine Below.alloc ?_ (by simp) _)))
    (first
    | (go_at_call 64; refine (G1.out _).mono ?_; rintro e w1 ⟨rfl, rfl⟩)
    | (go_at_call 65; refine (G2.out _).mono ?_; rintro e w1 ⟨rfl, rfl⟩)
    | (go_at_call 63; refine (G3.out _ _ (new_cell _ _ _ _ _ (by simp)) (new_cell _ _ _ _ _ (by simp))).mono ?_; rintro e w1 ⟨rfl, rfl⟩))
  go_wp2
  go_ret
  exact ⟨rfl, 1, _, by rw [Sort.alloc_eq_grow, Sort.alloc_eq_grow, Sort.alloc_eq_grow, Sort.grow_grow, Sort.grow_grow]; rfl⟩
end Go.Proofs.Ytoglhhoniojbaaa
