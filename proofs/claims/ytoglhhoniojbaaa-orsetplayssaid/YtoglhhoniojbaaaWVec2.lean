/-
  vec.isReplica, vec.Has, vec.Cmp, vec.Next.
-/
import Derived.Test.YtoglhhoniojbaaaWEq
import Derived.Deep.RegionHeldLaw
import Derived.Deep.QuietTactic
import Derived.BigQuiet
namespace Go.Proofs.Ytoglhhoniojbaaa
open Go.RowKit Go.Lib
set_option linter.unusedVariables false

theorem bel_alike {A B C : World} (h : Below A.heap.size A B) (h1 : C.heap = B.heap) (h2 : C.os = B.os) (h3 : C.tape = B.tape) (h4 : C.output = B.output) : Below A.heap.size A C :=
  ⟨h2.trans h.os, h3.trans h.tape, h4.trans h.output, by rw [h1]; exact h.size, fun k hk => by rw [h1]; exact h.block k hk⟩
/-- A clock in a block of its own: its cells. -/
theorem box7 {w : World} {b : Nat} {x0 x1 x2 x3 x4 x5 x6 : Int} {t : TypeId} {m : Nat × Nat} (h : w.heap[b]? = some (.cells #[.int .i64 x0, .int .i64 x1, .int .i64 x2, .int .i64 x3, .int .i64 x4, .int .i64 x5, .int .i64 x6] t m)) :
    w.cell? ⟨b, 0, none⟩ = some (.int .i64 x0) ∧ w.cell? ⟨b, 1, none⟩ = some (.int .i64 x1) ∧ w.cell? ⟨b, 2, none⟩ = some (.int .i64 x2) ∧ w.cell? ⟨b, 3, none⟩ = some (.int .i64 x3) ∧ w.cell? ⟨b, 4, none⟩ = some (.int .i64 x4) ∧ w.cell? ⟨b, 5, none⟩ = some (.int .i64 x5) ∧ w.cell? ⟨b, 6, none⟩ = some (.int .i64 x6) := by
  simp [World.cell?, h]
theorem two_boxes (w : World) (X Y : Obj) {w1 : World} (h : Below ((w.alloc X).alloc Y).heap.size ((w.alloc X).alloc Y) w1) : w1.heap[w.heap.size]? = some X ∧ w1.heap[w.heap.size + 1]? = some Y := by
  constructor
  · rw [h.block _ (by simp; omega), (below_new (w.alloc X) Y).block _ (by simp)]; exact heap_alloc_new _ _
  · rw [h.block _ (by simp)]; have := heap_alloc_new (w.alloc X) Y; simpa using this
namespace C
def isRep (r : Int) : Bool := decide (0 ≤ r) && decide (r < 7)
end C
theorem isrep_any (r : Int) (w : World) : Calls Try.prog 59 #[.int .i64 r] w fun e w' => e = .returned (.bool (C.isRep r)) ∧ w' = w := by
  by_cases h : 0 ≤ r
  · go_enter Try.func59, Try.ntmps59
    go_wp2
    go_ret
    exact ⟨ret_bool (by simp [C.isRep, h]), rfl⟩
  · go_enter Try.func59, Try.ntmps59
    go_wp2
    go_ret
    exact ⟨ret_bool (by simp [C.isRep]; omega), rfl⟩
theorem isrep_false {r : Int} (h : C.isRep r = false) (w : World) : Calls Try.prog 59 #[.int .i64 r] w fun e w' => e = .returned (.bool false) ∧ w' = w := by
  have := isrep_any r w; rw [h] at this; exact this
theorem isrep_true {r : Int} (h : C.isRep r = true) (w : World) : Calls Try.prog 59 #[.int .i64 r] w fun e w' => e = .returned (.bool true) ∧ w' = w := by
  have := isrep_any r w; rw [h] at this; exact this
theorem isrep_cases {r : Int} (h : C.isRep r = true) : ∃ k : Nat, k < 7 ∧ r = k := by
  simp only [C.isRep, Bool.and_eq_true, decide_eq_true_eq] at h
  exact ⟨r.toNat, by omega, by omega⟩
theorem isrep_lt {k : Nat} (h : k < 7) : C.isRep (k : Int) = true := by
  simp only [C.isRep, Bool.and_eq_true, decide_eq_true_eq]; omega
set_option maxRecDepth 100000 in
set_option maxHeartbeats 4000000 in
theorem has_any (a : V7) (r n : Int) (w : World) :
    Calls Try.prog 28 #[a.v, .agg #[.int .i64 r, .int .i64 n]] w fun e w' => e = .returned (.bool (C.has a r n)) ∧ Below w.heap.size w w' := by
  obtain ⟨a0, a1, a2, a3, a4, a5, a6⟩ := a
  simp only [V7.v]
  cases hr : C.isRep r with
  | false =>
    have e : C.has ⟨a0, a1, a2, a3, a4, a5, a6⟩ r n = false := by
      simp only [C.isRep] at hr; simp only [C.has, hr, Bool.false_and]
    rw [e]
    clear e
    go_enter Try.func28, Try.ntmps28
    go_wp2
    go_quiet ((go_at_call 59; exact Calls.quiet_of_same (isrep_false hr _)))
    go_wp2
    go_ret
    exact ⟨rfl, bel_alike (bt (below_new _ _) (below_new _ _)) rfl rfl rfl rfl⟩
  | true =>
    obtain ⟨k, hk, rfl⟩ := isrep_cases hr
    by_cases hn : 1 ≤ n
    · have hc : k = 0 ∨ k = 1 ∨ k = 2 ∨ k = 3 ∨ k = 4 ∨ k = 5 ∨ k = 6 := by omega
      rcases hc with rfl | rfl | rfl | rfl | rfl | rfl | rfl
      all_goals
        go_enter Try.func28, Try.ntmps28
        go_wp2
        go_quiet ((go_at_call 59; exact Calls.quiet_of_same (isrep_true hr _)))
        go_wp2
        go_ret
        exact ⟨ret_bool (by simp [C.has, C.at7, hn]), bel_alike (bt (below_new _ _) (below_new _ _)) rfl rfl rfl rfl⟩
    · have e : C.has ⟨a0, a1, a2, a3, a4, a5, a6⟩ k n = false := by
        simp [C.has, hn]
      rw [e]
      have hn' : decide (1 ≤ n) = false := by simpa using hn
      clear e
      go_enter Try.func28, Try.ntmps28
      go_wp2
      go_quiet ((go_at_call 59; exact Calls.quiet_of_same (isrep_true hr _)))
      go_wp2
      go_ret
      exact ⟨rfl, bel_alike (bt (below_new _ _) (below_new _ _)) rfl rfl rfl rfl⟩
theorem good_at {a : V7} {b : Bool} (h : C.good a = b) (w : World) : Calls Try.prog 26 #[a.v] w fun e w' => e = .returned (.bool b) ∧ Below w.heap.size w w' := by
  have := good_any a w; rw [h] at this; exact this
end Go.Proofs.Ytoglhhoniojbaaa
