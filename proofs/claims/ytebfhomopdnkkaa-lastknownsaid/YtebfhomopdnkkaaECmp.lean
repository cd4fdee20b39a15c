/-
  last.isNone, last.compare, strings.Clone.
-/
import Derived.Test.YtebfhomopdnkkaaEObj
import Derived.Test.YtebfhomopdnkkaaTCmp
import Derived.Test.YtebfhomopdnkkaaShelf
namespace Go.Proofs.Ytebfhomopdnkkaa
open Go.RowKit Go.Lib Go.Sort
set_option linter.unusedVariables false

def C.noneL (r n : Int) : Bool := decide (r < 0) || decide (6 < r) || decide (n < 1) || decide (1099511627776 < n)
set_option maxHeartbeats 2000000 in
theorem isnone_any (r n : Int) (w : World) : Calls Try.prog 23 #[.agg #[.int .i64 r, .int .i64 n]] w fun e w' => e = .returned (.bool (C.noneL r n)) ∧ Below w.heap.size w w' := by
  by_cases h0 : r < 0
  · have e : C.noneL r n = true := by simp [C.noneL, h0]
    rw [e]; clear e
    go_enter Try.func23, Try.ntmps23
    go_wp2
    go_ret
    exact ⟨rfl, below_new _ _⟩
  · by_cases h7 : 7 ≤ r
    · have e : C.noneL r n = true := by simp [C.noneL, h0, show 6 < r by omega]
      rw [e]; clear e
      have h0' : decide (r < 0) = false := by simpa using h0
      go_enter Try.func23, Try.ntmps23
      go_wp2
      go_ret
      exact ⟨rfl, below_new _ _⟩
    · by_cases h1 : n < 1
      · have e : C.noneL r n = true := by simp [C.noneL, h1]
        rw [e]; clear e
        have h0' : decide (r < 0) = false := by simpa using h0
        have h7' : decide (7 ≤ r) = false := by simpa using h7
        go_enter Try.func23, Try.ntmps23
        go_wp2
        go_ret
        exact ⟨rfl, below_new _ _⟩
      · have e : C.noneL r n = decide (1099511627776 < n) := by simp [C.noneL, h0, show ¬ 6 < r by omega, h1]
        rw [e]; clear e
        have h0' : decide (r < 0) = false := by simpa using h0
        have h7' : decide (7 ≤ r) = false := by simpa using h7
        have h1' : decide (n < 1) = false := by simpa using h1
        go_enter Try.func23, Try.ntmps23
        go_wp2
        go_ret
        exact ⟨rfl, below_new _ _⟩
set_option maxRecDepth 100000 in
set_option maxHeartbeats 4000000 in
theorem ecompare_any (a b : C.Dt) (w : World) : Calls Try.prog 26 #[.agg #[.int .i64 a.1, .int .i64 a.2], .agg #[.int .i64 b.1, .int .i64 b.2]] w fun e w' => e = .returned (.int .i64 (C.cmpD a b)) ∧ Below w.heap.size w w' := by
  rw [cmpD_or]
  obtain ⟨a1, a2⟩ := a
  obtain ⟨b1, b2⟩ := b
  simp only
  have K1 : ∀ W, _ := fun W => cmpi_any a1 b1 W
  have K2 : ∀ W, _ := fun W => cmpl_any a2 b2 W
  generalize C.cmp3 a1 b1 = x at K1 ⊢
  generalize C.cmp3 a2 b2 = y at K2 ⊢
  have K3 : ∀ b W, _ := fun b W => or_any x y b W
  generalize (if x = 0 then y else x) = z at K3 ⊢
  have G1 : Hid _ := K1
  have G2 : Hid _ := K2
  have G3 : Hid _ := K3
  clear K1 K2 K3
  go_enter Try.func26, Try.ntmps26
  have HSW : Hid (∀ w', Below ((w.alloc (.cells #[.int .i64 a1, .int .i64 a2] 31)).alloc (.cells #[.int .i64 b1, .int .i64 b2] 31)).heap.size ((w.alloc (.cells #[.int .i64 a1, .int .i64 a2] 31)).alloc (.cells #[.int .i64 b1, .int .i64 b2] 31)) w' → w'.cell? ⟨w.heap.size, 0, none⟩ = some (.int .i64 a1) ∧ w'.cell? ⟨w.heap.size, 1, none⟩ = some (.int .i64 a2) ∧ w'.cell? ⟨w.heap.size + 1, 0, none⟩ = some (.int .i64 b1) ∧ w'.cell? ⟨w.heap.size + 1, 1, none⟩ = some (.int .i64 b2)) := by
    intro w' hb
    have q1 : w'.heap[w.heap.size]? = some (.cells #[.int .i64 a1, .int .i64 a2] 31) := by
      rw [hb.block _ (by simp; omega), (below_new (w.alloc _) _).block _ (by simp)]; exact heap_alloc_new _ _
    have q2 : w'.heap[w.heap.size + 1]? = some (.cells #[.int .i64 b1, .int .i64 b2] 31) := by
      rw [hb.block _ (by simp)]; have := heap_alloc_new (w.alloc (.cells #[.int .i64 a1, .int .i64 a2] 31)) (.cells #[.int .i64 b1, .int .i64 b2] 31); simpa using this
    simp [World.cell?, q1, q2]
  go_wp2_with fail
  go_region_held_law (fun w' => w'.cell? ⟨w.heap.size, 0, none⟩ = some (.int .i64 a1) ∧ w'.cell? ⟨w.heap.size, 1, none⟩ = some (.int .i64 a2) ∧ w'.cell? ⟨w.heap.size + 1, 0, none⟩ = some (.int .i64 b1) ∧ w'.cell? ⟨w.heap.size + 1, 1, none⟩ = some (.int .i64 b2))
    ((refine HSW.out _ ?_; repeat (first | exact Below.refl _ _ | assumption | refine Below.drew ?_ | refine Below.alloc ?_ (by simp) _)))
    (first
    | (go_at_call 42; refine (G1.out _).mono ?_; rintro e w1 ⟨rfl, rfl⟩)
    | (go_at_call 25; refine (G2.out _).mono ?_; rintro e w1 ⟨rfl, rfl⟩)
    | (go_at_call 24; refine (G3.out _ _ (new_cell _ _ _ _ _ (by simp)) (new_cell _ _ _ _ _ (by simp))).mono ?_; rintro e w1 ⟨rfl, rfl⟩))
  go_wp2
  go_ret
  refine ⟨rfl, ?_⟩
  repeat (first | exact Below.refl _ _ | refine Below.drew ?_ | refine Below.alloc ?_ (by simp <;> omega) _)
theorem eclone_any (s : ByteArray) (w : World) (hs : s.size ≤ 281474976710656) :
    Calls Try.prog 27 #[.string s] w fun e w' => e = .returned (.string s) ∧ Below w.heap.size w w' := by
  go_enter Try.func27, Try.ntmps27
  go_wp2_with (go_at_call 43; refine (Try.stringslite_Clone _ _ hs).mono ?_; rintro e w1 ⟨rfl, hb1⟩)
  go_ret
  exact ⟨rfl, hb1⟩
end Go.Proofs.Ytebfhomopdnkkaa
