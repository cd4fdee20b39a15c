/-
  The document's own (rostrumref7): Less, May. (In a seat that has RDots, that one holds them: lay this one as an import of it.)
-/
import Derived.Test.YtebfhomopdnkkaaTRow
namespace Go.Proofs.Ytebfhomopdnkkaa
open Go.RowKit Go.Lib
set_option linter.unusedVariables false

set_option maxRecDepth 100000 in
set_option maxHeartbeats 4000000 in
theorem rless_any (a1 a2 b1 b2 : Int) (w : World) :
    Calls Try.prog 36 #[.agg #[.int .i64 a1, .int .i64 a2], .agg #[.int .i64 b1, .int .i64 b2]] w fun e w' => e = .returned (.bool (C.dlt (a1, a2) (b1, b2))) ∧ Below w.heap.size w w' := by
  by_cases h1 : a1 < b1
  · have e : C.dlt (a1, a2) (b1, b2) = true := (C.dlt_iff _ _).2 (Or.inl h1)
    rw [e]; clear e
    go_enter Try.func36, Try.ntmps36
    go_wp2
    go_ret
    exact ⟨rfl, bt (below_new _ _) (below_new _ _)⟩
  · by_cases h2 : a1 = b1
    · subst h2
      have e : C.dlt (a1, a2) (a1, b2) = decide (a2 < b2) := by simp [C.dlt]
      rw [e]; clear e
      go_enter Try.func36, Try.ntmps36
      go_wp2
      go_ret
      exact ⟨rfl, bt (below_new _ _) (below_new _ _)⟩
    · have e : C.dlt (a1, a2) (b1, b2) = false := (C.dlt_not _ _).2 (by simp only; omega)
      rw [e]; clear e
      have h3 : decide (a1 < b1) = false := by simpa using h1
      have h4 : (a1 == b1) = false := by simpa using h2
      go_enter Try.func36, Try.ntmps36
      go_wp2
      go_ret
      exact ⟨rfl, bt (below_new _ _) (below_new _ _)⟩
set_option maxRecDepth 100000 in
set_option maxHeartbeats 4000000 in
theorem rmay_any (d1 d2 : Int) (w : World) :
    Calls Try.prog 35 #[.agg #[.int .i64 d1, .int .i64 d2]] w fun e w' => e = .returned (.bool (C.may (d1, d2))) ∧ Below w.heap.size w w' := by
  by_cases h0 : 0 ≤ d1
  · by_cases h7 : d1 < 7
    · by_cases h1 : 1 ≤ d2
      · have e : C.may (d1, d2) = decide (d2 ≤ 1099511627776) := by simp [C.may, h0, h7, h1]
        rw [e]; clear e
        go_enter Try.func35, Try.ntmps35
        go_wp2
        go_ret
        exact ⟨rfl, below_new _ _⟩
      · have e : C.may (d1, d2) = false := by simp [C.may, h1]
        rw [e]; clear e
        have h1' : decide (1 ≤ d2) = false := by simpa using h1
        go_enter Try.func35, Try.ntmps35
        go_wp2
        go_ret
        exact ⟨rfl, below_new _ _⟩
    · have e : C.may (d1, d2) = false := by simp [C.may, h7]
      rw [e]; clear e
      have h7' : decide (d1 < 7) = false := by simpa using h7
      go_enter Try.func35, Try.ntmps35
      go_wp2
      go_ret
      exact ⟨rfl, below_new _ _⟩
  · have e : C.may (d1, d2) = false := by simp [C.may, h0]
    rw [e]; clear e
    have h0' : decide (0 ≤ d1) = false := by simpa using h0
    go_enter Try.func35, Try.ntmps35
    go_wp2
    go_ret
    exact ⟨rfl, below_new _ _⟩
end Go.Proofs.Ytebfhomopdnkkaa
