/-
  What different replicas counted is apart.
-/
import Derived.Test.YtnkfabonggofgaaYMath
namespace Go.Proofs.Ytnkfabonggofgaa
namespace C
/-- Counted by the first three alone; by the others alone. -/
structure Low (T : Ta) : Prop where
  u3 : T.u.x3 = 0
  u4 : T.u.x4 = 0
  u5 : T.u.x5 = 0
  u6 : T.u.x6 = 0
  d3 : T.d.x3 = 0
  d4 : T.d.x4 = 0
  d5 : T.d.x5 = 0
  d6 : T.d.x6 = 0
structure High (T : Ta) : Prop where
  u0 : T.u.x0 = 0
  u1 : T.u.x1 = 0
  u2 : T.u.x2 = 0
  d0 : T.d.x0 = 0
  d1 : T.d.x1 = 0
  d2 : T.d.x2 = 0
theorem low_zero : Low zeroT := ⟨rfl, rfl, rfl, rfl, rfl, rfl, rfl, rfl⟩
theorem high_zero : High zeroT := ⟨rfl, rfl, rfl, rfl, rfl, rfl⟩
theorem low_add {T : Ta} (h : Low T) {k : Nat} (hk : k < 3) (b : Int) : Low (addT T k b) := by
  obtain ⟨a1, a2, a3, a4, a5, a6, a7, a8⟩ := h
  have hc : k = 0 ∨ k = 1 ∨ k = 2 := by omega
  unfold addT
  rw [Int.toNat_natCast]
  split
  · exact ⟨a1, a2, a3, a4, a5, a6, a7, a8⟩
  · split
    · split
      · exact ⟨a1, a2, a3, a4, a5, a6, a7, a8⟩
      · rcases hc with rfl | rfl | rfl <;> exact ⟨a1, a2, a3, a4, a5, a6, a7, a8⟩
    · split
      · exact ⟨a1, a2, a3, a4, a5, a6, a7, a8⟩
      · rcases hc with rfl | rfl | rfl <;> exact ⟨a1, a2, a3, a4, a5, a6, a7, a8⟩
theorem high_add {T : Ta} (h : High T) {k : Nat} (hk : 3 ≤ k ∧ k < 7) (b : Int) : High (addT T k b) := by
  obtain ⟨a1, a2, a3, a4, a5, a6⟩ := h
  have hc : k = 3 ∨ k = 4 ∨ k = 5 ∨ k = 6 := by omega
  unfold addT
  rw [Int.toNat_natCast]
  split
  · exact ⟨a1, a2, a3, a4, a5, a6⟩
  · split
    · split
      · exact ⟨a1, a2, a3, a4, a5, a6⟩
      · rcases hc with rfl | rfl | rfl | rfl <;> exact ⟨a1, a2, a3, a4, a5, a6⟩
    · split
      · exact ⟨a1, a2, a3, a4, a5, a6⟩
      · rcases hc with rfl | rfl | rfl | rfl <;> exact ⟨a1, a2, a3, a4, a5, a6⟩
theorem apart_val {S T : Ta} (hS : S.Ok) (hT : T.Ok) (h : Low S) (k : High T) : valT (mrgT S T) = valT S + valT T := by
  obtain ⟨a1, a2, a3, a4, a5, a6, a7, a8⟩ := h
  obtain ⟨b1, b2, b3, b4, b5, b6⟩ := k
  have h1 := hS.u
  have h2 := hS.d
  have h3 := hT.u
  have h4 := hT.d
  unfold ok50 at h1 h2 h3 h4
  unfold valT mrgT mrg
  simp only
  omega
theorem val_small {T : Ta} (h : T.Ok) : -7881299347898368 ≤ valT T ∧ valT T ≤ 7881299347898368 := by
  have h1 := h.u
  have h2 := h.d
  unfold ok50 at h1 h2
  unfold valT
  omega
end C
end Go.Proofs.Ytnkfabonggofgaa
