/-
  pack.Reader: take, Bytes, Text, Bad, End, Read.
-/
import Derived.Test.YtoglhhoniojbaaaWReader
namespace Go.Proofs.Ytoglhhoniojbaaa
open Go.RowKit Go.Lib
set_option linter.unusedVariables false

theorem rnum_zero (s : Option (List UInt8)) (b : Int) : 0 ≤ (C.rnum s 0 b).1 ∧ ((C.rnum s 0 b).2 = none → (C.rnum s 0 b).1 = 0) := by
  rw [rnum_all]
  split
  · exact ⟨Int.le_refl _, fun _ => rfl⟩
  · exact ⟨by omega, fun h => by cases h⟩
theorem rnum_len (s : Option (List UInt8)) (a b : Int) : ((C.rnum s a b).2.getD []).length ≤ (s.getD []).length := by
  rw [rnum_all]
  split
  · exact Nat.zero_le _
  · simp only [Option.getD_some, List.length_drop]; omega
theorem rbytes_all (s : Option (List UInt8)) (m v : Int) (s1 : Option (List UInt8)) (h : C.rnum s 0 m = (v, s1)) : C.rbytes s m = if ((s1.getD []).length : Int) < v then ([], none) else ((s1.getD []).take v.toNat, s1.map fun l => l.drop v.toNat) := by
  have h0 := rnum_zero s m
  rw [h] at h0
  unfold C.rbytes
  rw [h]
  cases s1 with
  | none =>
    have := h0.2 rfl
    simp only at this
    subst this
    simp
  | some l => simp
theorem rbytes_len (s : Option (List UInt8)) (m : Int) : (C.rbytes s m).1.length ≤ (s.getD []).length ∧ ((C.rbytes s m).2.getD []).length ≤ (s.getD []).length := by
  have h1 := rnum_len s 0 m
  obtain ⟨v, s1, hr⟩ : ∃ v s1, C.rnum s 0 m = (v, s1) := ⟨_, _, rfl⟩
  rw [hr] at h1
  rw [rbytes_all s m v s1 hr]
  by_cases h : ((s1.getD []).length : Int) < v
  · rw [if_pos h]; exact ⟨Nat.zero_le _, Nat.zero_le _⟩
  · rw [if_neg h]
    refine ⟨by simp only [List.length_take] at *; omega, ?_⟩
    cases s1 with
    | none => exact Nat.zero_le _
    | some l => simp only [Option.map_some, Option.getD_some, List.length_drop] at *; omega
end Go.Proofs.Ytoglhhoniojbaaa
