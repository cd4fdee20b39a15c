/-
  pack.Reader: take, Bytes, Text, Bad, End, Read.
-/
import Derived.Test.YtnkfabonggofgaaWReader
namespace Go.Proofs.Ytnkfabonggofgaa
open Go.RowKit Go.Lib
set_option linter.unusedVariables false

theorem rnum_zero (s : Option (List UInt8)) (b : Int) : 0 ≤ (C.rnum s 0 b).1 ∧ ((C.rnum s 0 b).2 = none → (C.rnum s 0 b).1 = 0) := by
  rw [rnum_all]
  split
  · exact ⟨Int.le_refl _, fun _ => rfl⟩
  · exact ⟨by omega, fun h => by cases h⟩
theorem rnum_len (s : Option (List UInt8)) (a b : Int) : ((C.rnum s a b).2.getD []).length ≤ (s.getD []).length := by
  rw [rnum_all]
  split
  · exact Nat.zero_le _
  · simp only [Option.getD_some, List.length_drop]; omega
theorem rbytes_all (s : Option (List UInt8)) (m v : Int) (s1 : Option (List UInt8)) (h : C.rnum s 0 m = (v, s1)) : C.rbytes s m = if ((s1.getD []).length : Int) < v then ([], none) else ((s1.getD []).take v.toNat, s1.map fun l => l.drop v.toNat) := by
  have h0 := rnum_zero s m
  rw [h] at h0
  unfold C.rbytes
  rw [h]
  cases s1 with
  | none =>
    have := h0.2 rfl
    simp only at this
    subst this
    simp
  | some l => simp
theorem rbytes_len (s : Option (List UInt8)) (m : Int) : (C.rbytes s m).1.length ≤ (s.getD []).length ∧ ((C.rbytes s m).2.getD []).length ≤ (s.getD []).length := by
  have h1 := rnum_len s 0 m
  obtain ⟨v, s1, hr⟩ : ∃ v s1, C.rnum s 0 m = (v, s1) := ⟨_, _, rfl⟩
  rw [hr] at h1
  rw [rbytes_all s m v s1 hr]
  by_cases h : ((s1.getD []).length : Int) < v
  · rw [if_pos h]; exact ⟨Nat.zero_le _, Nat.zero_le _⟩
  · rw [if_neg h]
    refine ⟨by simp only [List.length_take] at *; omega, ?_⟩
    cases s1 with
    | none => exact Nat.zero_le _
    | some l => simp only [Option.map_some, Option.getD_some, List.length_drop] at *; omega
theorem rnum_at (w : World) (g : Nat) (s : Option (List UInt8)) (p : Option Addr) (n c : Nat) (a b v : Int) (s1 : Option (List UInt8)) (h : Rd w g s p n c) (hl : (s.getD []).length ≤ 100000) (hr : C.rnum s a b = (v, s1)) :
    Calls Try.prog 33 #[.pointer (some ⟨g, 0, none⟩), .int .i64 a, .int .i64 b] w fun e w' => e = .returned (.int .i64 v) ∧ (∃ p' n' c', Rd w' g s1 p' n' c') ∧ w.grownBy w' (some g) := by
  have := rnum_any w g s p n c a b h hl
  rw [hr] at this
  exact this
theorem bad_any (w : World) (g : Nat) (s : Option (List UInt8)) (p : Option Addr) (n c : Nat) (h : Rd w g s p n c) :
    Calls Try.prog 26 #[.pointer (some ⟨g, 0, none⟩)] w fun e w' => e = .returned (.bool s.isNone) ∧ w' = w := by
  have h1 := h.c1
  clear h
  go_enter Try.func26, Try.ntmps26
  go_wp2
  go_ret
  exact ⟨rfl, rfl⟩
theorem end_any (w : World) (g : Nat) (s : Option (List UInt8)) (p : Option Addr) (n c : Nat) (h : Rd w g s p n c) :
    Calls Try.prog 22 #[.pointer (some ⟨g, 0, none⟩)] w fun e w' => e = .returned (.bool (s == some [])) ∧ w' = w := by
  have h0 := h.c0
  have h1 := h.c1
  have hn := h.is.1
  clear h
  cases s with
  | none =>
    go_enter Try.func22, Try.ntmps22
    go_wp2
    go_ret
    exact ⟨rfl, rfl⟩
  | some l =>
    have HE : Hid (((n : Int) == 0) = (some l == some [])) := by
      show _ = _
      simp only [Option.getD_some] at hn
      subst hn
      cases l <;> simp; omega
    clear hn
    go_enter Try.func22, Try.ntmps22
    go_wp2
    go_ret
    exact ⟨ret_bool HE.out, rfl⟩
set_option maxHeartbeats 1000000 in
theorem read_any (w : World) (p : Option Addr) (n c : Nat) (l : List UInt8) (h : Is w p n c l) (hl : l.length ≤ 100000) :
    Calls Try.prog 12 #[.slice p n c] w fun e w' => (∃ g p' n' c', e = .returned (.pointer (some ⟨g, 0, none⟩)) ∧ w.heap.size ≤ g ∧ Rd w' g (some l) p' n' c') ∧ Below w.heap.size w w' := by
  obtain ⟨hn, hok⟩ := h
  have HO : Hid _ := hok
  have HL : Hid _ := hl
  subst hn
  clear hok hl
  go_enter Try.func12, Try.ntmps12
  go_wp2_with fail
  refine (clone_any p l c w HO.out (Nat.le_trans HL.out (by decide))).mono ?_
  rintro e w1 ⟨⟨v, rfl, ho⟩, hb⟩
  obtain ⟨p1, n1, c1, rfl, hi1, hnc, hcm, hpa⟩ : ∃ p1 n1 c1, v = .slice p1 n1 c1 ∧ Is w1 p1 n1 c1 l ∧ n1 ≤ c1 ∧ c1 ≤ maxLen ∧ ((p1 = none ∧ c1 = 0) ∨ ∃ b o, p1 = some ⟨b, o, none⟩) := by
    obtain ⟨p1, n1, c1, hv, hi1⟩ := Own.is ho
    rcases ho.2 with ⟨h1, h2⟩ | ⟨gg, cap, cur, h1, h2, h3, h4, h5, _⟩
    · rw [h1] at hv; cases hv; exact ⟨_, _, _, h1, hi1, Nat.le_refl _, Nat.zero_le _, Or.inl ⟨rfl, rfl⟩⟩
    · rw [h1] at hv; cases hv; exact ⟨_, _, _, h1, hi1, h4, h5, Or.inr ⟨_, _, rfl⟩⟩
  have HI1 : Hid _ := hi1
  have HCM : Hid _ := hcm
  have HPA : Hid _ := hpa
  clear hi1 ho hcm hpa
  go_wp2
  go_ret
  refine ⟨⟨w1.heap.size, p1, n1, c1, rfl, hb.size, ⟨?_, Is.below HI1.out (below_new _ _), hnc, HCM.out, HPA.out⟩⟩, bt hb (below_new _ _)⟩
  exact heap_alloc_new _ _
end Go.Proofs.Ytnkfabonggofgaa
