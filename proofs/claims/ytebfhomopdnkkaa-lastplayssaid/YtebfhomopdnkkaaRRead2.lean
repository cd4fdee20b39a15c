/-
  The document's own reader: Num, Bytes, End.
-/
import Derived.Test.YtebfhomopdnkkaaRRead
namespace Go.Proofs.Ytebfhomopdnkkaa
open Go.RowKit Go.Lib
set_option linter.unusedVariables false

theorem and_one (x : Nat) (h : x < C.lim) : bits .and .u64 (x : Int) 1 = ((x % 2 : Nat) : Int) := by
  have := u64_and_nat x 1 h (by omega)
  rw [Nat.and_one_is_mod] at this
  exact this
/-- What the document's Num tells, and where it stands then. -/
def RefNum (w' : World) (g : Nat) (p : Option Addr) (n c : Nat) (l : List UInt8) (a : Nat) (least most v : Int) : Prop :=
  (∃ a', Rr w' g p n c l a' false ∧ a ≤ a' ∧ C.fst (l.drop a) = (v, a' - a) ∧ a' - a ≠ 0 ∧ least ≤ v ∧ v ≤ most) ∨
  (v = 0 ∧ (∃ a', Rr w' g p n c l a' true) ∧ ((C.fst (l.drop a)).2 = 0 ∨ (C.fst (l.drop a)).1 < least ∨ most < (C.fst (l.drop a)).1))
theorem RefNum.good {w' : World} {g : Nat} {p : Option Addr} {n c : Nat} {l : List UInt8} {a a' x : Nat} {least most v : Int} (h : Rr w' g p n c l a' false) (hr : C.raw (l.drop a) = some (x, a' - a) ∧ a ≤ a') (hv : v = C.unzig x) (h1 : least ≤ v) (h2 : v ≤ most) : RefNum w' g p n c l a least most v := by
  refine Or.inl ⟨a', h, hr.2, ?_, ?_, h1, h2⟩
  · rw [fst_some hr.1, hv]
  · have := C.raw_lt hr.1; omega
theorem RefNum.none {w' : World} {g : Nat} {p : Option Addr} {n c : Nat} {l : List UInt8} {a a' : Nat} {least most : Int} (h : Rr w' g p n c l a' true) (hr : C.raw (l.drop a) = none) : RefNum w' g p n c l a least most 0 := by
  refine Or.inr ⟨rfl, ⟨a', h⟩, Or.inl ?_⟩
  rw [fst_none hr]
theorem RefNum.out {w' : World} {g : Nat} {p : Option Addr} {n c : Nat} {l : List UInt8} {a a' x : Nat} {least most v : Int} {b : Nat} (h : Rr w' g p n c l a' true) (hr : C.raw (l.drop a) = some (x, b)) (hv : v = C.unzig x) (h1 : v < least ∨ most < v) : RefNum w' g p n c l a least most 0 := by
  refine Or.inr ⟨rfl, ⟨a', h⟩, Or.inr ?_⟩
  rw [fst_some hr, ← hv]; exact h1
theorem unzig_even {x : Nat} (h : x % 2 = 0) : (x : Int) / 2 = C.unzig x := by unfold C.unzig; rw [if_pos h]; omega
theorem unzig_odd {x : Nat} (h : x % 2 = 1) : -1 - (x : Int) / 2 = C.unzig x := by unfold C.unzig; rw [if_neg (by omega)]; omega
set_option maxRecDepth 100000 in
set_option maxHeartbeats 8000000 in
theorem refrnum_walk (w : World) (g : Nat) (p : Option Addr) (n c : Nat) (l : List UInt8) (a : Nat) (least most : Int) (h : Rr w g p n c l a false) (hl : l.length ≤ 100000) :
    Calls Try.prog 39 #[.pointer (some ⟨g, 0, none⟩), .int .i64 least, .int .i64 most] w fun e w' => (∃ v, e = .returned (.int .i64 v) ∧ RefNum w' g p n c l a least most v) ∧ w.grownBy w' (some g) := by
  have h2 := h.c2
  have H : Hid _ := h
  clear h
  go_enter Try.func39, Try.ntmps39
  go_wp2_with fail
  refine (raw_any w g p n c l a false H.out hl).mono ?_
  rintro e w1 ⟨⟨x, ok, a', rfl, hx, hr1, hok, hno⟩, hg1⟩
  have h2 := hr1.c2
  have f2 := hr1.fz 2
  have HR1 : Hid _ := hr1
  have hand := and_one x hx
  have HOK : Hid _ := hok
  have HNO : Hid _ := hno
  have hx' : x < 18446744073709551616 := hx
  clear hx hr1 hok hno
  cases ok with
  | false =>
    clear hx' hand
    by_cases h1 : (bits .and .u64 (x : Int) 1 == 1) = true
    all_goals
      go_wp2
      go_ret
      exact ⟨⟨0, rfl, RefNum.none HR1.out.spoilt (HNO.out (by trivial))⟩, gtrans hg1 (set_grown _ _ _ _)⟩
  | true =>
    rcases Nat.mod_two_eq_zero_or_one x with hm | hm
    · rw [hm] at hand
      have HM : Hid (x % 2 = 0) := hm
      have hodd : (bits .and .u64 (x : Int) 1 == 1) = false := by rw [hand]; decide
      clear hand hm
      by_cases hva : (x : Int) / 2 < least
      · go_wp2
        go_ret
        exact ⟨⟨0, rfl, RefNum.out HR1.out.spoilt (HOK.out (by trivial)).1 (unzig_even HM.out) (Or.inl hva)⟩, gtrans hg1 (set_grown _ _ _ _)⟩
      by_cases hvb : most < (x : Int) / 2
      · go_wp2
        go_ret
        exact ⟨⟨0, rfl, RefNum.out HR1.out.spoilt (HOK.out (by trivial)).1 (unzig_even HM.out) (Or.inr hvb)⟩, gtrans hg1 (set_grown _ _ _ _)⟩
      go_wp2
      go_ret
      exact ⟨⟨_, rfl, RefNum.good HR1.out (HOK.out (by trivial)) (unzig_even HM.out) (by omega) (by omega)⟩, hg1⟩
    · rw [hm] at hand
      have HM : Hid (x % 2 = 1) := hm
      have hodd : (bits .and .u64 (x : Int) 1 == 1) = true := by rw [hand]; decide
      clear hand hm
      by_cases hva : -1 - (x : Int) / 2 < least
      · go_wp2
        go_ret
        exact ⟨⟨0, rfl, RefNum.out HR1.out.spoilt (HOK.out (by trivial)).1 (unzig_odd HM.out) (Or.inl hva)⟩, gtrans hg1 (set_grown _ _ _ _)⟩
      by_cases hvb : most < -1 - (x : Int) / 2
      · go_wp2
        go_ret
        exact ⟨⟨0, rfl, RefNum.out HR1.out.spoilt (HOK.out (by trivial)).1 (unzig_odd HM.out) (Or.inr hvb)⟩, gtrans hg1 (set_grown _ _ _ _)⟩
      go_wp2
      go_ret
      exact ⟨⟨_, rfl, RefNum.good HR1.out (HOK.out (by trivial)) (unzig_odd HM.out) (by omega) (by omega)⟩, hg1⟩
end Go.Proofs.Ytebfhomopdnkkaa
