/-
  The document's own reader by what it has not read yet: Num, End, Bytes.
-/
import Derived.Test.YtebfhomopdnkkaaRRead2
namespace Go.Proofs.Ytebfhomopdnkkaa
open Go.RowKit Go.Lib
set_option linter.unusedVariables false

/-- The document's reader at block g: none: it is bad. -/
def Rs (w : World) (g : Nat) (p : Option Addr) (n c : Nat) (l : List UInt8) (s : Option (List UInt8)) : Prop := ∃ a, Rr w g p n c l a s.isNone ∧ ∀ r, s = some r → r = l.drop a
section
variable {w w' : World} {g k : Nat} {p : Option Addr} {n c : Nat} {l : List UInt8} {s : Option (List UInt8)}
theorem Rs.nb (h : Rs w g p n c l s) : NB w g := by obtain ⟨a, h, _⟩ := h; exact h.nb
theorem Rs.lt (h : Rs w g p n c l s) : g < w.heap.size := by obtain ⟨a, h, _⟩ := h; exact h.lt
theorem Rs.kept (h : Rs w g p n c l s) (hg : w.grownBy w' (some k)) (hn : NB w k) (hne : g ≠ k) : Rs w' g p n c l s := by obtain ⟨a, h, h'⟩ := h; exact ⟨a, h.kept hg hn hne, h'⟩
theorem Rs.below (h : Rs w g p n c l s) (hb : Below w.heap.size w w') : Rs w' g p n c l s := by obtain ⟨a, h, h'⟩ := h; exact ⟨a, h.below hb, h'⟩
theorem Rs.len (h : Rs w g p n c l s) : (s.getD []).length ≤ l.length := by
  obtain ⟨a, h, h'⟩ := h
  cases s with
  | none => exact Nat.zero_le _
  | some r => rw [h' r rfl]; simp only [Option.getD_some, List.length_drop]; omega
end
theorem refrnum_any (w : World) (g : Nat) (p : Option Addr) (n c : Nat) (l : List UInt8) (s : Option (List UInt8)) (least most : Int) (h : Rs w g p n c l s) (hl : l.length ≤ 100000) :
    Calls Try.prog 39 #[.pointer (some ⟨g, 0, none⟩), .int .i64 least, .int .i64 most] w fun e w' => e = .returned (.int .i64 (C.rnum s least most).1) ∧ Rs w' g p n c l (C.rnum s least most).2 ∧ w.grownBy w' (some g) := by
  obtain ⟨a, h, hs⟩ := h
  cases s with
  | none =>
    have h2 : w.cell? ⟨g, 2, none⟩ = some (.bool true) := h.c2
    have H : Hid _ := h
    have HN : Hid (C.rnum none least most = (0, none)) := rfl
    clear h hs
    rw [HN.out]
    go_enter Try.func39, Try.ntmps39
    go_wp2
    go_ret
    exact ⟨rfl, ⟨a, H.out, fun r hr => by cases hr⟩, World.grownBy.refl _ _⟩
  | some r =>
    obtain rfl := hs r rfl
    refine (refrnum_walk w g p n c l a least most h hl).mono ?_
    rintro e w' ⟨⟨v, rfl, hv⟩, hg⟩
    rw [rnum_all]
    simp only [Option.getD_some]
    rcases hv with ⟨a', h1, h2, h3, h4, h5, h6⟩ | ⟨rfl, ⟨a', h1⟩, h2⟩
    · rw [h3, if_neg (by omega)]
      refine ⟨rfl, ⟨a', h1, fun r hr => ?_⟩, hg⟩
      simp only [Option.some.injEq] at hr
      rw [← hr, List.drop_drop]
      congr 1; omega
    · rw [if_pos h2]
      exact ⟨rfl, ⟨a', h1, fun r hr => by cases hr⟩, hg⟩
theorem refrnum_at (w : World) (g : Nat) (p : Option Addr) (n c : Nat) (l : List UInt8) (s s1 : Option (List UInt8)) (least most v : Int) (h : Rs w g p n c l s) (hl : l.length ≤ 100000) (hr : C.rnum s least most = (v, s1)) :
    Calls Try.prog 39 #[.pointer (some ⟨g, 0, none⟩), .int .i64 least, .int .i64 most] w fun e w' => e = .returned (.int .i64 v) ∧ Rs w' g p n c l s1 ∧ w.grownBy w' (some g) := by
  have := refrnum_any w g p n c l s least most h hl
  rw [hr] at this
  exact this
set_option maxHeartbeats 4000000 in
theorem refend_any (w : World) (g : Nat) (p : Option Addr) (n c : Nat) (l : List UInt8) (s : Option (List UInt8)) (h : Rs w g p n c l s) (hl : l.length ≤ 100000) :
    Calls Try.prog 21 #[.pointer (some ⟨g, 0, none⟩)] w fun e w' => e = .returned (.bool (s == some [])) ∧ Below w.heap.size w w' := by
  obtain ⟨a, h, hs⟩ := h
  have h0 := h.c0
  have h1 := h.c1
  have hn := h.is.1
  have hal := h.al
  cases s with
  | none =>
    have h2 : w.cell? ⟨g, 2, none⟩ = some (.bool true) := h.c2
    clear h hs hn
    go_enter Try.func21, Try.ntmps21
    go_wp2_with fail
    go_quiet (fail)
    go_wp2
    go_ret
    exact ⟨rfl, drawn_below _ _⟩
  | some r =>
    have h2 : w.cell? ⟨g, 2, none⟩ = some (.bool false) := h.c2
    have HE : Hid ((((a : Nat) : Int) == (n : Int)) = (some r == some [])) := by
      show _ = _
      rw [hs r rfl]
      by_cases hh : a = n
      · have : l.drop a = [] := List.drop_of_length_le (by omega)
        rw [this, hh]; simp
      · have : ¬ l.drop a = [] := fun h' => by have := congrArg List.length h'; simp only [List.length_drop, List.length_nil] at this; omega
        rw [beq_eq_false_iff_ne.2 (show ¬ ((a : Int) = (n : Int)) by omega)]
        symm
        rw [beq_eq_false_iff_ne]
        intro h'
        exact this (Option.some.inj h')
    clear h hs hn
    go_enter Try.func21, Try.ntmps21
    go_wp2_with fail
    go_quiet (fail)
    go_wp2
    go_ret
    exact ⟨ret_bool HE.out, drawn_below _ _⟩
end Go.Proofs.Ytebfhomopdnkkaa
