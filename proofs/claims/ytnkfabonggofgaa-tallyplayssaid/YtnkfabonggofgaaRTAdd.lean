/-
  The document's own tally (rostrumref7): Add.
-/
import Derived.Test.YtnkfabonggofgaaZ3
import Derived.BigRegion
namespace Go.Proofs.Ytnkfabonggofgaa
open Go.RowKit Go.Lib
set_option linter.unusedVariables false

set_option maxHeartbeats 2000000 in
theorem radd_bad (w : World) (g : Nat) (r b : Int) (h : C.argBad r b = true) :
    Calls Try.prog 13 #[.pointer (some ⟨g, 0, none⟩), .int .i64 r, .int .i64 b] w fun e w' => e = .returned (.int .i64 1) ∧ w' = w := by
  rcases bad_cases h with h1 | ⟨h0, h1⟩ | ⟨h0, h2, h1⟩ | ⟨h0, h2, h3, h1⟩
  all_goals
    clear h
    go_enter Try.func13, Try.ntmps13
    go_wp2
    go_ret
    exact ⟨rfl, rfl⟩
set_option maxHeartbeats 4000000 in
theorem radd_any (w : World) (g : Nat) (T : C.Ta) (r b : Int) (h : TaAt w g 37 T) (hT : T.Ok) :
    Calls Try.prog 13 #[.pointer (some ⟨g, 0, none⟩), .int .i64 r, .int .i64 b] w fun e w' => e = .returned (.int .i64 (C.errT T r b)) ∧ TaAt w' g 37 (C.addT T r b) ∧ Turn w w' (fun x => x = g) := by
  have H : Hid (TaAt w g 37 T) := h
  cases hbad : C.argBad r b with
  | true =>
    refine (radd_bad w g r b hbad).mono ?_
    rintro e w' ⟨rfl, rfl⟩
    unfold C.errT C.addT
    rw [if_pos hbad, if_pos hbad]
    exact ⟨rfl, H.out, Turn.refl _ _⟩
  | false =>
    obtain ⟨h0, h6, hb1, hb2⟩ := bad_not hbad
    obtain ⟨k, rfl⟩ := Int.eq_ofNat_of_zero_le h0
    have hk : k < 7 := by omega
    have HBAD : Hid (C.argBad (k : Int) b = false) := hbad
    clear hbad h0 h6
    by_cases hneg : b < 0
    · have hx := C.ok50_at hT.d k
      have hc := h.dn hk
      have hf := h.fz (7 + k)
      have HE : Hid (∀ x, C.at7 T.d k = x → C.errT T k b = (if 1125899906842624 < x - b then 2 else 0) ∧ C.addT T k b = (if 1125899906842624 < x - b then T else ⟨T.u, C.set7 T.d k (x - b)⟩)) := by
        intro x hx
        refine ⟨?_, ?_⟩ <;> simp only [C.errT, C.addT, HBAD.out, Bool.false_eq_true, if_false, hneg, if_true, Int.toNat_natCast, hx]
      generalize hxx : C.at7 T.d k = x at hx hc
      obtain ⟨E1, E2⟩ := HE.out x hxx
      rw [E1, E2]
      clear E1 E2 hxx h
      by_cases hl : 1125899906842624 < x - b
      · rw [if_pos hl, if_pos hl]
        go_enter Try.func13, Try.ntmps13
        go_wp2
        go_ret
        exact ⟨rfl, H.out, Turn.refl _ _⟩
      · rw [if_neg hl, if_neg hl]
        have hcd : w.drew.cell? ⟨g, 7 + k, none⟩ = some (.int .i64 x) := hc
        have hfd : w.drew.frozen? ⟨g, 7 + k, none⟩ = false := hf
        go_enter Try.func13, Try.ntmps13
        go_wp2_with fail
        go_region
        all_goals
          go_wp2
          go_ret
          refine ⟨rfl, ?_, Turn.setCell (S := fun x => x = g) ((Turn.refl w _).drew) rfl _⟩
          have := set_block (w := w.drew) (o := 7 + k) (v := .int .i64 (x - b)) H.out
          rw [set_d14 _ _ hk] at this
          exact this
    · have hx := C.ok50_at hT.u k
      have hc := h.up hk
      have hf := h.fz k
      have HE : Hid (∀ x, C.at7 T.u k = x → C.errT T k b = (if 1125899906842624 < x + b then 2 else 0) ∧ C.addT T k b = (if 1125899906842624 < x + b then T else ⟨C.set7 T.u k (x + b), T.d⟩)) := by
        intro x hx
        refine ⟨?_, ?_⟩ <;> simp only [C.errT, C.addT, HBAD.out, Bool.false_eq_true, if_false, hneg, Int.toNat_natCast, hx]
      generalize hxx : C.at7 T.u k = x at hx hc
      obtain ⟨E1, E2⟩ := HE.out x hxx
      rw [E1, E2]
      clear E1 E2 hxx h
      by_cases hl : 1125899906842624 < x + b
      · rw [if_pos hl, if_pos hl]
        go_enter Try.func13, Try.ntmps13
        go_wp2
        go_ret
        exact ⟨rfl, H.out, Turn.refl _ _⟩
      · rw [if_neg hl, if_neg hl]
        have hcd : w.drew.cell? ⟨g, k, none⟩ = some (.int .i64 x) := hc
        have hfd : w.drew.frozen? ⟨g, k, none⟩ = false := hf
        go_enter Try.func13, Try.ntmps13
        go_wp2_with fail
        go_region
        all_goals
          go_wp2
          go_ret
          refine ⟨rfl, ?_, Turn.setCell (S := fun x => x = g) ((Turn.refl w _).drew) rfl _⟩
          have := set_block (w := w.drew) (o := k) (v := .int .i64 (x + b)) H.out
          rw [set_u14 _ _ hk] at this
          exact this
end Go.Proofs.Ytnkfabonggofgaa
