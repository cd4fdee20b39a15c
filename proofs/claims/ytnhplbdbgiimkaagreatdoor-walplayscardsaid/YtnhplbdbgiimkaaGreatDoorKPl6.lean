/-
  WalPlays: what stands behind so many acts.
-/
import Derived.Test.YtnhplbdbgiimkaaGreatDoorWActs6
namespace Go.Proofs.YtnhplbdbgiimkaaGreatDoor
open Go.RowKit Go.Lib
set_option linter.unusedVariables false

structure PlI (w wr : World) (d pn gl : Nat) (S : Nat → Prop) (a : Nat) (base : List UInt8) (recs : List (List UInt8)) (n M k lv i : Nat) (ap : Option Addr) (aps : List Part) (ac q : Nat) : Prop where
  lx : LX w wr d gl pn S a base recs n M k lv 262144 False
  row : ∀ W, Turn wr W S → PAt W ap aps
  oks : ∀ x ∈ aps, x.ok w
  is : aps.map Part.l = recs
  q_ : q = aps.length
  cap : q ≤ ac
  capm : ac ≤ maxLen
  safe : k ≤ q
  sn : n ≤ 6 * i
  sM : M ≤ 7 * i
  sa : a ≤ i
  sl : lv ≤ i + 1
  sq : q ≤ 6 * i
theorem LX.weak {w0 w : World} {d gl part : Nat} {S : Nat → Prop} {a : Nat} {base : List UInt8} {recs : List (List UInt8)} {n M k lv room : Nat} {cl : Prop} (h : LX w0 w d gl part S a base recs n M k lv room cl) : LX w0 w d gl part S a base recs n M k lv room False := by
  obtain ⟨c, s, G, h1, h2, h3, h4, h5, h6, hcl, h7, h8⟩ := h
  exact ⟨c, s, G, h1, h2, h3, h4, h5, h6, (fun x => x.elim), h7, h8⟩
theorem PlI.below {w wr w1 : World} {d pn gl : Nat} {S : Nat → Prop} {a : Nat} {base : List UInt8} {recs : List (List UInt8)} {n M k lv i : Nat} {ap : Option Addr} {aps : List Part} {ac q : Nat} (h : PlI w wr d pn gl S a base recs n M k lv i ap aps ac q) (hb : Below wr.heap.size wr w1) : PlI w w1 d pn gl S a base recs n M k lv i ap aps ac q :=
  { h with lx := h.lx.below hb, row := fun W hW => h.row W ((Turn.of_below hb).trans hW fun x hx => Or.inl hx) }
theorem PlI.len {w wr : World} {d pn gl : Nat} {S : Nat → Prop} {a : Nat} {base : List UInt8} {recs : List (List UInt8)} {n M k lv i : Nat} {ap : Option Addr} {aps : List Part} {ac q : Nat} (h : PlI w wr d pn gl S a base recs n M k lv i ap aps ac q) : recs.length = q := by rw [h.q_, ← h.is, List.length_map]
theorem PlI.rows {w wr : World} {d pn gl : Nat} {S : Nat → Prop} {a : Nat} {base : List UInt8} {recs : List (List UInt8)} {n M k lv i : Nat} {ap : Option Addr} {aps : List Part} {ac q : Nat} (h : PlI w wr d pn gl S a base recs n M k lv i ap aps ac q) : Rows wr (.slice ap q ac) recs :=
  ⟨ap, aps, ac, by rw [h.q_], h.row wr (Turn.refl _ _), fun x hx => (h.oks x hx).below h.lx.bel, h.is, by rw [← h.q_]; exact h.cap, h.capm⟩
theorem OwnP.pat {w : World} {base : Nat} {v : Value} {ps : List Part} (h : OwnP w base v ps) : ∃ p cap, v = .slice p ps.length cap ∧ PAt w p ps ∧ ps.length ≤ cap ∧ cap ≤ maxLen ∧ ∀ a, p = some a → v.ownBlock = some a.block := by
  obtain ⟨h1, h2⟩ := h
  rcases h2 with ⟨rfl, h0⟩ | ⟨g, cap, cur, rfl, hb, hg, hn, hm, hs, ht⟩
  · have : ps = [] := List.eq_nil_of_length_eq_zero h0
    subst this
    exact ⟨none, 0, rfl, fun h => absurd h (Nat.lt_irrefl 0), Nat.le_refl _, Nat.zero_le _, fun a ha => by cases ha⟩
  · refine ⟨some ⟨g, 0, none⟩, cap, rfl, fun hl => ⟨g, 0, rfl, fun i x hi => ?_⟩, hn, hm, fun a ha => by cases ha; rfl⟩
    rw [cell_of_row w g (0 + i) cur 31 (0, 0) hg]
    have hil : i < ps.length := (List.getElem?_eq_some_iff.1 hi).1
    have hh := congrArg (fun q => q[i]?) ht
    simp only [List.getElem?_take, Nat.mul_one, Nat.zero_add] at hh ⊢
    rw [if_pos hil] at hh
    rw [← Array.getElem?_toList, hh]
    simp [hi]
/-- Two rows behind each other, in new memory. -/
theorem app_two {W0 W2 W6 : World} {S : Nat → Prop} {aps ls : List Part} {va vb : Value} {qa lq : Nat} (hS : ∀ b, S b → b < W0.heap.size) (hqa : qa = aps.length) (hlq : lq = ls.length)
    (hra : W2.ownsRow 0 31 1 va (0 + qa) ([] ++ aps.map Part.v)) (hga : (W0.alloc (.cells #[] 31)).grownBy W2 (some W0.heap.size)) (hla : va.ownBlock = some W0.heap.size ∨ va.ownBlock = some (W0.alloc (.cells #[] 31)).heap.size)
    (hrb : W6.ownsRow 0 31 1 vb (0 + qa + lq) ([] ++ aps.map Part.v ++ ls.map Part.v)) (hgb : W2.grownBy W6 va.ownBlock) (hlb : vb.ownBlock = va.ownBlock ∨ vb.ownBlock = some W2.heap.size) :
    Below W0.heap.size W0 W6 ∧ ∃ pv cv, vb = .slice pv (qa + lq) cv ∧ (∀ W, Turn W6 W S → PAt W pv (aps ++ ls)) ∧ qa + lq ≤ cv ∧ cv ≤ maxLen := by
  obtain ⟨h1, h2⟩ := app_first hga hla
  have hb6 : Below W0.heap.size W0 W6 := h1.grown hgb h1.size fun k hk => h2 k hk
  have hw : OwnP W6 0 vb (aps ++ ls) := by
    unfold OwnP
    rw [List.length_append, List.map_append, ← hqa, ← hlq]
    rw [Nat.zero_add] at hrb
    exact hrb
  obtain ⟨p, c, e, h3, h4, h5, h6⟩ := hw.pat
  refine ⟨hb6, p, c, by rw [e, List.length_append, ← hqa, ← hlq], fun W hW => h3.turn hW fun a ha _ hs => ?_, by rw [List.length_append, ← hqa, ← hlq] at h4; exact h4, h5⟩
  have h7 := h6 a ha
  have h8 := hS _ hs
  rcases hlb with h9 | h9
  · have := h2 _ (h9.symm.trans h7)
    omega
  · have h10 := Option.some.inj (h9.symm.trans h7)
    have := h1.size
    omega
end Go.Proofs.YtnhplbdbgiimkaaGreatDoor
