/-
  orset: acts in whatever order.
-/
import Derived.Test.YtoglhhoniojbaaaOAct
namespace Go.Proofs.Ytoglhhoniojbaaa
open Go.RowKit Go.Lib
set_option linter.unusedVariables false

namespace C
/-- Among the acts M, dot d is added for x; a remove of x had seen d. -/
def addsM (M : ActO → Prop) (d : Dt) (x : Tx) : Prop := ∃ a, M a ∧ a.op = 0 ∧ a.d = d ∧ a.x = x ∧ may d = true ∧ tooLong x = false
def remsM (M : ActO → Prop) (x : Tx) (d : Dt) : Prop := ∃ a, M a ∧ a.op ≠ 0 ∧ a.x = x ∧ tooLong x = false ∧ good a.v = true ∧ hasd a.v d = true
structure InvO (S : Os) (M : ActO → Prop) : Prop where
  ok : S.Ok
  ad : ∀ d x, S.ad d = some x ↔ addsM M d x
  go : ∀ x d, hasd (S.go x) d = true ↔ remsM M x d
def ConsO (M : ActO → Prop) : Prop := ∀ a b, M a → M b → a.op = 0 → b.op = 0 → a.d = b.d → a.x = b.x
theorem hasd_none (d : Dt) : hasd z7 d = false := by
  cases h : hasd z7 d with
  | false => rfl
  | true =>
    have h1 := (hasd_iff z7 d).1 h
    have h2 : at7 z7 d.1.toNat ≤ 0 := by
      unfold at7 z7
      split <;> simp
    omega
theorem InvO.zero {M : ActO → Prop} (h : ∀ a, ¬ M a) : InvO Os.zero M := ⟨zero_okO, fun d x => ⟨fun e => (by cases e), fun ⟨a, ha, _⟩ => absurd ha (h a)⟩, fun x d => ⟨fun e => (by rw [show Os.zero.go x = z7 from rfl, hasd_none] at e; cases e), fun ⟨a, ha, _⟩ => absurd ha (h a)⟩⟩
theorem InvO.congr {S : Os} {M M' : ActO → Prop} (h : InvO S M) (hM : ∀ z, M' z ↔ M z) : InvO S M' := by
  have : M' = M := funext fun z => propext (hM z)
  rw [this]; exact h
theorem addO_go (S : Os) (d : Dt) (x y : Tx) : (addO S d x).go y = S.go y := by
  unfold addO
  split
  · split <;> rfl
  · rfl
theorem addO_ad (S : Os) (d : Dt) (x : Tx) (e : Dt) : (addO S d x).ad e = if (may d = true ∧ tooLong x = false ∧ S.ad d = none) ∧ e = d then some x else S.ad e := by
  unfold addO
  by_cases hc : may d = true ∧ tooLong x = false ∧ S.ad d = none
  · rw [if_pos hc]
    have e1 : (if has (S.go x) d.1 d.2 = true then S.addA d x else (S.addA d x).addT x (insL d (S.th x))).ad e = if e = d then some x else S.ad e := by split <;> rfl
    rw [e1]
    by_cases hed : e = d
    · rw [if_pos hed, if_pos ⟨hc, hed⟩]
    · rw [if_neg hed, if_neg fun k => hed k.2]
  · rw [if_neg hc, if_neg fun k => hc k.1]
theorem remO_ad (S : Os) (x : Tx) (c : V7) (e : Dt) : (remO S x c).ad e = S.ad e := by
  unfold remO
  split <;> rfl
theorem remO_go (S : Os) (x : Tx) (c : V7) (y : Tx) : (remO S x c).go y = if (tooLong x = false ∧ good c = true) ∧ y = x then mrg (S.go x) c else S.go y := by
  unfold remO
  by_cases hc : tooLong x = false ∧ good c = true
  · rw [if_pos hc]
    have e1 : ((S.addG x (mrg (S.go x) c)).addT x (unseen c (S.th x))).go y = if y = x then mrg (S.go x) c else S.go y := rfl
    rw [e1]
    by_cases hyx : y = x
    · rw [if_pos hyx, if_pos ⟨hc, hyx⟩]
    · rw [if_neg hyx, if_neg fun k => hyx k.2]
  · rw [if_neg hc, if_neg fun k => hc k.1]
theorem InvO.step {S : Os} {M M' : ActO → Prop} {a : ActO} (h : InvO S M) (hM : ∀ z, M' z ↔ M z ∨ z = a) (hc : ConsO M') : InvO (stepO S a) M' := by
  refine ⟨stepO_ok h.ok a, fun d x => ?_, fun x d => ?_⟩
  · have hin : ∀ z, M z → M' z := fun z hz => (hM z).2 (Or.inl hz)
    have ha : M' a := (hM a).2 (Or.inr rfl)
    have hsp : addsM M' d x ↔ addsM M d x ∨ (a.op = 0 ∧ a.d = d ∧ a.x = x ∧ may d = true ∧ tooLong x = false) := by
      constructor
      · rintro ⟨z, hz, hr⟩
        rcases (hM z).1 hz with hz | rfl
        · exact Or.inl ⟨z, hz, hr⟩
        · exact Or.inr hr
      · rintro (⟨z, hz, hr⟩ | hr)
        · exact ⟨z, hin z hz, hr⟩
        · exact ⟨a, ha, hr⟩
    rw [hsp, ← h.ad]
    unfold stepO
    by_cases hop : a.op = 0
    · rw [if_pos hop, addO_ad]
      by_cases hcc : (may a.d = true ∧ tooLong a.x = false ∧ S.ad a.d = none) ∧ d = a.d
      · rw [if_pos hcc]
        obtain ⟨⟨h1, h2, h3⟩, rfl⟩ := hcc
        rw [h3]
        constructor
        · intro e
          cases e
          exact Or.inr ⟨hop, rfl, rfl, h1, h2⟩
        · rintro (e | ⟨_, _, e, _⟩)
          · cases e
          · rw [e]
      · rw [if_neg hcc]
        constructor
        · exact Or.inl
        · rintro (e | ⟨_, rfl, rfl, h1, h2⟩)
          · exact e
          · cases hq : S.ad a.d with
            | none => exact absurd ⟨⟨h1, h2, hq⟩, rfl⟩ hcc
            | some y =>
              obtain ⟨z, hz, hz1, hz2, hz3, _⟩ := (h.ad a.d y).1 hq
              have := hc a z ha (hin z hz) hop hz1 hz2.symm
              rw [this, hz3]
    · rw [if_neg hop, remO_ad]
      constructor
      · exact Or.inl
      · rintro (e | ⟨e, _⟩)
        · exact e
        · exact absurd e hop
  · have hsp : remsM M' x d ↔ remsM M x d ∨ (a.op ≠ 0 ∧ a.x = x ∧ tooLong x = false ∧ good a.v = true ∧ hasd a.v d = true) := by
      constructor
      · rintro ⟨z, hz, hr⟩
        rcases (hM z).1 hz with hz | rfl
        · exact Or.inl ⟨z, hz, hr⟩
        · exact Or.inr hr
      · rintro (⟨z, hz, hr⟩ | hr)
        · exact ⟨z, (hM z).2 (Or.inl hz), hr⟩
        · exact ⟨a, (hM a).2 (Or.inr rfl), hr⟩
    rw [hsp, ← h.go]
    unfold stepO
    by_cases hop : a.op = 0
    · rw [if_pos hop, addO_go]
      constructor
      · exact Or.inl
      · rintro (e | ⟨e, _⟩)
        · exact e
        · exact absurd hop e
    · rw [if_neg hop, remO_go]
      by_cases hcc : (tooLong a.x = false ∧ good a.v = true) ∧ x = a.x
      · rw [if_pos hcc]
        obtain ⟨⟨h1, h2⟩, rfl⟩ := hcc
        rw [hasd_mrg]
        constructor
        · rintro (e | e)
          · exact Or.inl e
          · exact Or.inr ⟨hop, rfl, h1, h2, e⟩
        · rintro (e | ⟨_, _, _, _, e⟩)
          · exact Or.inl e
          · exact Or.inr e
      · rw [if_neg hcc]
        constructor
        · exact Or.inl
        · rintro (e | ⟨_, rfl, h1, h2, _⟩)
          · exact e
          · exact absurd ⟨⟨h1, h2⟩, rfl⟩ hcc
theorem InvO.th {S1 S2 : Os} {M1 M2 : ActO → Prop} (h1 : InvO S1 M1) (h2 : InvO S2 M2) (hM : ∀ z, M1 z ↔ M2 z) : S1.th = S2.th := by
  have h2' := h2.congr hM
  funext x
  refine up_eq (h1.ok.up x) (h2.ok.up x) fun d => ?_
  have e : hasd (S1.go x) d = hasd (S2.go x) d := by
    rw [Bool.eq_iff_iff, h1.go x d, h2'.go x d]
  rw [h1.ok.mem, h2.ok.mem, h1.ad, h2'.ad, e]
theorem all_th {S1 S2 : Os} (h : S1.th = S2.th) {ks : List (List UInt8)} (hk : IsAll S1 ks) : IsAll S2 ks := ⟨hk.up, hk.once, fun b => by rw [← h]; exact hk.mem b⟩
theorem put_th {S1 S2 : Os} (h : S1.th = S2.th) (ks : List (List UInt8)) : putB S1 ks = putB S2 ks := by
  unfold putB rowsB
  rw [h]
end C
end Go.Proofs.Ytoglhhoniojbaaa
