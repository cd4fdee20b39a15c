/-
  Rows of rows of bytes: of the call's own; as they lie.
-/
import Derived.Test.YtjnlkgamnabhjaaDoorWGet
namespace Go.Proofs.YtjnlkgamnabhjaaDoor
open Go.RowKit Go.Lib
set_option linter.unusedVariables false

theorem info_bytes : (Tryd.prog.info? 23).map (fun i => (i.zero, i.size, i.bytes)) = some (some (.slice none 0 0), 1, 24) := by kernel_rfl
/-- A row of parts of the call's own. -/
def OwnP (w : World) (base : Nat) (v : Value) (ps : List Part) : Prop := w.ownsRow base 23 1 v ps.length (ps.map Part.v)
theorem OwnP.nil (w : World) (base : Nat) : OwnP w base (.slice none 0 0) [] := World.ownsRow_nil _ _ _ _
theorem OwnP.keep {w w' : World} {base : Nat} {v : Value} {ps : List Part} (h : OwnP w base v ps) (hk : ∀ k, k < w.heap.size → w'.heap[k]? = w.heap[k]?) : OwnP w' base v ps := by
  obtain ⟨h1, h2⟩ := h
  refine ⟨h1, ?_⟩
  rcases h2 with h2 | ⟨g, cap, cur, a, b, c, d⟩
  · exact Or.inl h2
  · exact Or.inr ⟨g, cap, cur, a, b, by rw [hk g (Array.getElem?_eq_some_iff.1 c).1]; exact c, d⟩
theorem OwnP.below {w w' : World} {base : Nat} {v : Value} {ps : List Part} (h : OwnP w base v ps) (hb : Below w.heap.size w w') : OwnP w' base v ps := OwnP.keep h hb.block
theorem OwnP.ge {w : World} {base : Nat} {v : Value} {ps : List Part} (h : OwnP w base v ps) : ∀ k, v.ownBlock = some k → base ≤ k := fun k hk => (World.ownsRow.lt h k hk).1
theorem OwnP.grown {w w' w0 : World} {base : Nat} {v : Value} {ps : List Part} (h : OwnP w base v ps) (hb : Below base w0 w) (hB : base ≤ w.heap.size) (hg : w.grownBy w' v.ownBlock) : Below base w0 w' := hb.grown hg hB (OwnP.ge h)
/-- Two rows of different element types lie apart. -/
theorem rows_apart {W : World} {base base' e e' size size' n n' : Nat} {v v' : Value} {xs xs' : List Value} (h : W.ownsRow base e size v n xs) (h' : W.ownsRow base' e' size' v' n' xs') (hne : e ≠ e') : v.ownBlock = none ∨ v.ownBlock ≠ v'.ownBlock := by
  rcases h.2 with ⟨rfl, _⟩ | ⟨g, cap, cur, rfl, _, hh, _⟩
  · exact Or.inl rfl
  · rcases h'.2 with ⟨rfl, _⟩ | ⟨g', cap', cur', rfl, _, hh', _⟩
    · exact Or.inr (by simp [Value.ownBlock])
    · refine Or.inr ?_
      intro e2
      have : g = g' := by simpa [Value.ownBlock] using e2
      subst this
      rw [hh] at hh'
      simp at hh'
      exact hne hh'.2
theorem Own.keptP {w w' : World} {base base' : Nat} {v x : Value} {ps : List Part} {l : List UInt8} (h : Own w base x l) (hp : OwnP w base' v ps) (hg : w.grownBy w' v.ownBlock) : Own w' base x l :=
  World.ownsRow.kept h hg (rows_apart h hp (by decide))
theorem wpList_append_one {w : World} {ops : Array Oper} {rest : List Oper} {o : Oper} {a : Act} {Q : Exit → Act → World → Prop} (hgd : o.guard = none) (s x : Operand)
    (ho : o.op = .call { callee := .builtin .append, args := #[s, x], argTypes := #[29, 29] })
    (base : Nat) (v : Value) (ps : List Part) (hs : a.eval s = v) (hown : OwnP w base v ps) (y : Part) (B : Nat) (hx : a.eval x = .slice (some ⟨B, 0, none⟩) 1 1) (hy : w.cell? ⟨B, 0, none⟩ = some y.v) (hn : ps.length ≤ 100000) (hB : base ≤ w.heap.size)
    (h : ∀ v' w', OwnP w' base v' (ps ++ [y]) → w.grownBy w' v.ownBlock → wpList Tryd.prog ops Q rest (a.put o.dst v') w') : wpList Tryd.prog ops Q (o :: rest) a w := by
  obtain ⟨i, hi, hz, hsz, hb⟩ := info_parts info_bytes
  refine wpList_append_own _ hgd s x 29 ho base 23 i (.slice none 0 0) 1 24 Tryd.underlying29 hi hz hsz hb rfl (by decide) v ps.length (ps.map Part.v) hs hown ⟨B, 0, none⟩ 1 1 [y.v] hx rfl ?_ ?_ (by unfold maxLen; omega) (by omega) hB ?_
  · intro j u hj
    match j, hj with
    | 0, hj => simp at hj; subst hj; exact hy
  · intro u hu
    simp at hu; subst hu; rfl
  · intro v' w' h1 h2 _
    refine h v' w' ?_ h2
    unfold OwnP
    rw [List.length_append, List.map_append]
    exact h1
/-- A row of rows of bytes, as it lies. -/
def Rows (w : World) (v : Value) (L : List (List UInt8)) : Prop := ∃ p ps cap, v = .slice p ps.length cap ∧ PAt w p ps ∧ (∀ x ∈ ps, x.ok w) ∧ ps.map Part.l = L ∧ ps.length ≤ cap ∧ cap ≤ maxLen
theorem PAt.below {w w' : World} {p : Option Addr} {ps : List Part} (h : PAt w p ps) (hb : Below w.heap.size w w') : PAt w' p ps := fun hl => by
  obtain ⟨b, o, hp, hc⟩ := h hl
  refine ⟨b, o, hp, fun i x hi => ?_⟩
  have hc' := hc i x hi
  have hlt := World.block_lt_of_cell? _ _ hc'
  rw [hb.cell (p := ⟨b, o + i, none⟩) hlt]; exact hc'
theorem Rows.below {w w' : World} {v : Value} {L : List (List UInt8)} (h : Rows w v L) (hb : Below w.heap.size w w') : Rows w' v L := by
  obtain ⟨p, ps, cap, h1, h2, h3, h4⟩ := h
  exact ⟨p, ps, cap, h1, h2.below hb, fun x hx => (h3 x hx).below hb, h4⟩
theorem OwnP.rows {w : World} {base : Nat} {v : Value} {ps : List Part} (h : OwnP w base v ps) (ho : ∀ x ∈ ps, x.ok w) : Rows w v (ps.map Part.l) := by
  obtain ⟨h1, h2⟩ := h
  rcases h2 with ⟨rfl, h0⟩ | ⟨g, cap, cur, rfl, hb, hg, hn, hm, hs, ht⟩
  · have : ps = [] := List.eq_nil_of_length_eq_zero h0
    subst this
    exact ⟨none, [], 0, rfl, fun h => absurd h (Nat.lt_irrefl 0), ho, rfl, Nat.le_refl _, Nat.zero_le _⟩
  · refine ⟨some ⟨g, 0, none⟩, ps, cap, rfl, fun hl => ⟨g, 0, rfl, fun i x hi => ?_⟩, ho, rfl, hn, hm⟩
    rw [cell_of_row w g (0 + i) cur 23 (0, 0) hg]
    have hil : i < ps.length := (List.getElem?_eq_some_iff.1 hi).1
    have hh := congrArg (fun q => q[i]?) ht
    simp only [List.getElem?_take, Nat.mul_one, Nat.zero_add] at hh ⊢
    rw [if_pos hil] at hh
    rw [← Array.getElem?_toList, hh]
    simp [hi]
end Go.Proofs.YtjnlkgamnabhjaaDoor
