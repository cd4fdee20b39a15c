/-
  disk.Disk: Append, where it is taken.
-/
import Derived.Test.YtlfcpgncgldieaaWAppend
namespace Go.Proofs.Ytlfcpgncgldieaa
open Go.RowKit Go.Lib Go.Maps
open C (upd upd_same upd_other)
set_option linter.unusedVariables false

/-- Behind f.data = append(f.data, b...). -/
theorem mid_data {w wc wa : World} {g cb : Nat} {S : Nat → Prop} {s : C.St} {f : Nat} {da : Nat → List UInt8} {pn : Nat → List C.Wr} {L : Lay} (hg : L.g = g) (his : L.is = (fun k => s.is k || k == f)) (hc : L.c f = cb) (M : DMem wc L (s.made + 1) (headOf s) (C.saf s.ws) da pn) (hF : ∀ b, L.foot b → S b ∨ w.heap.size ≤ b) (ht : Turn w wc S)
    {v : Value} {l : List UInt8} (ho : Own wa 0 v l) (hgr : wc.grownBy wa (L.d f).ownBlock) (hl : v.ownBlock = (L.d f).ownBlock ∨ v.ownBlock = some wc.heap.size) :
    Mid w g S s f cb (upd da f l) pn (wa.setCell ⟨cb, 0, none⟩ v) := by
  subst hc hg
  have hk : L.is f = true := by rw [his]; simp
  have hcb := M.cont f hk
  have hcl : L.c f < wc.heap.size := (Array.getElem?_eq_some_iff.1 hcb).1
  have hca : wa.heap[L.c f]? = wc.heap[L.c f]? := hgr.block _ hcl (fun e => M.d_c hk hk e.symm rfl)
  have l1 : v.ownBlock = (L.d f).ownBlock ∨ ∀ b, v.ownBlock = some b → wc.heap.size ≤ b := hl.imp id (fun e b hb => by rw [e] at hb; cases hb; exact Nat.le_refl _)
  have hne : ∀ b, v.ownBlock = some b → b ≠ L.c f := fun b hb e => by
    rcases l1 with h | h
    · exact M.d_c hk hk (h ▸ hb) e
    · have := h b hb; omega
  refine ⟨L.file f v (L.w f), rfl, his, rfl, ?_, ?_, ?_⟩
  · have := M.file hk v (L.w f) (C.saf s.ws f) l (pn f) (w' := wa.setCell ⟨L.c f, 0, none⟩ v) (fun b hb h1 h2 h3 => by
      rw [set_other h1]; exact hgr.block b (M.foot_lt hb) (fun e => h2 e.symm))
      (by rw [set_block (hca.trans hcb)]; simp) (ho.same fun b hb => set_other (hne b hb))
      (row_same (M.wr f hk) fun b hb => by
        rw [set_other (M.w_c hk hk hb)]; exact hgr.block b (row_lt (M.wr f hk) hb) (fun e => M.w_d hk hk hb e.symm rfl)) l1 (Or.inl rfl)
    refine this.congr (fun k _ => ?_) (fun k _ => rfl) (fun k _ => ?_)
    all_goals
      by_cases e : k = f
      · subst e; rw [upd_same]
      · rw [upd_other _ _ e]
  · intro b hb
    rcases Lay.file_foot hk l1 (Or.inl rfl) b hb with h | h
    · exact hF b h
    · exact Or.inr (Nat.le_trans ht.size h)
  · have t1 : Turn wc (wa.setCell ⟨L.c f, 0, none⟩ v) (fun b => L.foot b) :=
      (Turn.of_grown hgr (fun b e => Or.inr (Or.inr ⟨f, hk, Or.inr (Or.inl e)⟩))).setCell (Or.inr (Or.inr ⟨f, hk, Or.inl rfl⟩)) _
    exact ht.trans t1 hF
/-- Behind f.writes = append(f.writes, write{..}). -/
theorem mid_wr {w wc wa : World} {g cb : Nat} {S : Nat → Prop} {s : C.St} {f : Nat} {da : Nat → List UInt8} {pn : Nat → List C.Wr} {L : Lay} (hg : L.g = g) (his : L.is = (fun k => s.is k || k == f)) (hc : L.c f = cb) (M : DMem wc L (s.made + 1) (headOf s) (C.saf s.ws) da pn) (hF : ∀ b, L.foot b → S b ∨ w.heap.size ≤ b) (ht : Turn w wc S)
    {w1 : World} (hb1 : Below wc.heap.size wc w1) {v : Value} {l : List C.Wr} (ho : OwnW wa v l) (hgr : w1.grownBy wa (L.w f).ownBlock) (hl : v.ownBlock = (L.w f).ownBlock ∨ v.ownBlock = some w1.heap.size) :
    Mid w g S s f cb da (upd pn f l) (wa.setCell ⟨cb, 2, none⟩ v) := by
  subst hc hg
  have hk : L.is f = true := by rw [his]; simp
  have hcb := M.cont f hk
  have hcl : L.c f < wc.heap.size := (Array.getElem?_eq_some_iff.1 hcb).1
  have hold : ∀ b, b < wc.heap.size → (L.w f).ownBlock ≠ some b → wa.heap[b]? = wc.heap[b]? := fun b hb hn => (hgr.block b (Nat.lt_of_lt_of_le hb hb1.size) (fun e => hn e.symm)).trans (hb1.block b hb)
  have hca : wa.heap[L.c f]? = wc.heap[L.c f]? := hold _ hcl (fun e => M.w_c hk hk e rfl)
  have l1 : v.ownBlock = (L.w f).ownBlock ∨ ∀ b, v.ownBlock = some b → wc.heap.size ≤ b := hl.imp id (fun e b hb => by rw [e] at hb; cases hb; exact hb1.size)
  have hne : ∀ b, v.ownBlock = some b → b ≠ L.c f := fun b hb e => by
    rcases l1 with h | h
    · exact M.w_c hk hk (h ▸ hb) e
    · have := h b hb; omega
  refine ⟨L.file f (L.d f) v, rfl, his, rfl, ?_, ?_, ?_⟩
  · have := M.file hk (L.d f) v (C.saf s.ws f) (da f) l (w' := wa.setCell ⟨L.c f, 2, none⟩ v) (fun b hb h1 h2 h3 => by
      rw [set_other h1]; exact hold b (M.foot_lt hb) h3)
      (by rw [set_block (hca.trans hcb)]; simp)
      (row_same (M.dat f hk) fun b hb => by
        rw [set_other (M.d_c hk hk hb)]; exact hold b (row_lt (M.dat f hk) hb) (fun e => M.w_d hk hk e hb rfl))
      (row_same ho fun b hb => set_other (hne b hb)) (Or.inl rfl) l1
    refine this.congr (fun k _ => ?_) (fun k _ => ?_) (fun k _ => rfl)
    all_goals
      by_cases e : k = f
      · subst e; rw [upd_same]
      · rw [upd_other _ _ e]
  · intro b hb
    rcases Lay.file_foot hk (Or.inl rfl) l1 b hb with h | h
    · exact hF b h
    · exact Or.inr (Nat.le_trans ht.size h)
  · have t1 : Turn wc (wa.setCell ⟨L.c f, 2, none⟩ v) (fun b => L.foot b) := by
      refine Turn.setCell ?_ (Or.inr (Or.inr ⟨f, hk, Or.inl rfl⟩)) _
      refine Turn.trans (Turn.of_below hb1) (Turn.of_grown (S := fun b => (L.w f).ownBlock = some b) hgr (fun b e => e)) (fun x hx => Or.inl (Or.inr (Or.inr ⟨f, hk, Or.inr (Or.inr hx)⟩)))
    exact ht.trans t1 hF
/-- Behind made and used. -/
theorem mid_end {w wc : World} {g cb : Nat} {S : Nat → Prop} {s : C.St} {f : Nat} {l : List UInt8} (h : Mid w g S s f cb (upd (C.dat s.ws) f (C.dat s.ws f ++ l)) (upd (C.pof s.ws) f (C.pof s.ws f ++ [⟨s.made, f, l, false⟩])) wc) (hS : ∀ b, S b → b < w.heap.size) (hok : (C.appS s f l).Ok) :
    Disk ((wc.setCell ⟨g, 3, none⟩ (.int .i64 ((s.made : Nat) + 1))).setCell ⟨g, 1, none⟩ (.int .i64 ((C.used s.ws : Nat) + (l.length : Nat)))) g (Ext w ((wc.setCell ⟨g, 3, none⟩ (.int .i64 ((s.made : Nat) + 1))).setCell ⟨g, 1, none⟩ (.int .i64 ((C.used s.ws : Nat) + (l.length : Nat)))) S) (C.appS s f l) ∧
      Turn w ((wc.setCell ⟨g, 3, none⟩ (.int .i64 ((s.made : Nat) + 1))).setCell ⟨g, 1, none⟩ (.int .i64 ((C.used s.ws : Nat) + (l.length : Nat)))) S := by
  obtain ⟨L, rfl, his, hc, M, hF, ht⟩ := h
  have ht2 : Turn w ((wc.setCell ⟨L.g, 3, none⟩ (.int .i64 ((s.made : Nat) + 1))).setCell ⟨L.g, 1, none⟩ (.int .i64 ((C.used s.ws : Nat) + (l.length : Nat)))) S :=
    ht.trans (((Turn.refl wc (fun b => L.foot b)).setCell (Or.inl rfl) _).setCell (Or.inl rfl) _) hF
  refine ⟨⟨L, rfl, his, ?_, ?_, ?_, hok⟩, ht2⟩
  · have M' := M.head (headOf (C.appS s f l)) (w' := (wc.setCell ⟨L.g, 3, none⟩ (.int .i64 ((s.made : Nat) + 1))).setCell ⟨L.g, 1, none⟩ (.int .i64 ((C.used s.ws : Nat) + (l.length : Nat)))) (by
      rw [set_block (set_block M.blk)]
      simp [Head.cells, headOf, C.appS, C.used_append, C.used]) (fun b _ hne => by rw [set_other hne, set_other hne])
    refine M'.congr (fun k _ => ?_) (fun k _ => ?_) (fun k _ => ?_)
    · simp [C.appS, C.saf_append, C.saf]
    · by_cases e : k = f
      · subst e; rw [upd_same]; simp [C.appS, C.dat_append, C.dat]
      · rw [upd_other _ _ e]; simp [C.appS, C.dat_append, C.dat, Ne.symm e]
    · by_cases e : k = f
      · subst e; rw [upd_same]; simp [C.appS, C.pof]
      · rw [upd_other _ _ e]
        have : (f == k) = false := by simpa using Ne.symm e
        simp [C.appS, C.pof, this]
  · intro b hb
    rcases hF b hb with h | h
    · exact Or.inl h
    · refine Or.inr ⟨h, ?_⟩
      have := M.foot_lt hb
      simpa [World.setCell] using this
  · intro b hb
    rcases hb with h | h
    · exact Nat.lt_of_lt_of_le (hS b h) ht2.size
    · exact h.2
end Go.Proofs.Ytlfcpgncgldieaa
