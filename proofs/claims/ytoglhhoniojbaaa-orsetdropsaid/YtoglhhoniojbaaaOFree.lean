/-
  orset: blocks that no set holds stay as they are.
-/
import Derived.Test.YtoglhhoniojbaaaOOrd
namespace Go.Proofs.Ytoglhhoniojbaaa
open Go.RowKit Go.Lib
set_option linter.unusedVariables false

theorem OObjs.stepK {w0 w w' : World} {Q1 Q2 : List OObj} {g n n' : Nat} {L : OLay} {S S' : C.Os} (h : OObjs w0 w (Q1 ++ ⟨g, n, L, S⟩ :: Q2)) (hs : S'.Ok) (hr : SetRet w g L S n' S' w') : ∃ L', OObjs w0 w' (Q1 ++ ⟨g, n', L', S'⟩ :: Q2) ∧ ∀ b, L'.foot g S' b → L.foot g S b ∨ w.heap.size ≤ b := by
  obtain ⟨⟨L', h1, hge⟩, ht⟩ := hr
  have hx := h.at_ ⟨g, n, L, S⟩ (by simp)
  obtain ⟨p1, p2, p3⟩ := List.pairwise_append.1 h.apart
  obtain ⟨p4, p5⟩ := List.pairwise_cons.1 p2
  have hwb := h.bel.size
  have old : ∀ o ∈ Q1 ++ Q2, SetAt w o.g o.n o.L o.S ∧ o.S.Ok ∧ (∀ b, o.L.foot o.g o.S b → w0.heap.size ≤ b) ∧ ∀ b, o.L.foot o.g o.S b → ¬ L.foot g S b := fun o ho => by
    rcases List.mem_append.1 ho with ho | ho
    · have := h.at_ o (by simp [ho])
      exact ⟨this.1, this.2.1, this.2.2, fun b hb => p3 o ho ⟨g, n, L, S⟩ (by simp) b hb⟩
    · have := h.at_ o (by simp [ho])
      exact ⟨this.1, this.2.1, this.2.2, fun b hb hb' => p4 o ho b hb' hb⟩
  have new : ∀ o ∈ Q1 ++ Q2, ∀ b, o.L.foot o.g o.S b → ¬ L'.foot g S' b := fun o ho b hb hb' => by
    obtain ⟨a1, _, _, a4⟩ := old o ho
    rcases hge b hb' with k | k
    · exact a4 b hb k
    · have := a1.lt hb; omega
  refine ⟨L', ⟨fun o ho => ?_, ?_, ?_⟩, hge⟩
  · have : o = ⟨g, n', L', S'⟩ ∨ o ∈ Q1 ++ Q2 := by
      simp only [List.mem_append, List.mem_cons] at ho ⊢
      rcases ho with ho | ho | ho
      · exact Or.inr (Or.inl ho)
      · exact Or.inl ho
      · exact Or.inr (Or.inr ho)
    rcases this with rfl | ho'
    · refine ⟨h1, hs, fun b hb => ?_⟩
      rcases hge b hb with k | k
      · exact hx.2.2 b k
      · omega
    · obtain ⟨a1, a2, a3, a4⟩ := old o ho'
      exact ⟨a1.same fun b hb => ht.block b (a1.lt hb) (a4 b hb), a2, a3⟩
  · refine List.pairwise_append.2 ⟨p1, List.pairwise_cons.2 ⟨fun o ho b hb hb' => new o (by simp [ho]) b hb' hb, p5⟩, fun o ho p hp b hb hb' => ?_⟩
    rcases List.mem_cons.1 hp with rfl | hp
    · exact new o (by simp [ho]) b hb hb'
    · exact p3 o ho p (by simp [hp]) b hb hb'
  · exact h.bel.trans (ht.below hwb hx.2.2)
/-- No set of these holds block b. -/
def OFree (Q : List OObj) (b : Nat) : Prop := ∀ o ∈ Q, ¬ o.L.foot o.g o.S b
def Kept (w w' : World) (Q Q' : List OObj) : Prop := w.heap.size ≤ w'.heap.size ∧ ∀ b, b < w.heap.size → OFree Q b → w'.heap[b]? = w.heap[b]? ∧ OFree Q' b
theorem kept_of {w0 w w' : World} {Q1 Q2 : List OObj} {g n n' : Nat} {L : OLay} {S S' : C.Os} (h : OObjs w0 w (Q1 ++ ⟨g, n, L, S⟩ :: Q2)) (hs : S'.Ok) (hr : SetRet w g L S n' S' w') : ∃ L', OObjs w0 w' (Q1 ++ ⟨g, n', L', S'⟩ :: Q2) ∧ Kept w w' (Q1 ++ ⟨g, n, L, S⟩ :: Q2) (Q1 ++ ⟨g, n', L', S'⟩ :: Q2) := by
  have ht := hr.2
  obtain ⟨L', h1, h2⟩ := h.stepK hs hr
  refine ⟨L', h1, ht.size, fun b hb hf => ?_⟩
  have hg := hf ⟨g, n, L, S⟩ (by simp)
  refine ⟨ht.block b hb hg, fun o ho => ?_⟩
  have : o = ⟨g, n', L', S'⟩ ∨ o ∈ Q1 ++ Q2 := by
    simp only [List.mem_append, List.mem_cons] at ho ⊢
    rcases ho with ho | ho | ho
    · exact Or.inr (Or.inl ho)
    · exact Or.inl ho
    · exact Or.inr (Or.inr ho)
  rcases this with rfl | ho'
  · intro hb'
    rcases h2 b hb' with k | k
    · exact hg k
    · omega
  · refine hf o ?_
    simp only [List.mem_append, List.mem_cons] at ho' ⊢
    rcases ho' with ho' | ho'
    · exact Or.inl ho'
    · exact Or.inr (Or.inr ho')
theorem Kept.act {w w' : World} {Q Q' : List OObj} (h : Kept w w' Q Q') {b : Nat} (hb : b < w.heap.size) (hf : OFree Q b) {a : ActO} (ha : AtO a b 0 w) : AtO a b 0 w' ∧ OFree Q' b ∧ b < w'.heap.size := by
  obtain ⟨h1, h2⟩ := h.2 b hb hf
  refine ⟨fun j u hu => ?_, h2, Nat.lt_of_lt_of_le hb h.1⟩
  rw [← ha j u hu]
  unfold World.cell?
  rw [h1]
theorem k_add (Q1 Q2 : List OObj) {w0 w : World} (g n : Nat) (L : OLay) (S : C.Os) (x : Tx) (d1 d2 : Int) (h : OObjs w0 w (Q1 ++ ⟨g, n, L, S⟩ :: Q2)) (hn : n + 2 < maxLen) (hx : x.size ≤ maxLen) (hl : C.Few S 100000) :
    Calls Try.prog 12 #[.pointer (some ⟨g, 0, none⟩), .agg #[.int .i64 d1, .int .i64 d2], .string x] w fun e w' => ∃ er, e = .returned (.int .i64 er) ∧ ∃ L', OObjs w0 w' (Q1 ++ ⟨g, n + 2, L', C.addO S (d1, d2) x⟩ :: Q2) ∧ Kept w w' (Q1 ++ ⟨g, n, L, S⟩ :: Q2) (Q1 ++ ⟨g, n + 2, L', C.addO S (d1, d2) x⟩ :: Q2) := by
  obtain ⟨h1, h2⟩ := h.get
  refine (oadd_any w g n L S x (d1, d2) h1 h2 hn hx (hl x)).mono ?_
  rintro e w' ⟨rfl, hr⟩
  exact ⟨_, rfl, kept_of h (C.addO_ok h2 _ _) hr⟩
theorem k_rem (Q1 Q2 : List OObj) {w0 w : World} (g n : Nat) (L : OLay) (S : C.Os) (x : Tx) (c : V7) (h : OObjs w0 w (Q1 ++ ⟨g, n, L, S⟩ :: Q2)) (hn : n + 2 < maxLen) (hx : x.size ≤ maxLen) (hl : C.Few S 100000) :
    Calls Try.prog 11 #[.pointer (some ⟨g, 0, none⟩), .string x, c.v] w fun e w' => ∃ er, e = .returned (.int .i64 er) ∧ ∃ L', OObjs w0 w' (Q1 ++ ⟨g, n + 2, L', C.remO S x c⟩ :: Q2) ∧ Kept w w' (Q1 ++ ⟨g, n, L, S⟩ :: Q2) (Q1 ++ ⟨g, n + 2, L', C.remO S x c⟩ :: Q2) := by
  obtain ⟨h1, h2⟩ := h.get
  refine (orem_any w g n L S x c h1 h2 hn hx (hl x)).mono ?_
  rintro e w' ⟨rfl, hr⟩
  exact ⟨_, rfl, kept_of h (C.remO_ok h2 _ _) hr⟩
/-- A block behind all sets. -/
theorem free_new {w0 w : World} {Q : List OObj} (h : OObjs w0 w Q) {b : Nat} (hb : w.heap.size ≤ b) : OFree Q b := fun o ho hf => by
  have := (h.at_ o ho).1.lt hf
  omega
end Go.Proofs.Ytoglhhoniojbaaa
