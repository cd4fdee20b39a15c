/-
  Some dots beside each other, all of them made since a world: their calls.
-/
import Derived.Test.YtoglhhoniojbaaaTAdd
namespace Go.Proofs.Ytoglhhoniojbaaa
open Go.RowKit Go.Lib
set_option linter.unusedVariables false

/-- An object: its block, its loose ones' slice, what it holds. -/
structure DObj where
  g : Nat
  v : Value
  s : C.Ds
structure Objs (w0 w : World) (L : List DObj) : Prop where
  at_ : ∀ o ∈ L, DotsAt w o.g o.s.c o.v o.s.l ∧ o.s.Ok ∧ ∀ b, foot o.g o.v b → w0.heap.size ≤ b
  apart : L.Pairwise fun o p => ∀ b, foot o.g o.v b → ¬ foot p.g p.v b
  bel : Below w0.heap.size w0 w
theorem Objs.nil {w0 w : World} (h : Below w0.heap.size w0 w) : Objs w0 w [] := ⟨fun o h => (by cases h), List.Pairwise.nil, h⟩
theorem Objs.below {w0 w w' : World} {L : List DObj} (h : Objs w0 w L) (hb : Below w.heap.size w w') : Objs w0 w' L :=
  ⟨fun o ho => ⟨(h.at_ o ho).1.below hb, (h.at_ o ho).2⟩, h.apart, bt h.bel hb⟩
theorem Objs.get {w0 w : World} {L1 L2 : List DObj} {o : DObj} (h : Objs w0 w (L1 ++ o :: L2)) : DotsAt w o.g o.s.c o.v o.s.l ∧ o.s.Ok := ⟨(h.at_ o (by simp)).1, (h.at_ o (by simp)).2.1⟩
theorem Objs.step {w0 w w' : World} {L1 L2 : List DObj} {g : Nat} {v : Value} {s s' : C.Ds} (h : Objs w0 w (L1 ++ ⟨g, v, s⟩ :: L2)) (hs : s'.Ok) (hr : AddRet w g v s' w') : ∃ v', Objs w0 w' (L1 ++ ⟨g, v', s'⟩ :: L2) := by
  obtain ⟨⟨v', h1, h2⟩, ht⟩ := hr
  have hx := h.at_ ⟨g, v, s⟩ (by simp)
  obtain ⟨p1, p2, p3⟩ := List.pairwise_append.1 h.apart
  obtain ⟨p4, p5⟩ := List.pairwise_cons.1 p2
  have hge : ∀ b, foot g v' b → foot g v b ∨ w.heap.size ≤ b := fun b hb => by
    rcases hb with rfl | hb
    · exact Or.inl (Or.inl rfl)
    · rcases h2 with h2 | h2
      · exact Or.inl (Or.inr (h2 ▸ hb))
      · exact Or.inr (h2 b hb)
  have hwb := h.bel.size
  have old : ∀ o ∈ L1 ++ L2, DotsAt w o.g o.s.c o.v o.s.l ∧ o.s.Ok ∧ (∀ b, foot o.g o.v b → w0.heap.size ≤ b) ∧ ∀ b, foot o.g o.v b → ¬ foot g v b := fun o ho => by
    rcases List.mem_append.1 ho with ho | ho
    · have := h.at_ o (by simp [ho])
      exact ⟨this.1, this.2.1, this.2.2, fun b hb => p3 o ho ⟨g, v, s⟩ (by simp) b hb⟩
    · have := h.at_ o (by simp [ho])
      exact ⟨this.1, this.2.1, this.2.2, fun b hb hb' => p4 o ho b hb' hb⟩
  have new : ∀ o ∈ L1 ++ L2, ∀ b, foot o.g o.v b → ¬ foot g v' b := fun o ho b hb hb' => by
    obtain ⟨a1, _, _, a4⟩ := old o ho
    rcases hge b hb' with k | k
    · exact a4 b hb k
    · have := a1.lt hb; omega
  refine ⟨v', fun o ho => ?_, ?_, ?_⟩
  · have : o = ⟨g, v', s'⟩ ∨ o ∈ L1 ++ L2 := by
      simp only [List.mem_append, List.mem_cons] at ho ⊢
      rcases ho with ho | ho | ho
      · exact Or.inr (Or.inl ho)
      · exact Or.inl ho
      · exact Or.inr (Or.inr ho)
    rcases this with rfl | ho'
    · refine ⟨h1, hs, fun b hb => ?_⟩
      rcases hge b hb with k | k
      · exact hx.2.2 b k
      · omega
    · obtain ⟨a1, a2, a3, a4⟩ := old o ho'
      exact ⟨a1.same fun b hb => ht.block b (a1.lt hb) (a4 b hb), a2, a3⟩
  · refine List.pairwise_append.2 ⟨p1, List.pairwise_cons.2 ⟨fun o ho b hb hb' => new o (by simp [ho]) b hb' hb, p5⟩, fun o ho p hp b hb hb' => ?_⟩
    rcases List.mem_cons.1 hp with rfl | hp
    · exact new o (by simp [ho]) b hb hb'
    · exact p3 o ho p (by simp [hp]) b hb hb'
  · exact h.bel.trans (ht.below hwb hx.2.2)
theorem Objs.more {w0 w w' : World} {L : List DObj} {o : DObj} (h : Objs w0 w L) (hb : Below w.heap.size w w') (ho : DotsAt w' o.g o.s.c o.v o.s.l) (hok : o.s.Ok) (hf : ∀ b, foot o.g o.v b → w.heap.size ≤ b) : Objs w0 w' (L ++ [o]) := by
  have h' := h.below hb
  have hsz := h.bel.size
  refine ⟨fun p hp => ?_, List.pairwise_append.2 ⟨h.apart, List.pairwise_singleton _ _, fun p hp q hq b hbp hbq => ?_⟩, h'.bel⟩
  · rcases List.mem_append.1 hp with hp | hp
    · exact h'.at_ p hp
    · obtain rfl : p = o := by simpa using hp
      exact ⟨ho, hok, fun b hb => by have := hf b hb; omega⟩
  · obtain rfl : q = o := by simpa using hq
    have := hf b hbq
    have := (h.at_ p hp).1.lt hbp
    omega
theorem o_new {w0 w : World} {L : List DObj} (h : Objs w0 w L) : Calls Try.prog 61 #[] w fun e w' => ∃ g, e = .returned (.pointer (some ⟨g, 0, none⟩)) ∧ Objs w0 w' (L ++ [⟨g, .slice none 0 0, C.zeroS⟩]) ∧ Below w.heap.size w w' :=
  (new_any w).mono fun e w' ⟨⟨g, he, hg, hd⟩, hb⟩ => ⟨g, he, h.more (o := ⟨g, .slice none 0 0, C.zeroS⟩) hb hd C.zero_ok (by
    intro b hf
    rcases hf with rfl | hf
    · exact hg
    · cases hf), hb⟩
theorem o_add (L1 L2 : List DObj) {w0 w : World} (g : Nat) (v : Value) (s s' : C.Ds) (d1 d2 : Int) (b : Bool) (er : Int) (h : Objs w0 w (L1 ++ ⟨g, v, s⟩ :: L2)) (hl : s.l.length < 1000) (hb : (C.may (d1, d2) && !C.mem s (d1, d2)) = b) (he : errM (d1, d2) = er) (hs : C.addM s (d1, d2) = s') :
    Calls Try.prog 62 #[.pointer (some ⟨g, 0, none⟩), .agg #[.int .i64 d1, .int .i64 d2]] w fun e w' => e = .returned (.tuple #[.bool b, .int .i64 er]) ∧ (∃ v', Objs w0 w' (L1 ++ ⟨g, v', s'⟩ :: L2)) ∧ Turn w w' (foot g v) := by
  subst hb he hs
  obtain ⟨h1, h2⟩ := h.get
  refine (add_any w g s v d1 d2 h1 h2 hl).mono ?_
  rintro e w' ⟨rfl, hr⟩
  exact ⟨rfl, h.step (C.addM_ok h2 _) hr, hr.2⟩
theorem OwnD.len {w : World} {v : Value} {l : List C.Dt} (h : OwnD w v l) : ∃ q c, v = .slice q l.length c := by
  rcases h.shape with ⟨rfl, rfl⟩ | ⟨g, cap, cur, rfl, _⟩
  · exact ⟨_, _, rfl⟩
  · exact ⟨_, _, rfl⟩
end Go.Proofs.Ytoglhhoniojbaaa
