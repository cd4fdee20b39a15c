/-
  Such values beside each other, the document's own among them, all of them made since a world: their calls.
-/
import Derived.Test.YtebfhomopdnkkaaEWrite3
import Derived.Test.YtebfhomopdnkkaaESame
import Derived.Test.YtebfhomopdnkkaaEPut
import Derived.Test.YtebfhomopdnkkaaEGet
namespace Go.Proofs.Ytebfhomopdnkkaa
open Go.RowKit Go.Lib
set_option linter.unusedVariables false

/-- One: its block, what it holds; if it is the document's own. -/
structure EO where
  g : Nat
  T : C.La
  k : Bool
structure Els (w0 w : World) (L : List EO) : Prop where
  at_ : ∀ o ∈ L, EAt w o.g o.k o.T ∧ o.T.Ok ∧ w0.heap.size ≤ o.g
  apart : L.Pairwise fun o p => o.g ≠ p.g
  bel : Below w0.heap.size w0 w
theorem Els.nil {w0 w : World} (h : Below w0.heap.size w0 w) : Els w0 w [] := ⟨fun o h => (by cases h), List.Pairwise.nil, h⟩
theorem Els.below {w0 w w' : World} {L : List EO} (h : Els w0 w L) (hb : Below w.heap.size w w') : Els w0 w' L :=
  ⟨fun o ho => ⟨(h.at_ o ho).1.below hb, (h.at_ o ho).2⟩, h.apart, bt h.bel hb⟩
theorem Els.get {w0 w : World} {L1 L2 : List EO} {o : EO} (h : Els w0 w (L1 ++ o :: L2)) : EAt w o.g o.k o.T ∧ o.T.Ok := ⟨(h.at_ o (by simp)).1, (h.at_ o (by simp)).2.1⟩
theorem Els.step {w0 w w' : World} {L1 L2 : List EO} {g : Nat} {T T' : C.La} {k : Bool} (h : Els w0 w (L1 ++ ⟨g, T, k⟩ :: L2)) (hs : T'.Ok) (hr : EAt w' g k T') (ht : Turn w w' (fun b => b = g)) : Els w0 w' (L1 ++ ⟨g, T', k⟩ :: L2) := by
  have hx := h.at_ ⟨g, T, k⟩ (by simp)
  obtain ⟨p1, p2, p3⟩ := List.pairwise_append.1 h.apart
  obtain ⟨p4, p5⟩ := List.pairwise_cons.1 p2
  refine ⟨fun o ho => ?_, ?_, h.bel.trans (ht.below h.bel.size fun b hb => by rw [hb]; exact hx.2.2)⟩
  · have : o = ⟨g, T', k⟩ ∨ (o ∈ L1 ∨ o ∈ L2) := by
      simp only [List.mem_append, List.mem_cons] at ho
      rcases ho with ho | ho | ho
      · exact Or.inr (Or.inl ho)
      · exact Or.inl ho
      · exact Or.inr (Or.inr ho)
    rcases this with rfl | ho' | ho'
    · exact ⟨hr, hs, hx.2.2⟩
    · have q := h.at_ o (by simp [ho'])
      exact ⟨q.1.same (ht.block _ q.1.lt (p3 o ho' ⟨g, T, k⟩ (by simp))), q.2⟩
    · have q := h.at_ o (by simp [ho'])
      exact ⟨q.1.same (ht.block _ q.1.lt (fun e => p4 o ho' e.symm)), q.2⟩
  · refine List.pairwise_append.2 ⟨p1, List.pairwise_cons.2 ⟨fun o ho => p4 o ho, p5⟩, fun o ho p hp => ?_⟩
    rcases List.mem_cons.1 hp with rfl | hp
    · exact p3 o ho ⟨g, T, k⟩ (by simp)
    · exact p3 o ho p (by simp [hp])
theorem Els.more {w0 w w' : World} {L : List EO} {o : EO} (h : Els w0 w L) (hb : Below w.heap.size w w') (ho : EAt w' o.g o.k o.T) (hok : o.T.Ok) (hf : w.heap.size ≤ o.g) : Els w0 w' (L ++ [o]) := by
  have h' := h.below hb
  have hsz := h.bel.size
  refine ⟨fun p hp => ?_, List.pairwise_append.2 ⟨h.apart, List.pairwise_singleton _ _, fun p hp q hq => ?_⟩, h'.bel⟩
  · rcases List.mem_append.1 hp with hp | hp
    · exact h'.at_ p hp
    · obtain rfl : p = o := by simpa using hp
      exact ⟨ho, hok, Nat.le_trans hsz hf⟩
  · obtain rfl : q = o := by simpa using hq
    have := (h.at_ p hp).1.lt
    omega
/-- A reader beside them goes on. -/
theorem Els.grown {w0 w w' : World} {L : List EO} (h : Els w0 w L) {k : Nat} {s : Option (List UInt8)} {p : Option Addr} {n c : Nat} (hr : Rd w k s p n c) (hk : w0.heap.size ≤ k) (hg : w.grownBy w' (some k)) : Els w0 w' L :=
  ⟨fun o ho => ⟨(h.at_ o ho).1.same (hg.block _ (h.at_ o ho).1.lt (fun e => (h.at_ o ho).1.ne_rd hr (by cases e; rfl))), (h.at_ o ho).2⟩, h.apart, h.bel.grown hg h.bel.size (fun b hb => by cases hb; exact hk)⟩
theorem Rd.turnedE {w w' : World} {g k : Nat} {s : Option (List UInt8)} {p : Option Addr} {n c : Nat} {b : Bool} {T : C.La} (h : Rd w k s p n c) (ha : EAt w g b T) (ht : Turn w w' (fun b => b = g)) : Rd w' k s p n c :=
  h.kept (k := g) ⟨ht.os, ht.tape, ht.output, ht.size, fun i hi hne => ht.block i hi (fun e => hne (by rw [e]))⟩ ha.nb (ha.ne_rd h).symm
theorem e_new {w0 w : World} {L : List EO} (h : Els w0 w L) : Calls Try.prog 9 #[] w fun e w' => ∃ g, e = .returned (.pointer (some ⟨g, 0, none⟩)) ∧ Els w0 w' (L ++ [⟨g, C.La.zero, false⟩]) ∧ Below w.heap.size w w' :=
  (enew_any w).mono fun e w' ⟨he, hd, hb⟩ => ⟨_, he, h.more (o := ⟨_, C.La.zero, false⟩) hb hd C.zero_okL (Nat.le_refl _), hb⟩
/-- The document's own, made by its literal. -/
theorem d_new {w0 w : World} {L : List EO} (h : Els w0 w L) : Els w0 (w.alloc (.cells #[.bool false, .string ⟨#[]⟩, .int .i64 0, .int .i64 0, .int .i64 0] 43)) (L ++ [⟨w.heap.size, C.La.zero, true⟩]) :=
  h.more (o := ⟨w.heap.size, C.La.zero, true⟩) (below_new _ _) (heap_alloc_new w _) C.zero_okL (Nat.le_refl _)
theorem e_write (L1 L2 : List EO) {w0 w : World} (g : Nat) (S S' a : C.La) (z : Bool) (er : Int) (h : Els w0 w (L1 ++ ⟨g, S, false⟩ :: L2)) (hx : a.x.size ≤ maxLen) (hz : C.didL S a = z) (he : C.errL S a = er) (hs : C.wrL S a = S') :
    Calls Try.prog 11 #[.pointer (some ⟨g, 0, none⟩), .string a.x, .int .i64 a.t, .agg #[.int .i64 a.r, .int .i64 a.n]] w fun e w' => e = .returned (.tuple #[.bool z, .int .i64 er]) ∧ Els w0 w' (L1 ++ ⟨g, S', false⟩ :: L2) ∧ Turn w w' (fun b => b = g) := by
  subst hz he hs
  obtain ⟨h1, h2⟩ := h.get
  refine (ewrite_any w g S a h1 hx).mono ?_
  rintro e w' ⟨rfl, hr, ht⟩
  exact ⟨rfl, h.step (C.wr_ok h2 _) hr ht, ht⟩
theorem e_value (L1 L2 : List EO) {w0 w : World} (g : Nat) (S : C.La) (x : ByteArray) (z : Bool) (h : Els w0 w (L1 ++ ⟨g, S, false⟩ :: L2)) (hx : S.x = x) (hz : C.isL S = z) :
    Calls Try.prog 10 #[.pointer (some ⟨g, 0, none⟩)] w fun e w' => e = .returned (.tuple #[.string x, .bool z]) ∧ Below w.heap.size w w' := by
  subst hx hz; exact value_any w g S h.get.1 h.get.2
theorem e_when (L1 L2 : List EO) {w0 w : World} (g : Nat) (S : C.La) (h : Els w0 w (L1 ++ ⟨g, S, false⟩ :: L2)) :
    Calls Try.prog 12 #[.pointer (some ⟨g, 0, none⟩)] w fun e w' => e = .returned (.tuple #[.int .i64 S.t, .agg #[.int .i64 S.r, .int .i64 S.n]]) ∧ Below w.heap.size w w' := when_any w g S h.get.1
theorem e_put (L1 L2 : List EO) {w0 w : World} (g : Nat) (S : C.La) (pb : Option Addr) (nb cb : Nat) (lb l : List UInt8) (h : Els w0 w (L1 ++ ⟨g, S, false⟩ :: L2)) (hb : Is w pb nb cb lb) (hlb : lb.length ≤ 30000) (hl : l = lb ++ C.putL S) :
    Calls Try.prog 15 #[.pointer (some ⟨g, 0, none⟩), .slice pb nb cb] w fun e w' => (∃ p n k, e = .returned (.slice p n k) ∧ Is w' p n k l) ∧ Below w.heap.size w w' :=
  eput_any w g S pb nb cb lb l h.get.1 h.get.2 hb hlb hl
theorem e_same {w0 w : World} {L : List EO} (g k : Nat) (S T : C.La) (x : Bool) (h : Els w0 w L) (h1 : ⟨g, S, false⟩ ∈ L) (h2 : ⟨k, T, false⟩ ∈ L) (hx : C.sameL S T = x) :
    Calls Try.prog 16 #[.pointer (some ⟨g, 0, none⟩), .pointer (some ⟨k, 0, none⟩)] w fun e w' => e = .returned (.bool x) ∧ Below w.heap.size w w' := by
  subst hx; exact esame_any w g k S T (h.at_ _ h1).1 (h.at_ _ h2).1
/-- One more, known to be new. -/
theorem Els.add {w0 w : World} {L : List EO} {g : Nat} {T : C.La} (k : Bool) (h : Els w0 w L) (ha : EAt w g k T) (hT : T.Ok) (hn : ∀ o ∈ L, o.g ≠ g) (hg : w0.heap.size ≤ g) : Els w0 w (L ++ [⟨g, T, k⟩]) :=
  ⟨fun o ho => by
    rcases List.mem_append.1 ho with ho | ho
    · exact h.at_ o ho
    · obtain rfl : o = ⟨g, T, k⟩ := by simpa using ho
      exact ⟨ha, hT, hg⟩, List.pairwise_append.2 ⟨h.apart, List.pairwise_singleton _ _, fun o ho p hp => by
    obtain rfl : p = ⟨g, T, k⟩ := by simpa using hp
    exact hn o ho⟩, h.bel⟩
theorem e_wr (L1 L2 : List EO) {w0 w : World} (g : Nat) (S S' : C.La) (x : ByteArray) (t r n : Int) (z : Bool) (er : Int) (h : Els w0 w (L1 ++ ⟨g, S, false⟩ :: L2)) (hx : x.size ≤ maxLen) (hz : C.didL S ⟨x, t, r, n⟩ = z) (he : C.errL S ⟨x, t, r, n⟩ = er) (hs : C.wrL S ⟨x, t, r, n⟩ = S') :
    Calls Try.prog 11 #[.pointer (some ⟨g, 0, none⟩), .string x, .int .i64 t, .agg #[.int .i64 r, .int .i64 n]] w fun e w' => e = .returned (.tuple #[.bool z, .int .i64 er]) ∧ Els w0 w' (L1 ++ ⟨g, S', false⟩ :: L2) ∧ Turn w w' (fun b => b = g) :=
  e_write L1 L2 g S S' ⟨x, t, r, n⟩ z er h hx hz he hs
end Go.Proofs.Ytebfhomopdnkkaa
