/-
  Tallies beside each other, the document's own among them, all of them made since a world: their calls.
-/
import Derived.Test.YtnkfabonggofgaaZ3
import Derived.Test.YtnkfabonggofgaaYPut
import Derived.Test.YtnkfabonggofgaaYGet
namespace Go.Proofs.Ytnkfabonggofgaa
open Go.RowKit Go.Lib
set_option linter.unusedVariables false

/-- A tally: its block, its numbers; if it is the document's own. -/
structure TO where
  g : Nat
  T : C.Ta
  k : Bool
def tyT (k : Bool) : TypeId := match k with | false => 51 | true => 37
structure Tas (w0 w : World) (L : List TO) : Prop where
  at_ : ∀ o ∈ L, TaAt w o.g (tyT o.k) o.T ∧ o.T.Ok ∧ w0.heap.size ≤ o.g
  apart : L.Pairwise fun o p => o.g ≠ p.g
  bel : Below w0.heap.size w0 w
theorem Tas.nil {w0 w : World} (h : Below w0.heap.size w0 w) : Tas w0 w [] := ⟨fun o h => (by cases h), List.Pairwise.nil, h⟩
theorem Tas.below {w0 w w' : World} {L : List TO} (h : Tas w0 w L) (hb : Below w.heap.size w w') : Tas w0 w' L :=
  ⟨fun o ho => ⟨(h.at_ o ho).1.below hb, (h.at_ o ho).2⟩, h.apart, bt h.bel hb⟩
theorem Tas.get {w0 w : World} {L1 L2 : List TO} {o : TO} (h : Tas w0 w (L1 ++ o :: L2)) : TaAt w o.g (tyT o.k) o.T ∧ o.T.Ok := ⟨(h.at_ o (by simp)).1, (h.at_ o (by simp)).2.1⟩
theorem Tas.step {w0 w w' : World} {L1 L2 : List TO} {g : Nat} {T T' : C.Ta} {k : Bool} (h : Tas w0 w (L1 ++ ⟨g, T, k⟩ :: L2)) (hs : T'.Ok) (hr : TaAt w' g (tyT k) T') (ht : Turn w w' (fun b => b = g)) : Tas w0 w' (L1 ++ ⟨g, T', k⟩ :: L2) := by
  have hx := h.at_ ⟨g, T, k⟩ (by simp)
  obtain ⟨p1, p2, p3⟩ := List.pairwise_append.1 h.apart
  obtain ⟨p4, p5⟩ := List.pairwise_cons.1 p2
  refine ⟨fun o ho => ?_, ?_, h.bel.trans (ht.below h.bel.size fun b hb => by rw [hb]; exact hx.2.2)⟩
  · have : o = ⟨g, T', k⟩ ∨ (o ∈ L1 ∨ o ∈ L2) := by
      simp only [List.mem_append, List.mem_cons] at ho
      rcases ho with ho | ho | ho
      · exact Or.inr (Or.inl ho)
      · exact Or.inl ho
      · exact Or.inr (Or.inr ho)
    rcases this with rfl | ho' | ho'
    · exact ⟨hr, hs, hx.2.2⟩
    · have q := h.at_ o (by simp [ho'])
      exact ⟨q.1.same (ht.block _ q.1.lt (p3 o ho' ⟨g, T, k⟩ (by simp))), q.2⟩
    · have q := h.at_ o (by simp [ho'])
      exact ⟨q.1.same (ht.block _ q.1.lt (fun e => p4 o ho' e.symm)), q.2⟩
  · refine List.pairwise_append.2 ⟨p1, List.pairwise_cons.2 ⟨fun o ho => p4 o ho, p5⟩, fun o ho p hp => ?_⟩
    rcases List.mem_cons.1 hp with rfl | hp
    · exact p3 o ho ⟨g, T, k⟩ (by simp)
    · exact p3 o ho p (by simp [hp])
theorem Tas.more {w0 w w' : World} {L : List TO} {o : TO} (h : Tas w0 w L) (hb : Below w.heap.size w w') (ho : TaAt w' o.g (tyT o.k) o.T) (hok : o.T.Ok) (hf : w.heap.size ≤ o.g) : Tas w0 w' (L ++ [o]) := by
  have h' := h.below hb
  have hsz := h.bel.size
  refine ⟨fun p hp => ?_, List.pairwise_append.2 ⟨h.apart, List.pairwise_singleton _ _, fun p hp q hq => ?_⟩, h'.bel⟩
  · rcases List.mem_append.1 hp with hp | hp
    · exact h'.at_ p hp
    · obtain rfl : p = o := by simpa using hp
      exact ⟨ho, hok, Nat.le_trans hsz hf⟩
  · obtain rfl : q = o := by simpa using hq
    have := (h.at_ p hp).1.lt
    omega
theorem TaAt.ne_rd {w : World} {g k : Nat} {t : TypeId} {T : C.Ta} {s : Option (List UInt8)} {p : Option Addr} {n c : Nat} (h : TaAt w g t T) (hr : Rd w k s p n c) : g ≠ k := by
  rintro rfl
  have h2 := hr.blk
  unfold TaAt at h
  rw [h] at h2
  simp [cells14] at h2
theorem TaAt.nb {w : World} {g : Nat} {t : TypeId} {T : C.Ta} (h : TaAt w g t T) : NB w g := by
  intro o x
  unfold TaAt at h
  simp only [World.cell?, h, cells14]
  rcases o with _ | _ | _ | _ | _ | _ | _ | _ | _ | _ | _ | _ | _ | _ | o <;> simp
/-- A reader beside them goes on. -/
theorem Tas.grown {w0 w w' : World} {L : List TO} (h : Tas w0 w L) {k : Nat} {s : Option (List UInt8)} {p : Option Addr} {n c : Nat} (hr : Rd w k s p n c) (hk : w0.heap.size ≤ k) (hg : w.grownBy w' (some k)) : Tas w0 w' L :=
  ⟨fun o ho => ⟨(h.at_ o ho).1.same (hg.block _ (h.at_ o ho).1.lt (fun e => (h.at_ o ho).1.ne_rd hr (by cases e; rfl))), (h.at_ o ho).2⟩, h.apart, h.bel.grown hg h.bel.size (fun b hb => by cases hb; exact hk)⟩
theorem Rd.turned {w w' : World} {g k : Nat} {s : Option (List UInt8)} {p : Option Addr} {n c : Nat} {t : TypeId} {T : C.Ta} (h : Rd w k s p n c) (ha : TaAt w g t T) (ht : Turn w w' (fun b => b = g)) : Rd w' k s p n c :=
  h.kept (k := g) ⟨ht.os, ht.tape, ht.output, ht.size, fun i hi hne => ht.block i hi (fun e => hne (by rw [e]))⟩ ha.nb (ha.ne_rd h).symm
theorem t_new {w0 w : World} {L : List TO} (h : Tas w0 w L) : Calls Try.prog 8 #[] w fun e w' => ∃ g, e = .returned (.pointer (some ⟨g, 0, none⟩)) ∧ Tas w0 w' (L ++ [⟨g, C.zeroT, false⟩]) ∧ Below w.heap.size w w' :=
  (new_any w).mono fun e w' ⟨he, hd, hb⟩ => ⟨_, he, h.more (o := ⟨_, C.zeroT, false⟩) hb hd C.zeroT_ok (Nat.le_refl _), hb⟩
/-- The document's own, made by its literal. -/
theorem u_new {w0 w : World} {L : List TO} (h : Tas w0 w L) : Tas w0 (w.alloc (.cells (cells14 C.zero77 C.zero77) 37)) (L ++ [⟨w.heap.size, C.zeroT, true⟩]) :=
  h.more (o := ⟨w.heap.size, C.zeroT, true⟩) (below_new _ _) (heap_alloc_new w _) C.zeroT_ok (Nat.le_refl _)
theorem t_add (L1 L2 : List TO) {w0 w : World} (g : Nat) (T T' : C.Ta) (r b er : Int) (h : Tas w0 w (L1 ++ ⟨g, T, false⟩ :: L2)) (he : C.errT T r b = er) (hs : C.addT T r b = T') :
    Calls Try.prog 9 #[.pointer (some ⟨g, 0, none⟩), .int .i64 r, .int .i64 b] w fun e w' => e = .returned (.int .i64 er) ∧ Tas w0 w' (L1 ++ ⟨g, T', false⟩ :: L2) ∧ Turn w w' (fun b => b = g) := by
  subst he hs
  obtain ⟨h1, h2⟩ := h.get
  refine (add_any w g T r b h1 h2).mono ?_
  rintro e w' ⟨rfl, hr, ht⟩
  exact ⟨rfl, h.step (C.addT_ok h2 _ _) hr ht, ht⟩
theorem t_value (L1 L2 : List TO) {w0 w : World} (g : Nat) (T : C.Ta) (z : Int) (h : Tas w0 w (L1 ++ ⟨g, T, false⟩ :: L2)) (hz : C.valT T = z) :
    Calls Try.prog 10 #[.pointer (some ⟨g, 0, none⟩)] w fun e w' => e = .returned (.int .i64 z) ∧ w' = w := value_any w g T z h.get.1 h.get.2 hz
theorem t_up (L1 L2 : List TO) {w0 w : World} (g : Nat) (T : C.Ta) (h : Tas w0 w (L1 ++ ⟨g, T, false⟩ :: L2)) :
    Calls Try.prog 15 #[.pointer (some ⟨g, 0, none⟩)] w fun e w' => e = .returned T.u.v ∧ Below w.heap.size w w' := up_any w g T h.get.1
theorem t_down (L1 L2 : List TO) {w0 w : World} (g : Nat) (T : C.Ta) (h : Tas w0 w (L1 ++ ⟨g, T, false⟩ :: L2)) :
    Calls Try.prog 16 #[.pointer (some ⟨g, 0, none⟩)] w fun e w' => e = .returned T.d.v ∧ Below w.heap.size w w' := down_any w g T h.get.1
theorem t_merge (L1 L2 : List TO) {w0 w : World} (g k : Nat) (S T M : C.Ta) (h : Tas w0 w (L1 ++ ⟨g, S, false⟩ :: L2)) (ho : ⟨k, T, false⟩ ∈ L1 ++ L2) (hs : C.mrgT S T = M) :
    Calls Try.prog 17 #[.pointer (some ⟨g, 0, none⟩), .pointer (some ⟨k, 0, none⟩)] w fun e w' => e = .returned (.tuple #[]) ∧ Tas w0 w' (L1 ++ ⟨g, M, false⟩ :: L2) ∧ Turn w w' (fun b => b = g) := by
  subst hs
  obtain ⟨h1, h2⟩ := h.get
  have h3 := h.at_ ⟨k, T, false⟩ (by simp only [List.mem_append, List.mem_cons] at ho ⊢; rcases ho with ho | ho <;> simp [ho])
  have hne : g ≠ k := by
    obtain ⟨p1, p2, p3⟩ := List.pairwise_append.1 h.apart
    obtain ⟨p4, p5⟩ := List.pairwise_cons.1 p2
    rcases List.mem_append.1 ho with ho | ho
    · exact fun e => p3 _ ho ⟨g, S, false⟩ (by simp) e.symm
    · exact p4 _ ho
  refine (merge_two w g k S T h1 h3.1 hne).mono ?_
  rintro e w' ⟨rfl, hr, ht⟩
  exact ⟨rfl, h.step (C.mrgT_ok h2 h3.2.1) hr ht, ht⟩
theorem t_put (L1 L2 : List TO) {w0 w : World} (g : Nat) (T : C.Ta) (pb : Option Addr) (nb cb : Nat) (lb l : List UInt8) (h : Tas w0 w (L1 ++ ⟨g, T, false⟩ :: L2)) (hb : Is w pb nb cb lb) (hlb : lb.length ≤ 50000) (hl : l = lb ++ C.tbytes T) :
    Calls Try.prog 20 #[.pointer (some ⟨g, 0, none⟩), .slice pb nb cb] w fun e w' => (∃ p n k, e = .returned (.slice p n k) ∧ Is w' p n k l) ∧ Below w.heap.size w w' :=
  tput_any w g T pb nb cb lb l h.get.1 h.get.2 hb hlb hl
theorem t_same {w0 w : World} {L : List TO} (g k : Nat) (S T : C.Ta) (x : Bool) (h : Tas w0 w L) (h1 : ⟨g, S, false⟩ ∈ L) (h2 : ⟨k, T, false⟩ ∈ L) (hx : C.sameT S T = x) :
    Calls Try.prog 23 #[.pointer (some ⟨g, 0, none⟩), .pointer (some ⟨k, 0, none⟩)] w fun e w' => e = .returned (.bool x) ∧ Below w.heap.size w w' :=
  same_any w g k S T x (h.at_ _ h1).1 (h.at_ _ h2).1 hx
end Go.Proofs.Ytnkfabonggofgaa
