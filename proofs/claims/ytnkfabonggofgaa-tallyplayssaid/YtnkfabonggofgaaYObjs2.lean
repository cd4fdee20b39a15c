/-
  The document's own tallies beside the program's: their calls; readers beside them.
-/
import Derived.Test.YtnkfabonggofgaaYAwake
import Derived.Test.YtnkfabonggofgaaRTAdd
import Derived.Test.YtnkfabonggofgaaRTGet
import Derived.Test.YtnkfabonggofgaaKBack10
namespace Go.Proofs.Ytnkfabonggofgaa
open Go.RowKit Go.Lib
set_option linter.unusedVariables false

theorem u_add (L1 L2 : List TO) {w0 w : World} (g : Nat) (T T' : C.Ta) (r b er : Int) (h : Tas w0 w (L1 ++ ⟨g, T, true⟩ :: L2)) (he : C.errT T r b = er) (hs : C.addT T r b = T') :
    Calls Try.prog 13 #[.pointer (some ⟨g, 0, none⟩), .int .i64 r, .int .i64 b] w fun e w' => e = .returned (.int .i64 er) ∧ Tas w0 w' (L1 ++ ⟨g, T', true⟩ :: L2) ∧ Turn w w' (fun b => b = g) := by
  subst he hs
  obtain ⟨h1, h2⟩ := h.get
  refine (radd_any w g T r b h1 h2).mono ?_
  rintro e w' ⟨rfl, hr, ht⟩
  exact ⟨rfl, h.step (C.addT_ok h2 _ _) hr ht, ht⟩
theorem u_value (L1 L2 : List TO) {w0 w : World} (g : Nat) (T : C.Ta) (z : Int) (h : Tas w0 w (L1 ++ ⟨g, T, true⟩ :: L2)) (hz : C.valT T = z) :
    Calls Try.prog 14 #[.pointer (some ⟨g, 0, none⟩)] w fun e w' => e = .returned (.int .i64 z) ∧ Below w.heap.size w w' := rvalue_any w g T z h.get.1 h.get.2 hz
theorem u_merge (L1 L2 : List TO) {w0 w : World} (g k : Nat) (S T M : C.Ta) (h : Tas w0 w (L1 ++ ⟨g, S, true⟩ :: L2)) (ho : ⟨k, T, true⟩ ∈ L1 ++ L2) (hs : C.mrgT S T = M) :
    Calls Try.prog 18 #[.pointer (some ⟨g, 0, none⟩), .pointer (some ⟨k, 0, none⟩)] w fun e w' => e = .returned (.tuple #[]) ∧ Tas w0 w' (L1 ++ ⟨g, M, true⟩ :: L2) ∧ Turn w w' (fun b => b = g) := by
  subst hs
  obtain ⟨h1, h2⟩ := h.get
  have h3 := h.at_ ⟨k, T, true⟩ (by simp only [List.mem_append, List.mem_cons] at ho ⊢; rcases ho with ho | ho <;> simp [ho])
  have hne : g ≠ k := by
    obtain ⟨p1, p2, p3⟩ := List.pairwise_append.1 h.apart
    obtain ⟨p4, p5⟩ := List.pairwise_cons.1 p2
    rcases List.mem_append.1 ho with ho | ho
    · exact fun e => p3 _ ho ⟨g, S, true⟩ (by simp) e.symm
    · exact p4 _ ho
  refine (rmerge_any w g k S T h1 h3.1 hne).mono ?_
  rintro e w' ⟨rfl, hr, ht⟩
  exact ⟨rfl, h.step (C.mrgT_ok h2 h3.2.1) hr ht, ht⟩
theorem u_put (L1 L2 : List TO) {w0 w : World} (g : Nat) (T : C.Ta) (pb : Option Addr) (nb cb : Nat) (lb l : List UInt8) (h : Tas w0 w (L1 ++ ⟨g, T, true⟩ :: L2)) (hb : Is w pb nb cb lb) (hlb : lb.length ≤ 50000) (hl : l = lb ++ C.tbytes T) :
    Calls Try.prog 21 #[.pointer (some ⟨g, 0, none⟩), .slice pb nb cb] w fun e w' => (∃ p n k, e = .returned (.slice p n k) ∧ Is w' p n k l) ∧ Below w.heap.size w w' :=
  rtput_any w g T pb nb cb lb l h.get.1 h.get.2 hb hlb hl
theorem Tas.grown_rs {w0 w w' : World} {L : List TO} (h : Tas w0 w L) {k : Nat} {s : Option (List UInt8)} {p : Option Addr} {n c : Nat} {l : List UInt8} (hr : Rs w k p n c l s) (hk : w0.heap.size ≤ k) (hg : w.grownBy w' (some k)) : Tas w0 w' L :=
  ⟨fun o ho => ⟨(h.at_ o ho).1.same (hg.block _ (h.at_ o ho).1.lt (fun e => (h.at_ o ho).1.ne_rs hr (by cases e; rfl))), (h.at_ o ho).2⟩, h.apart, h.bel.grown hg h.bel.size (fun b hb => by cases hb; exact hk)⟩
theorem Tas.add' {w0 w : World} {L : List TO} {g : Nat} {T : C.Ta} (k : Bool) (h : Tas w0 w L) (ha : TaAt w g (tyT k) T) (hT : T.Ok) (hn : ∀ o ∈ L, o.g ≠ g) (hg : w0.heap.size ≤ g) : Tas w0 w (L ++ [⟨g, T, k⟩]) :=
  ⟨fun o ho => by
    rcases List.mem_append.1 ho with ho | ho
    · exact h.at_ o ho
    · obtain rfl : o = ⟨g, T, k⟩ := by simpa using ho
      exact ⟨ha, hT, hg⟩, List.pairwise_append.2 ⟨h.apart, List.pairwise_singleton _ _, fun o ho p hp => by
    obtain rfl : p = ⟨g, T, k⟩ := by simpa using hp
    exact hn o ho⟩, h.bel⟩
/-- A tally's cells in all worlds of new memory. -/
theorem cells14_all {w : World} {g : Nat} {t : TypeId} {u d : V7} (h : TaAt w g t ⟨u, d⟩) :
    (∀ m : NewW w, m.v.cell? ⟨g, 0, none⟩ = some (.int .i64 u.x0)) ∧ (∀ m : NewW w, m.v.cell? ⟨g, 1, none⟩ = some (.int .i64 u.x1)) ∧ (∀ m : NewW w, m.v.cell? ⟨g, 2, none⟩ = some (.int .i64 u.x2)) ∧ (∀ m : NewW w, m.v.cell? ⟨g, 3, none⟩ = some (.int .i64 u.x3)) ∧ (∀ m : NewW w, m.v.cell? ⟨g, 4, none⟩ = some (.int .i64 u.x4)) ∧ (∀ m : NewW w, m.v.cell? ⟨g, 5, none⟩ = some (.int .i64 u.x5)) ∧ (∀ m : NewW w, m.v.cell? ⟨g, 6, none⟩ = some (.int .i64 u.x6)) ∧ (∀ m : NewW w, m.v.cell? ⟨g, 7, none⟩ = some (.int .i64 d.x0)) ∧ (∀ m : NewW w, m.v.cell? ⟨g, 8, none⟩ = some (.int .i64 d.x1)) ∧ (∀ m : NewW w, m.v.cell? ⟨g, 9, none⟩ = some (.int .i64 d.x2)) ∧ (∀ m : NewW w, m.v.cell? ⟨g, 10, none⟩ = some (.int .i64 d.x3)) ∧ (∀ m : NewW w, m.v.cell? ⟨g, 11, none⟩ = some (.int .i64 d.x4)) ∧ (∀ m : NewW w, m.v.cell? ⟨g, 12, none⟩ = some (.int .i64 d.x5)) ∧ (∀ m : NewW w, m.v.cell? ⟨g, 13, none⟩ = some (.int .i64 d.x6)) := by
  have key : ∀ m : NewW w, TaAt m.v g t ⟨u, d⟩ := fun m => h.below m.h
  exact ⟨fun m => (cells14_at (key m)).1, fun m => (cells14_at (key m)).2.1, fun m => (cells14_at (key m)).2.2.1, fun m => (cells14_at (key m)).2.2.2.1, fun m => (cells14_at (key m)).2.2.2.2.1, fun m => (cells14_at (key m)).2.2.2.2.2.1, fun m => (cells14_at (key m)).2.2.2.2.2.2.1, fun m => (cells14_at (key m)).2.2.2.2.2.2.2.1, fun m => (cells14_at (key m)).2.2.2.2.2.2.2.2.1, fun m => (cells14_at (key m)).2.2.2.2.2.2.2.2.2.1, fun m => (cells14_at (key m)).2.2.2.2.2.2.2.2.2.2.1, fun m => (cells14_at (key m)).2.2.2.2.2.2.2.2.2.2.2.1, fun m => (cells14_at (key m)).2.2.2.2.2.2.2.2.2.2.2.2.1, fun m => (cells14_at (key m)).2.2.2.2.2.2.2.2.2.2.2.2.2⟩
end Go.Proofs.Ytnkfabonggofgaa
