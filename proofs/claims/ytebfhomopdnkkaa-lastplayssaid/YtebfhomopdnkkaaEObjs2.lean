/-
  The document's own beside the program's: their calls; readers beside them.
-/
import Derived.Test.YtebfhomopdnkkaaEAwake
import Derived.Test.YtebfhomopdnkkaaEArg
import Derived.Test.YtebfhomopdnkkaaEDWrite2
import Derived.Test.YtebfhomopdnkkaaEDGet
namespace Go.Proofs.Ytebfhomopdnkkaa
open Go.RowKit Go.Lib
set_option linter.unusedVariables false

theorem d_wr (L1 L2 : List EO) {w0 w : World} (g : Nat) (S S' : C.La) (x : ByteArray) (t r n : Int) (z : Bool) (er : Int) (h : Els w0 w (L1 ++ ⟨g, S, true⟩ :: L2)) (hx : x.size ≤ maxLen) (hz : C.didL S ⟨x, t, r, n⟩ = z) (he : C.errL S ⟨x, t, r, n⟩ = er) (hs : C.wrL S ⟨x, t, r, n⟩ = S') :
    Calls Try.prog 17 #[.pointer (some ⟨g, 0, none⟩), .string x, .int .i64 t, .agg #[.int .i64 r, .int .i64 n]] w fun e w' => e = .returned (.tuple #[.bool z, .int .i64 er]) ∧ Els w0 w' (L1 ++ ⟨g, S', true⟩ :: L2) ∧ Turn w w' (fun b => b = g) := by
  subst hz he hs
  obtain ⟨h1, h2⟩ := h.get
  refine (dwrite_any w g S ⟨x, t, r, n⟩ h1 h2 hx).mono ?_
  rintro e w' ⟨rfl, hr, ht⟩
  exact ⟨rfl, h.step (C.wr_ok h2 _) hr ht, ht⟩
theorem d_put (L1 L2 : List EO) {w0 w : World} (g : Nat) (S : C.La) (pb : Option Addr) (nb cb : Nat) (lb l : List UInt8) (h : Els w0 w (L1 ++ ⟨g, S, true⟩ :: L2)) (hb : Is w pb nb cb lb) (hlb : lb.length ≤ 30000) (hl : l = lb ++ C.putL S) :
    Calls Try.prog 18 #[.pointer (some ⟨g, 0, none⟩), .slice pb nb cb] w fun e w' => (∃ p n k, e = .returned (.slice p n k) ∧ Is w' p n k l) ∧ Below w.heap.size w w' :=
  dput_any w g S pb nb cb lb l h.get.1 h.get.2 hb hlb hl
theorem Els.grown_rs {w0 w w' : World} {L : List EO} (h : Els w0 w L) {k : Nat} {s : Option (List UInt8)} {p : Option Addr} {n c : Nat} {l : List UInt8} (hr : Rs w k p n c l s) (hk : w0.heap.size ≤ k) (hg : w.grownBy w' (some k)) : Els w0 w' L :=
  ⟨fun o ho => ⟨(h.at_ o ho).1.same (hg.block _ (h.at_ o ho).1.lt (fun e => (h.at_ o ho).1.ne_rs hr (by cases e; rfl))), (h.at_ o ho).2⟩, h.apart, h.bel.grown hg h.bel.size (fun b hb => by cases hb; exact hk)⟩
theorem Els.front {w0 w : World} {L L' : List EO} (h : Els w0 w (L ++ L')) : Els w0 w L :=
  ⟨fun o ho => h.at_ o (List.mem_append_left _ ho), (List.pairwise_append.1 h.apart).1, h.bel⟩
/-- The document's own, its cells in all worlds of new memory. -/
theorem cells5_all {w : World} {g : Nat} {x : ByteArray} {t r n : Int} {z : Bool} (h : EAt w g true ⟨x, t, r, n⟩) (hz : C.isL ⟨x, t, r, n⟩ = z) : (∀ m : NewW w, m.v.cell? ⟨g, 0, none⟩ = some (.bool z)) ∧ (∀ m : NewW w, m.v.cell? ⟨g, 1, none⟩ = some (.string x)) ∧ (∀ m : NewW w, m.v.cell? ⟨g, 2, none⟩ = some (.int .i64 t)) ∧ (∀ m : NewW w, m.v.cell? ⟨g, 3, none⟩ = some (.int .i64 r)) ∧ (∀ m : NewW w, m.v.cell? ⟨g, 4, none⟩ = some (.int .i64 n)) := by
  have key : ∀ m : NewW w, EAt m.v g true ⟨x, t, r, n⟩ := fun m => h.below m.h
  exact ⟨fun m => by rw [← hz]; exact (key m).cell 0, fun m => (key m).cell 1, fun m => (key m).cell 2, fun m => (key m).cell 3, fun m => (key m).cell 4⟩
end Go.Proofs.Ytebfhomopdnkkaa
