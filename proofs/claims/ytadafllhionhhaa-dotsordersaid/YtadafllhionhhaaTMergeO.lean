/-
  Merge among some dots beside each other.
-/
import Derived.Test.YtadafllhionhhaaTMerge
import Derived.Test.YtadafllhionhhaaKOrder
namespace Go.Proofs.Ytadafllhionhhaa
open Go.RowKit Go.Lib
set_option linter.unusedVariables false

theorem o_merge (L1 L2 : List DObj) {w0 w : World} (g : Nat) (v : Value) (s s' : C.Ds) (o2 : DObj) (h : Objs w0 w (L1 ++ ⟨g, v, s⟩ :: L2)) (ho : o2 ∈ L1 ++ ⟨g, v, s⟩ :: L2) (hl : s.l.length + o2.s.l.length ≤ 1000) (hs : C.mergeS s o2.s = s') :
    Calls Try.prog 24 #[.pointer (some ⟨g, 0, none⟩), .pointer (some ⟨o2.g, 0, none⟩)] w fun e w' => e = .returned (.int .i64 0) ∧ ∃ v', Objs w0 w' (L1 ++ ⟨g, v', s'⟩ :: L2) := by
  subst hs
  obtain ⟨h1, h2⟩ := h.get
  obtain ⟨h3, h4, _⟩ := h.at_ o2 ho
  refine (merge_any8 w g o2.g s o2.s v o2.v h1 h3 h2 h4 hl).mono ?_
  rintro e w' ⟨rfl, hr⟩
  exact ⟨rfl, h.step (C.merge_ok h2 h4) hr⟩
theorem merge_does : MergeDoes := fun L1 L2 w0 w g v s s' o2 h ho hl hs => o_merge L1 L2 g v s s' o2 h ho hl hs
theorem order_all (pa : Option Addr) (lena ca : Nat) (pb : Option Addr) (lenb cb : Nat) (w : World) (hla : lena ≤ ca) (hca : ca ≤ maxLen)
    (V : Nat → Nat → Value) (hV : 0 < lena → ∃ b o, pa = some ⟨b, o, none⟩ ∧ ∀ i j, i < lena → j < 2 → w.cell? ⟨b, o + i * 2 + j, none⟩ = some (V i j)) (hI : ∀ i j, i < lena → j < 2 → ∃ z, V i j = .int .i64 z ∧ (Lit.int .i64 z).wf = true)
    (hlb : lenb ≤ cb) (hcb : cb ≤ maxLen)
    (V' : Nat → Nat → Value) (hV' : 0 < lenb → ∃ b o, pb = some ⟨b, o, none⟩ ∧ ∀ i j, i < lenb → j < 2 → w.cell? ⟨b, o + i * 2 + j, none⟩ = some (V' i j)) (hI' : ∀ i j, i < lenb → j < 2 → ∃ z, V' i j = .int .i64 z ∧ (Lit.int .i64 z).wf = true) :
    Calls Try.prog 6 #[.slice pa lena ca, .slice pb lenb cb] w fun e w' => e = .returned (.bool true) ∧ Below w.heap.size w w' := by
  obtain ⟨l, rfl, ha⟩ := argD_of w pa lena V hV hI
  obtain ⟨m, rfl, hb⟩ := argD_of w pb lenb V' hV' hI'
  exact order_walk merge_does pa l ca pb m cb w ha (Nat.le_trans hla hca) hb (Nat.le_trans hlb hcb)
end Go.Proofs.Ytadafllhionhhaa
