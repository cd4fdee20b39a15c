/-
  What the laws' walks share.
-/
import Derived.Test.YtebfhomopdnkkaaWAwake
namespace Go.Proofs.Ytebfhomopdnkkaa
open Go.RowKit Go.Lib
set_option linter.unusedVariables false

/-- A row of bytes just laid. -/
theorem is_new (w : World) (l : List UInt8) (vs : Array Value) (n c : Nat) (m : Nat × Nat) (hv : vs = (l.map fun b => Value.int .u8 (b.toNat : Nat)).toArray) (hn : n = l.length) (hl : l.length ≤ maxLen) : Is (w.alloc (.cells vs 5 m)) (some ⟨w.heap.size, 0, none⟩) n c l := by
  subst hv; exact ⟨hn, hl, bat_new w l 5 m⟩
theorem read_at (w : World) (p : Option Addr) (n c : Nat) (l : List UInt8) (h : Is w p n c l) (hl : l.length ≤ 100000) :
    Calls Try.prog 14 #[.slice p n c] w fun e w' => (∃ g p' n' c', e = .returned (.pointer (some ⟨g, 0, none⟩)) ∧ w.heap.size ≤ g ∧ g < w'.heap.size ∧ Rd w' g (some l) p' n' c') ∧ Below w.heap.size w w' := by
  refine (read_any w p n c l h hl).mono ?_
  rintro e w' ⟨⟨g, p', n', c', rfl, hg, hr⟩, hb⟩
  exact ⟨⟨g, p', n', c', rfl, hg, hr.lt, hr⟩, hb⟩
theorem read_new (w : World) (l : List UInt8) (vs : Array Value) (B n c : Nat) (hB : B = w.heap.size) (hv : vs = (l.map fun b => Value.int .u8 (b.toNat : Nat)).toArray) (hn : n = l.length) (hl : l.length ≤ 100000) :
    Calls Try.prog 14 #[.slice (some ⟨B, 0, none⟩) n c] (w.alloc (.cells vs 5)) fun e w' => (∃ g p' n' c', e = .returned (.pointer (some ⟨g, 0, none⟩)) ∧ w.heap.size ≤ g ∧ g < w'.heap.size ∧ Rd w' g (some l) p' n' c') ∧ Below w.heap.size w w' := by
  subst hB
  refine (read_any _ _ n c l (is_new w l vs n c _ hv hn (Nat.le_trans hl (by decide))) hl).mono ?_
  rintro e w' ⟨⟨g, p', n', c', rfl, hg, hr⟩, hb⟩
  exact ⟨⟨g, p', n', c', rfl, Nat.le_trans (below_new w _).size hg, hr.lt, hr⟩, bt (below_new w _) hb⟩
theorem fits_of_wf {a : Int} (h : (Lit.int .i64 a).wf = true) : C.fits a := by
  have h1 : IntKind.i64.min = -9223372036854775808 := rfl
  have h2 : IntKind.i64.max = 9223372036854775807 := rfl
  simp only [Lit.wf, Bool.and_eq_true, decide_eq_true_eq] at h
  exact ⟨by omega, by omega⟩
/-- A reader of a call's own, beside what else was there. -/
theorem below_g {W w w' : World} {g : Nat} (hb : Below W.heap.size W w) (hg : w.grownBy w' (some g)) (h : W.heap.size ≤ g) : Below W.heap.size W w' := hb.grown hg hb.size (fun k hk => by cases hk; exact h)
theorem gdrew (w : World) (g : Nat) : w.grownBy w.drew (some g) := gbelow (Below.refl _ _).drew
theorem kept_block {w w' : World} {X : Obj} (h : Below (w.alloc X).heap.size (w.alloc X) w') : w'.heap[w.heap.size]? = some X := by
  rw [h.block _ (by simp)]; exact heap_alloc_new _ _
theorem keep_on {w w' : World} {b : Nat} {X : Obj} (h : Below w.heap.size w w') (hb : w.heap[b]? = some X) : w'.heap[b]? = some X := by
  rw [h.block b (Array.getElem?_eq_some_iff.1 hb).1]; exact hb
theorem good_fits {a : V7} (h : C.good a = true) : C.fits7 a := by
  have := (C.good_iff a).1 h
  unfold C.fits7 C.fits
  omega
end Go.Proofs.Ytebfhomopdnkkaa
