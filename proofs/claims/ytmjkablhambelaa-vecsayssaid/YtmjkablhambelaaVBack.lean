/-
  What is written of clocks is read again.
-/
import Derived.Test.YtmjkablhambelaaWLaw
namespace Go.Proofs.Ytmjkablhambelaa
open Go.RowKit Go.Lib

theorem getV_bytes {a : V7} (h : C.good a = true) (r : List UInt8) : C.getV (some (C.vbytes a ++ r)) = (a, some r) := by
  have hg := (C.good_iff a).1 h
  obtain ⟨x0, x1, x2, x3, x4, x5, x6⟩ := a
  simp only at hg
  have f : ∀ x : Int, 0 ≤ x ∧ x ≤ 1099511627776 → C.fits x := fun x hx => ⟨by omega, by omega⟩
  have n : ∀ (x : Int) (l : List UInt8), 0 ≤ x ∧ x ≤ 1099511627776 → C.rnum (some (C.num x ++ l)) 0 1099511627776 = (x, some l) := fun x l hx => C.rnum_num (f x hx) hx.1 hx.2 l
  simp only [C.vbytes, List.append_assoc]
  rw [getV_eq (n x0 _ hg.1) (n x1 _ hg.2.1) (n x2 _ hg.2.2.1) (n x3 _ hg.2.2.2.1) (n x4 _ hg.2.2.2.2.1) (n x5 _ hg.2.2.2.2.2.1) (n x6 _ hg.2.2.2.2.2.2)]
  rfl
theorem vbytes_inj {a b : V7} (ha : C.good a = true) (hb : C.good b = true) (h : C.vbytes a = C.vbytes b) : a = b := by
  have h1 := getV_bytes ha []
  have h2 := getV_bytes hb []
  rw [h, h2] at h1
  exact (Prod.mk.inj h1).1.symm
theorem vbytes_len {a : V7} (h : C.fits7 a) : (C.vbytes a).length ≤ 70 := by
  have := (C.num_ten h.1).2
  have := (C.num_ten h.2.1).2
  have := (C.num_ten h.2.2.1).2
  have := (C.num_ten h.2.2.2.1).2
  have := (C.num_ten h.2.2.2.2.1).2
  have := (C.num_ten h.2.2.2.2.2.1).2
  have := (C.num_ten h.2.2.2.2.2.2).2
  simp only [C.vbytes, List.length_append]
  omega
end Go.Proofs.Ytmjkablhambelaa
