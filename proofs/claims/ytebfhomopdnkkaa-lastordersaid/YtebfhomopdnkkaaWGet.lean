/-
  vec.Get.
-/
import Derived.Test.YtebfhomopdnkkaaWPut
namespace Go.Proofs.Ytebfhomopdnkkaa
open Go.RowKit Go.Lib
set_option linter.unusedVariables false

theorem nb7 {w : World} {b : Nat} {x0 x1 x2 x3 x4 x5 x6 : Int} {t : TypeId} (h : w.heap[b]? = some (.cells #[.int .i64 x0, .int .i64 x1, .int .i64 x2, .int .i64 x3, .int .i64 x4, .int .i64 x5, .int .i64 x6] t)) : NB w b := by
  intro o x
  simp only [World.cell?, h]
  rcases o with _ | _ | _ | _ | _ | _ | _ | o <;> simp
theorem grown_set {w w1 : World} {g b k : Nat} {v : Value} (h : w.grownBy w1 (some g)) (hb : w.heap.size ≤ b) : w.grownBy (w1.setCell ⟨b, k, none⟩ v) (some g) :=
  ⟨h.os, h.tape, h.output, by have := h.size; simpa [World.setCell] using this, fun i hi hne => by rw [Below.heap_setCell _ _ _ _ (by show i ≠ b; omega)]; exact h.block i hi hne⟩
theorem size_set (w : World) (a : Addr) (v : Value) : (w.setCell a v).heap.size = w.heap.size := by simp [World.setCell]
/-- A number is stored into a block beside the reader. -/
theorem get_round {w1 : World} {g b k : Nat} {s : Option (List UInt8)} {p : Option Addr} {n c : Nat} {v : Int} {x0 x1 x2 x3 x4 x5 x6 : Int} {t : TypeId} (hR : Rd w1 g s p n c)
    (hq : w1.heap[b]? = some (.cells #[.int .i64 x0, .int .i64 x1, .int .i64 x2, .int .i64 x3, .int .i64 x4, .int .i64 x5, .int .i64 x6] t)) (hne : g ≠ b) : Rd (w1.setCell ⟨b, k, none⟩ (.int .i64 v)) g s p n c :=
  hR.kept (set_grown w1 b k _) (nb7 hq) hne
theorem rnum_len' {s s' : Option (List UInt8)} {a b v : Int} (h : C.rnum s a b = (v, s')) (hl : (s.getD []).length ≤ 100000) : (s'.getD []).length ≤ 100000 := by
  have := rnum_len s a b
  rw [h] at this
  exact Nat.le_trans this hl
theorem sets7 (w : World) (b : Nat) (v0 v1 v2 v3 v4 v5 v6 : Value) : w.grownBy (((((((w.setCell ⟨b, 0, none⟩ v0).setCell ⟨b, 1, none⟩ v1).setCell ⟨b, 2, none⟩ v2).setCell ⟨b, 3, none⟩ v3).setCell ⟨b, 4, none⟩ v4).setCell ⟨b, 5, none⟩ v5).setCell ⟨b, 6, none⟩ v6) (some b) :=
  gtrans (gtrans (gtrans (gtrans (gtrans (gtrans (set_grown _ _ _ _) (set_grown _ _ _ _)) (set_grown _ _ _ _)) (set_grown _ _ _ _)) (set_grown _ _ _ _)) (set_grown _ _ _ _)) (set_grown _ _ _ _)
theorem getV_eq {s s0 s1 s2 s3 s4 s5 s6 : Option (List UInt8)} {x0 x1 x2 x3 x4 x5 x6 : Int} (h0 : C.rnum s 0 1099511627776 = (x0, s0)) (h1 : C.rnum s0 0 1099511627776 = (x1, s1)) (h2 : C.rnum s1 0 1099511627776 = (x2, s2)) (h3 : C.rnum s2 0 1099511627776 = (x3, s3)) (h4 : C.rnum s3 0 1099511627776 = (x4, s4)) (h5 : C.rnum s4 0 1099511627776 = (x5, s5)) (h6 : C.rnum s5 0 1099511627776 = (x6, s6)) :
    C.getV s = (if s6.isNone then zero7 else ⟨x0, x1, x2, x3, x4, x5, x6⟩, s6) := by
  have e : C.getN s 1099511627776 = (⟨x0, x1, x2, x3, x4, x5, x6⟩, s6) := by
    simp only [C.getN, h0, h1, h2, h3, h4, h5, h6]
  unfold C.getV
  rw [e]
  cases s6 <;> rfl
end Go.Proofs.Ytebfhomopdnkkaa
