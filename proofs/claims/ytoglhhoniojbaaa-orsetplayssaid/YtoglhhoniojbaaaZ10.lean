/-
  Several texts in one: WPut, WGet, WAwake.
-/
import Derived.Test.YtoglhhoniojbaaaWNext2
import Derived.Test.YtoglhhoniojbaaaZ8
namespace Go.Proofs.Ytoglhhoniojbaaa
open Go.RowKit Go.Lib
set_option linter.unusedVariables false

theorem num_at (pb : Option Addr) (nb cb : Nat) (lb l' : List UInt8) (v : Int) (w : World) (hb : Is w pb nb cb lb) (hv : C.fits v) (hl : lb.length ≤ 90000) (hl' : l' = lb ++ C.num v) :
    Calls Try.prog 51 #[.slice pb nb cb, .int .i64 v] w fun e w' => (∃ p n c, e = .returned (.slice p n c) ∧ Is w' p n c l') ∧ Below w.heap.size w w' := by
  subst hl'; exact num_any pb nb cb lb v w hb hv hl
end Go.Proofs.Ytoglhhoniojbaaa

namespace Go.Proofs.Ytoglhhoniojbaaa
open Go.RowKit Go.Lib
set_option linter.unusedVariables false

theorem nb7 {w : World} {b : Nat} {x0 x1 x2 x3 x4 x5 x6 : Int} {t : TypeId} (h : w.heap[b]? = some (.cells #[.int .i64 x0, .int .i64 x1, .int .i64 x2, .int .i64 x3, .int .i64 x4, .int .i64 x5, .int .i64 x6] t)) : NB w b := by
  intro o x
  simp only [World.cell?, h]
  rcases o with _ | _ | _ | _ | _ | _ | _ | o <;> simp
theorem grown_set {w w1 : World} {g b k : Nat} {v : Value} (h : w.grownBy w1 (some g)) (hb : w.heap.size ≤ b) : w.grownBy (w1.setCell ⟨b, k, none⟩ v) (some g) :=
  ⟨h.os, h.tape, h.output, by have := h.size; simpa [World.setCell] using this, fun i hi hne => by rw [Below.heap_setCell _ _ _ _ (by show i ≠ b; omega)]; exact h.block i hi hne⟩
theorem size_set (w : World) (a : Addr) (v : Value) : (w.setCell a v).heap.size = w.heap.size := by simp [World.setCell]
theorem rnum_len' {s s' : Option (List UInt8)} {a b v : Int} (h : C.rnum s a b = (v, s')) (hl : (s.getD []).length ≤ 100000) : (s'.getD []).length ≤ 100000 := by
  have := rnum_len s a b
  rw [h] at this
  exact Nat.le_trans this hl
theorem sets7 (w : World) (b : Nat) (v0 v1 v2 v3 v4 v5 v6 : Value) : w.grownBy (((((((w.setCell ⟨b, 0, none⟩ v0).setCell ⟨b, 1, none⟩ v1).setCell ⟨b, 2, none⟩ v2).setCell ⟨b, 3, none⟩ v3).setCell ⟨b, 4, none⟩ v4).setCell ⟨b, 5, none⟩ v5).setCell ⟨b, 6, none⟩ v6) (some b) :=
  gtrans (gtrans (gtrans (gtrans (gtrans (gtrans (set_grown _ _ _ _) (set_grown _ _ _ _)) (set_grown _ _ _ _)) (set_grown _ _ _ _)) (set_grown _ _ _ _)) (set_grown _ _ _ _)) (set_grown _ _ _ _)
theorem getV_eq {s s0 s1 s2 s3 s4 s5 s6 : Option (List UInt8)} {x0 x1 x2 x3 x4 x5 x6 : Int} (h0 : C.rnum s 0 1099511627776 = (x0, s0)) (h1 : C.rnum s0 0 1099511627776 = (x1, s1)) (h2 : C.rnum s1 0 1099511627776 = (x2, s2)) (h3 : C.rnum s2 0 1099511627776 = (x3, s3)) (h4 : C.rnum s3 0 1099511627776 = (x4, s4)) (h5 : C.rnum s4 0 1099511627776 = (x5, s5)) (h6 : C.rnum s5 0 1099511627776 = (x6, s6)) :
    C.getV s = (if s6.isNone then zero7 else ⟨x0, x1, x2, x3, x4, x5, x6⟩, s6) := by
  have e : C.getN s 1099511627776 = (⟨x0, x1, x2, x3, x4, x5, x6⟩, s6) := by
    simp only [C.getN, h0, h1, h2, h3, h4, h5, h6]
  unfold C.getV
  rw [e]
  cases s6 <;> rfl
end Go.Proofs.Ytoglhhoniojbaaa

namespace Go.Proofs.Ytoglhhoniojbaaa
open Go.RowKit Go.Lib
set_option linter.unusedVariables false

theorem merge_at {a b c : V7} (h : C.mrg a b = c) (w : World) : Calls Try.prog 31 #[a.v, b.v] w fun e w' => e = .returned c.v ∧ Below w.heap.size w w' := by
  have := merge_any a b w; rw [h] at this; exact this
theorem le_at {a b : V7} {x : Bool} (h : C.le a b = x) (w : World) : Calls Try.prog 29 #[a.v, b.v] w fun e w' => e = .returned (.bool x) ∧ Below w.heap.size w w' := by
  have := le_any a b w; rw [h] at this; exact this
theorem has_at {a : V7} {r n : Int} {x : Bool} (h : C.has a r n = x) (w : World) : Calls Try.prog 28 #[a.v, .agg #[.int .i64 r, .int .i64 n]] w fun e w' => e = .returned (.bool x) ∧ Below w.heap.size w w' := by
  have := has_any a r n w; rw [h] at this; exact this
theorem eq_vec {a b : V7} {x : Bool} (h : C.same a b = x) (w : World) : (Op.equalIn 10000 28 a.v b.v).run Try.prog w = .ok x w := by
  rw [eq7_vec, h]
set_option maxRecDepth 100000 in
set_option maxHeartbeats 4000000 in
theorem eq2_dot (a b c d : Int) (w : World) : (Op.equalIn 10000 31 (.agg #[.int .i64 a, .int .i64 b]) (.agg #[.int .i64 c, .int .i64 d])).run Try.prog w = .ok (a == c && b == d) w := by
  have u3 := Try.underlying2
  have a3 := Try.isAgg2
  have z3 := Try.sizeOf2
  have u4 := Try.underlying3
  have a4 := Try.isAgg3
  have z4 := Try.sizeOf3
  have hS : Try.prog.underlying 31 = some (.struct (Try.prog.fieldsOf 31)) := by kernel_rfl
  have hp : Try.prog.stoodInHeld 31 = false := by kernel_rfl
  rw [show (10000 : Nat) = 9999 + 1 from rfl, run_equalIn_agg w 9999 31 _ _ hS hp]
  simp only [Program.fieldsOf, Try.underlying31]
  go_simp
  by_cases h1 : a = c <;> by_cases h2 : b = d <;> simp [h1, h2]
end Go.Proofs.Ytoglhhoniojbaaa
