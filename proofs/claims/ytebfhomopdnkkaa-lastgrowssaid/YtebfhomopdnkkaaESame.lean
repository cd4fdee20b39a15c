/-
  last.Same.
-/
import Derived.Test.YtebfhomopdnkkaaEWrite3
import Derived.Laws.StructEq
import Derived.ChangeKeysEq
import Derived.BigRegion
namespace Go.Proofs.Ytebfhomopdnkkaa
open Go.RowKit Go.Lib
set_option linter.unusedVariables false

def C.sameL (S T : C.La) : Bool := decide (S.x = T.x) && (decide (S.t = T.t) && (decide (S.r = T.r) && decide (S.n = T.n)))
theorem C.sameL_self (S : C.La) : C.sameL S S = true := by simp [C.sameL]
theorem eq_dot_in (a b c d : Int) (w : World) : (Op.equalIn 9999 31 (.agg #[.int .i64 a, .int .i64 b]) (.agg #[.int .i64 c, .int .i64 d])).run Try.prog w = .ok (a == c && b == d) w := by
  have u3 := Try.underlying2
  have a3' := Try.isAgg2
  have z3 := Try.sizeOf2
  have v3 := Try.underlying3
  have b3' := Try.isAgg3
  have y3 := Try.sizeOf3
  rw [show (9999 : Nat) = 9998 + 1 from rfl, Op.equalIn]
  simp only [Sem.run_bind, run_underlying Try.underlying31, Result.andThen_ok]
  go_simp
  repeat' split
  all_goals simp [*]
set_option maxRecDepth 100000 in
set_option maxHeartbeats 8000000 in
theorem eq4 (x y : ByteArray) (t r n u q m : Int) (w : World) : (Op.equalIn 10000 55 (.agg #[.string x, .int .i64 t, .int .i64 r, .int .i64 n]) (.agg #[.string y, .int .i64 u, .int .i64 q, .int .i64 m])).run Try.prog w = .ok (C.sameL ⟨x, t, r, n⟩ ⟨y, u, q, m⟩) w := by
  have hS : Try.prog.underlying 55 = some (.struct (Try.prog.fieldsOf 55)) := by kernel_rfl
  have hp : Try.prog.stoodInHeld 55 = false := by kernel_rfl
  have k1 := eq_dot_in r n q m
  have u3 := Try.underlying31
  have a3 := Try.isAgg31
  have z3 := Try.sizeOf31
  have u4 := Try.underlying2
  have a4 := Try.isAgg2
  have z4 := Try.sizeOf2
  have u5 := Try.underlying9
  have a5 := Try.isAgg9
  have z5 := Try.sizeOf9
  rw [show (10000 : Nat) = 9999 + 1 from rfl, run_equalIn_agg w 9999 55 _ _ hS hp]
  simp only [Program.fieldsOf, Try.underlying55]
  go_simp
  have hx : x.toList = y.toList ↔ x = y := by
    have h1 := txt_eq x y
    rw [Bool.eq_iff_iff, beq_iff_eq, decide_eq_true_eq] at h1
    exact h1
  simp only [hx]
  unfold C.sameL
  by_cases h1 : x = y <;> by_cases h2 : t = u <;> by_cases h3 : r = q <;> by_cases h4 : n = m <;> simp [h1, h2, h3, h4]
set_option maxRecDepth 100000 in
set_option maxHeartbeats 4000000 in
theorem esame_any (w : World) (g k : Nat) (S T : C.La) (h : EAt w g false S) (h2 : EAt w k false T) :
    Calls Try.prog 16 #[.pointer (some ⟨g, 0, none⟩), .pointer (some ⟨k, 0, none⟩)] w fun e w' => e = .returned (.bool (C.sameL S T)) ∧ Below w.heap.size w w' := by
  obtain ⟨x, t, r, n⟩ := S
  obtain ⟨y, u, q, m⟩ := T
  have hd := (Below.refl w.heap.size w).drew
  obtain ⟨y0, y1, y2, y3⟩ := cells4_at h
  obtain ⟨z0, z1, z2, z3⟩ := cells4_at h2
  have HT : Hid ((x.toList == y.toList) = decide (x = y)) := txt_eq x y
  have kE := eq4 x y t r n u q m
  generalize C.sameL ⟨x, t, r, n⟩ ⟨y, u, q, m⟩ = z at kE ⊢
  clear h h2
  go_enter Try.func16, Try.ntmps16
  go_wp2_with fail
  go_quiet (fail)
  go_wp2
  go_ret
  exact ⟨rfl, ⟨rfl, rfl, rfl, Nat.le_refl _, fun _ _ => rfl⟩⟩
end Go.Proofs.Ytebfhomopdnkkaa
