/-
  tally.Same.
-/
import Derived.Test.YtnkfabonggofgaaYRead
import Derived.BigRegion
namespace Go.Proofs.Ytnkfabonggofgaa
open Go.RowKit Go.Lib
set_option linter.unusedVariables false

def V14 (u d : V7) : Value := .agg (cells14 u d)
set_option maxRecDepth 100000 in
set_option maxHeartbeats 8000000 in
theorem eq7_in (a b : V7) (w : World) : (Op.equalIn 9999 49 a.v b.v).run Try.prog w = .ok (C.same a b) w := by
  obtain ⟨a0, a1, a2, a3, a4, a5, a6⟩ := a
  obtain ⟨b0, b1, b2, b3, b4, b5, b6⟩ := b
  simp only [V7.v, C.same]
  have u3 := Try.underlying2
  have a3' := Try.isAgg2
  have z3 := Try.sizeOf2
  rw [show (9999 : Nat) = 9998 + 1 from rfl, Op.equalIn]
  simp only [Sem.run_bind, run_underlying Try.underlying49, Result.andThen_ok]
  simp only [Std.Legacy.Range.forIn_eq_forIn_range', Std.Legacy.Range.size, Nat.sub_zero, Nat.add_sub_cancel, Nat.div_one, List.range'_succ, List.range'_zero, List.forIn_cons, List.forIn_nil]
  go_simp
  repeat' split
  all_goals simp [*]
set_option maxRecDepth 100000 in
set_option maxHeartbeats 8000000 in
theorem eq14 (a b c d : V7) (w : World) : (Op.equalIn 10000 51 (V14 a b) (V14 c d)).run Try.prog w = .ok (C.same a c && C.same b d) w := by
  obtain ⟨a0, a1, a2, a3, a4, a5, a6⟩ := a
  obtain ⟨b0, b1, b2, b3, b4, b5, b6⟩ := b
  obtain ⟨c0, c1, c2, c3, c4, c5, c6⟩ := c
  obtain ⟨d0, d1, d2, d3, d4, d5, d6⟩ := d
  simp only [V14, cells14]
  have hS : Try.prog.underlying 51 = some (.struct (Try.prog.fieldsOf 51)) := by kernel_rfl
  have hp : Try.prog.stoodInHeld 51 = false := by kernel_rfl
  have k1 := eq7_in ⟨a0, a1, a2, a3, a4, a5, a6⟩ ⟨c0, c1, c2, c3, c4, c5, c6⟩
  have k2 := eq7_in ⟨b0, b1, b2, b3, b4, b5, b6⟩ ⟨d0, d1, d2, d3, d4, d5, d6⟩
  generalize C.same ⟨a0, a1, a2, a3, a4, a5, a6⟩ ⟨c0, c1, c2, c3, c4, c5, c6⟩ = x at *
  generalize C.same ⟨b0, b1, b2, b3, b4, b5, b6⟩ ⟨d0, d1, d2, d3, d4, d5, d6⟩ = y at *
  have u3 := Try.underlying49
  have a3 := Try.isAgg49
  have z3 := Try.sizeOf49
  rw [show (10000 : Nat) = 9999 + 1 from rfl, run_equalIn_agg w 9999 51 _ _ hS hp]
  simp only [Program.fieldsOf, Try.underlying51]
  go_simp
  try simp only [V7.v] at k1 k2
  refine (congrArg (fun r => Result.andThen r _) (k1 w)).trans ?_
  cases x
  · rfl
  · simp only [Result.andThen_ok, Bool.true_eq_false, if_false]
    refine (congrArg (fun r => Result.andThen r _) (k2 w)).trans ?_
    cases y <;> rfl
theorem eq14_at {S T : C.Ta} {x : Bool} (h : C.sameT S T = x) (w : World) : (Op.equalIn 10000 51 (V14 S.u S.d) (V14 T.u T.d)).run Try.prog w = .ok x w := by rw [eq14, ← h]; rfl
set_option maxRecDepth 100000 in
set_option maxHeartbeats 4000000 in
theorem same_any (w : World) (g k : Nat) (S T : C.Ta) (x : Bool) (h : TaAt w g 51 S) (h2 : TaAt w k 51 T) (hx : C.sameT S T = x) :
    Calls Try.prog 23 #[.pointer (some ⟨g, 0, none⟩), .pointer (some ⟨k, 0, none⟩)] w fun e w' => e = .returned (.bool x) ∧ Below w.heap.size w w' := by
  have kE := eq14_at hx
  obtain ⟨⟨u0, u1, u2, u3, u4, u5, u6⟩, ⟨d0, d1, d2, d3, d4, d5, d6⟩⟩ := S
  obtain ⟨⟨p0, p1, p2, p3, p4, p5, p6⟩, ⟨q0, q1, q2, q3, q4, q5, q6⟩⟩ := T
  have hd := (Below.refl w.heap.size w).drew
  obtain ⟨y0, y1, y2, y3, y4, y5, y6, y7, y8, y9, y10, y11, y12, y13⟩ := cells14_at h
  obtain ⟨z0, z1, z2, z3, z4, z5, z6, z7, z8, z9, z10, z11, z12, z13⟩ := cells14_at h2
  clear h h2 hx
  simp only [V14, cells14] at kE
  go_enter Try.func23, Try.ntmps23
  go_wp2_with fail
  go_quiet (fail)
  go_wp2
  go_ret
  exact ⟨rfl, ⟨rfl, rfl, rfl, Nat.le_refl _, fun _ _ => rfl⟩⟩
end Go.Proofs.Ytnkfabonggofgaa
