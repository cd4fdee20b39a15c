/-
  tally.Tally: Value, Up, Down, Same.
-/
import Derived.Test.YtnkfabonggofgaaYObj
import Derived.Laws.StructEq
import Derived.ChangeKeysEq
namespace Go.Proofs.Ytnkfabonggofgaa
open Go.RowKit Go.Lib
set_option linter.unusedVariables false

set_option maxRecDepth 100000 in
set_option maxHeartbeats 4000000 in
theorem value_any (w : World) (g : Nat) (T : C.Ta) (z : Int) (h : TaAt w g 51 T) (hT : T.Ok) (hz : C.valT T = z) :
    Calls Try.prog 10 #[.pointer (some ⟨g, 0, none⟩)] w fun e w' => e = .returned (.int .i64 z) ∧ w' = w := by
  obtain ⟨⟨u0, u1, u2, u3, u4, u5, u6⟩, ⟨d0, d1, d2, d3, d4, d5, d6⟩⟩ := T
  obtain ⟨y0, y1, y2, y3, y4, y5, y6, y7, y8, y9, y10, y11, y12, y13⟩ := cells14_at h
  have hu := hT.u
  have hd := hT.d
  unfold C.ok50 at hu hd
  simp only at hu hd
  have HZ : Hid (z = (u0 - d0) + (u1 - d1) + (u2 - d2) + (u3 - d3) + (u4 - d4) + (u5 - d5) + (u6 - d6)) := by show z = _; rw [← hz]; unfold C.valT; simp only
  clear h hT hz
  obtain ⟨i0, i1, i2, i3, i4, i5, i6⟩ := idx7 u0 u1 u2 u3 u4 u5 u6
  go_enter Try.func10, Try.ntmps10
  go_wp2
  refine wp_loop_rounds 8 ?_
  repeat (rw [rounds_succ]; go_wp2)
  go_ret
  exact ⟨by rw [HZ.out]; rfl, rfl⟩
set_option maxHeartbeats 4000000 in
theorem up_any (w : World) (g : Nat) (T : C.Ta) (h : TaAt w g 51 T) :
    Calls Try.prog 15 #[.pointer (some ⟨g, 0, none⟩)] w fun e w' => e = .returned T.u.v ∧ Below w.heap.size w w' := by
  obtain ⟨⟨u0, u1, u2, u3, u4, u5, u6⟩, ⟨d0, d1, d2, d3, d4, d5, d6⟩⟩ := T
  obtain ⟨y0, y1, y2, y3, y4, y5, y6, y7, y8, y9, y10, y11, y12, y13⟩ := cells14_at (h.below (below_new w (.cells #[.int .i64 0, .int .i64 0, .int .i64 0, .int .i64 0, .int .i64 0, .int .i64 0, .int .i64 0] 35)))
  clear h
  simp only [V7.v]
  go_enter Try.func15, Try.ntmps15
  go_wp2
  refine bodyPost_ret (v := .agg #[.int .i64 u0, .int .i64 u1, .int .i64 u2, .int .i64 u3, .int .i64 u4, .int .i64 u5, .int .i64 u6]) (by simp [results, Try.results15, go_sem]) rfl ⟨rfl, ?_⟩
  repeat' (refine Below.setCell ?_ (Nat.le_refl _) _)
  exact below_new _ _
set_option maxHeartbeats 4000000 in
theorem down_any (w : World) (g : Nat) (T : C.Ta) (h : TaAt w g 51 T) :
    Calls Try.prog 16 #[.pointer (some ⟨g, 0, none⟩)] w fun e w' => e = .returned T.d.v ∧ Below w.heap.size w w' := by
  obtain ⟨⟨u0, u1, u2, u3, u4, u5, u6⟩, ⟨d0, d1, d2, d3, d4, d5, d6⟩⟩ := T
  obtain ⟨y0, y1, y2, y3, y4, y5, y6, y7, y8, y9, y10, y11, y12, y13⟩ := cells14_at (h.below (below_new w (.cells #[.int .i64 0, .int .i64 0, .int .i64 0, .int .i64 0, .int .i64 0, .int .i64 0, .int .i64 0] 35)))
  clear h
  simp only [V7.v]
  go_enter Try.func16, Try.ntmps16
  go_wp2
  refine bodyPost_ret (v := .agg #[.int .i64 d0, .int .i64 d1, .int .i64 d2, .int .i64 d3, .int .i64 d4, .int .i64 d5, .int .i64 d6]) (by simp [results, Try.results16, go_sem]) rfl ⟨rfl, ?_⟩
  repeat' (refine Below.setCell ?_ (Nat.le_refl _) _)
  exact below_new _ _
set_option maxRecDepth 100000 in
set_option maxHeartbeats 4000000 in
theorem eq7_arr (a b : V7) (w : World) : (Op.equalIn 10000 35 a.v b.v).run Try.prog w = .ok (C.same a b) w := by
  obtain ⟨a0, a1, a2, a3, a4, a5, a6⟩ := a
  obtain ⟨b0, b1, b2, b3, b4, b5, b6⟩ := b
  simp only [V7.v, C.same]
  have u3 := Try.underlying2
  have a3' := Try.isAgg2
  have z3 := Try.sizeOf2
  rw [show (10000 : Nat) = 9999 + 1 from rfl, Op.equalIn]
  simp only [Sem.run_bind, run_underlying Try.underlying35, Result.andThen_ok]
  simp only [Std.Legacy.Range.forIn_eq_forIn_range', Std.Legacy.Range.size, Nat.sub_zero, Nat.add_sub_cancel, Nat.div_one, List.range'_succ, List.range'_zero, List.forIn_cons, List.forIn_nil]
  go_simp
  repeat' split
  all_goals simp [*]
theorem eq7_arrs {a b : V7} {x : Bool} (h : C.same a b = x) (w : World) : (Op.equalIn 10000 35 a.v b.v).run Try.prog w = .ok x w := by rw [eq7_arr, h]
end Go.Proofs.Ytnkfabonggofgaa
