/-
  Several texts in one: YAdd, YRead, YSame, YMerge.
-/
import Derived.Test.YtnkfabonggofgaaYObj
import Derived.Laws.StructEq
import Derived.ChangeKeysEq
import Derived.BigRegion
import Derived.Deep.RegionWith
namespace Go.Proofs.Ytnkfabonggofgaa
open Go.RowKit Go.Lib
set_option linter.unusedVariables false

theorem bad_cases {r b : Int} (h : C.argBad r b = true) : r < 0 ∨ (0 ≤ r ∧ 6 < r) ∨ (0 ≤ r ∧ r ≤ 6 ∧ b < -1099511627776) ∨ (0 ≤ r ∧ r ≤ 6 ∧ -1099511627776 ≤ b ∧ 1099511627776 < b) := by
  simp only [C.argBad, Bool.or_eq_true, decide_eq_true_eq] at h; omega
theorem bad_not {r b : Int} (h : C.argBad r b = false) : 0 ≤ r ∧ r ≤ 6 ∧ -1099511627776 ≤ b ∧ b ≤ 1099511627776 := by
  simp only [C.argBad, Bool.or_eq_false_iff, decide_eq_false_iff_not] at h; omega
set_option maxHeartbeats 2000000 in
theorem add_bad (w : World) (g : Nat) (r b : Int) (h : C.argBad r b = true) :
    Calls Try.prog 9 #[.pointer (some ⟨g, 0, none⟩), .int .i64 r, .int .i64 b] w fun e w' => e = .returned (.int .i64 1) ∧ w' = w := by
  rcases bad_cases h with h1 | ⟨h0, h1⟩ | ⟨h0, h2, h1⟩ | ⟨h0, h2, h3, h1⟩
  all_goals
    clear h
    go_enter Try.func9, Try.ntmps9
    go_wp2
    go_ret
    exact ⟨rfl, rfl⟩
set_option maxHeartbeats 2000000 in
theorem add_any (w : World) (g : Nat) (T : C.Ta) (r b : Int) (h : TaAt w g 51 T) (hT : T.Ok) :
    Calls Try.prog 9 #[.pointer (some ⟨g, 0, none⟩), .int .i64 r, .int .i64 b] w fun e w' => e = .returned (.int .i64 (C.errT T r b)) ∧ TaAt w' g 51 (C.addT T r b) ∧ Turn w w' (fun x => x = g) := by
  have H : Hid (TaAt w g 51 T) := h
  cases hbad : C.argBad r b with
  | true =>
    refine (add_bad w g r b hbad).mono ?_
    rintro e w' ⟨rfl, rfl⟩
    unfold C.errT C.addT
    rw [if_pos hbad, if_pos hbad]
    exact ⟨rfl, H.out, Turn.refl _ _⟩
  | false =>
    obtain ⟨h0, h6, hb1, hb2⟩ := bad_not hbad
    obtain ⟨k, rfl⟩ := Int.eq_ofNat_of_zero_le h0
    have hk : k < 7 := by omega
    have HBAD : Hid (C.argBad (k : Int) b = false) := hbad
    clear hbad h0 h6
    by_cases hneg : b < 0
    · have hx := C.ok50_at hT.d k
      have hc := h.dn hk
      have hf := h.fz (7 + k)
      have HE : Hid (∀ x, C.at7 T.d k = x → C.errT T k b = (if 1125899906842624 < x - b then 2 else 0) ∧ C.addT T k b = (if 1125899906842624 < x - b then T else ⟨T.u, C.set7 T.d k (x - b)⟩)) := by
        intro x hx
        refine ⟨?_, ?_⟩ <;> simp only [C.errT, C.addT, HBAD.out, Bool.false_eq_true, if_false, hneg, if_true, Int.toNat_natCast, hx]
      generalize hxx : C.at7 T.d k = x at hx hc
      obtain ⟨E1, E2⟩ := HE.out x hxx
      rw [E1, E2]
      clear E1 E2 hxx h
      by_cases hl : 1125899906842624 < x - b
      · rw [if_pos hl, if_pos hl]
        have HC : Hid _ := count_lim w g (7 + k) x (-b) hc hx (by omega) (by omega)
        clear hl hc hf
        go_enter Try.func9, Try.ntmps9
        go_wp2_with fail
        refine Calls.mono HC.out ?_
        rintro e w1 ⟨rfl, hw⟩
        subst hw
        go_wp2
        go_ret
        exact ⟨rfl, H.out, Turn.refl _ _⟩
      · rw [if_neg hl, if_neg hl]
        have HC : Hid _ := count_ok w g (7 + k) x (-b) hc hf hx (by omega) (by omega)
        clear hl hc hf
        go_enter Try.func9, Try.ntmps9
        go_wp2_with fail
        refine Calls.mono HC.out ?_
        rintro e w1 ⟨rfl, hw⟩
        subst hw
        go_wp2
        go_ret
        refine ⟨rfl, ?_, Turn.setCell (S := fun x => x = g) (Turn.refl w _) rfl _⟩
        have := set_block (o := 7 + k) (v := .int .i64 (x + -b)) H.out
        rw [set_d14 _ _ hk] at this
        exact this
    · have hx := C.ok50_at hT.u k
      have hc := h.up hk
      have hf := h.fz k
      have HE : Hid (∀ x, C.at7 T.u k = x → C.errT T k b = (if 1125899906842624 < x + b then 2 else 0) ∧ C.addT T k b = (if 1125899906842624 < x + b then T else ⟨C.set7 T.u k (x + b), T.d⟩)) := by
        intro x hx
        refine ⟨?_, ?_⟩ <;> simp only [C.errT, C.addT, HBAD.out, Bool.false_eq_true, if_false, hneg, Int.toNat_natCast, hx]
      generalize hxx : C.at7 T.u k = x at hx hc
      obtain ⟨E1, E2⟩ := HE.out x hxx
      rw [E1, E2]
      clear E1 E2 hxx h
      by_cases hl : 1125899906842624 < x + b
      · rw [if_pos hl, if_pos hl]
        have HC : Hid _ := count_lim w g k x b hc hx (by omega) (by omega)
        clear hl hc hf
        go_enter Try.func9, Try.ntmps9
        go_wp2_with fail
        refine Calls.mono HC.out ?_
        rintro e w1 ⟨rfl, hw⟩
        subst hw
        go_wp2
        go_ret
        exact ⟨rfl, H.out, Turn.refl _ _⟩
      · rw [if_neg hl, if_neg hl]
        have HC : Hid _ := count_ok w g k x b hc hf hx (by omega) (by omega)
        clear hl hc hf
        go_enter Try.func9, Try.ntmps9
        go_wp2_with fail
        refine Calls.mono HC.out ?_
        rintro e w1 ⟨rfl, hw⟩
        subst hw
        go_wp2
        go_ret
        refine ⟨rfl, ?_, Turn.setCell (S := fun x => x = g) (Turn.refl w _) rfl _⟩
        have := set_block (o := k) (v := .int .i64 (x + b)) H.out
        rw [set_u14 _ _ hk] at this
        exact this
end Go.Proofs.Ytnkfabonggofgaa

namespace Go.Proofs.Ytnkfabonggofgaa
open Go.RowKit Go.Lib
set_option linter.unusedVariables false

set_option maxRecDepth 100000 in
set_option maxHeartbeats 4000000 in
theorem value_any (w : World) (g : Nat) (T : C.Ta) (z : Int) (h : TaAt w g 51 T) (hT : T.Ok) (hz : C.valT T = z) :
    Calls Try.prog 10 #[.pointer (some ⟨g, 0, none⟩)] w fun e w' => e = .returned (.int .i64 z) ∧ w' = w := by
  obtain ⟨⟨u0, u1, u2, u3, u4, u5, u6⟩, ⟨d0, d1, d2, d3, d4, d5, d6⟩⟩ := T
  obtain ⟨y0, y1, y2, y3, y4, y5, y6, y7, y8, y9, y10, y11, y12, y13⟩ := cells14_at h
  have hu := hT.u
  have hd := hT.d
  unfold C.ok50 at hu hd
  simp only at hu hd
  have HZ : Hid (z = (u0 - d0) + (u1 - d1) + (u2 - d2) + (u3 - d3) + (u4 - d4) + (u5 - d5) + (u6 - d6)) := by show z = _; rw [← hz]; unfold C.valT; simp only
  clear h hT hz
  obtain ⟨i0, i1, i2, i3, i4, i5, i6⟩ := idx7 u0 u1 u2 u3 u4 u5 u6
  go_enter Try.func10, Try.ntmps10
  go_wp2
  refine wp_loop_rounds 8 ?_
  repeat (rw [rounds_succ]; go_wp2)
  go_ret
  exact ⟨by rw [HZ.out]; rfl, rfl⟩
set_option maxHeartbeats 4000000 in
theorem up_any (w : World) (g : Nat) (T : C.Ta) (h : TaAt w g 51 T) :
    Calls Try.prog 15 #[.pointer (some ⟨g, 0, none⟩)] w fun e w' => e = .returned T.u.v ∧ Below w.heap.size w w' := by
  obtain ⟨⟨u0, u1, u2, u3, u4, u5, u6⟩, ⟨d0, d1, d2, d3, d4, d5, d6⟩⟩ := T
  obtain ⟨y0, y1, y2, y3, y4, y5, y6, y7, y8, y9, y10, y11, y12, y13⟩ := cells14_at (h.below (below_new w (.cells #[.int .i64 0, .int .i64 0, .int .i64 0, .int .i64 0, .int .i64 0, .int .i64 0, .int .i64 0] 35)))
  clear h
  simp only [V7.v]
  go_enter Try.func15, Try.ntmps15
  go_wp2
  refine bodyPost_ret (v := .agg #[.int .i64 u0, .int .i64 u1, .int .i64 u2, .int .i64 u3, .int .i64 u4, .int .i64 u5, .int .i64 u6]) (by simp [results, Try.results15, go_sem]) rfl ⟨rfl, ?_⟩
  repeat' (refine Below.setCell ?_ (Nat.le_refl _) _)
  exact below_new _ _
set_option maxHeartbeats 4000000 in
theorem down_any (w : World) (g : Nat) (T : C.Ta) (h : TaAt w g 51 T) :
    Calls Try.prog 16 #[.pointer (some ⟨g, 0, none⟩)] w fun e w' => e = .returned T.d.v ∧ Below w.heap.size w w' := by
  obtain ⟨⟨u0, u1, u2, u3, u4, u5, u6⟩, ⟨d0, d1, d2, d3, d4, d5, d6⟩⟩ := T
  obtain ⟨y0, y1, y2, y3, y4, y5, y6, y7, y8, y9, y10, y11, y12, y13⟩ := cells14_at (h.below (below_new w (.cells #[.int .i64 0, .int .i64 0, .int .i64 0, .int .i64 0, .int .i64 0, .int .i64 0, .int .i64 0] 35)))
  clear h
  simp only [V7.v]
  go_enter Try.func16, Try.ntmps16
  go_wp2
  refine bodyPost_ret (v := .agg #[.int .i64 d0, .int .i64 d1, .int .i64 d2, .int .i64 d3, .int .i64 d4, .int .i64 d5, .int .i64 d6]) (by simp [results, Try.results16, go_sem]) rfl ⟨rfl, ?_⟩
  repeat' (refine Below.setCell ?_ (Nat.le_refl _) _)
  exact below_new _ _
set_option maxRecDepth 100000 in
set_option maxHeartbeats 4000000 in
theorem eq7_arr (a b : V7) (w : World) : (Op.equalIn 10000 35 a.v b.v).run Try.prog w = .ok (C.same a b) w := by
  obtain ⟨a0, a1, a2, a3, a4, a5, a6⟩ := a
  obtain ⟨b0, b1, b2, b3, b4, b5, b6⟩ := b
  simp only [V7.v, C.same]
  have u3 := Try.underlying2
  have a3' := Try.isAgg2
  have z3 := Try.sizeOf2
  rw [show (10000 : Nat) = 9999 + 1 from rfl, Op.equalIn]
  simp only [Sem.run_bind, run_underlying Try.underlying35, Result.andThen_ok]
  simp only [Std.Legacy.Range.forIn_eq_forIn_range', Std.Legacy.Range.size, Nat.sub_zero, Nat.add_sub_cancel, Nat.div_one, List.range'_succ, List.range'_zero, List.forIn_cons, List.forIn_nil]
  go_simp
  repeat' split
  all_goals simp [*]
theorem eq7_arrs {a b : V7} {x : Bool} (h : C.same a b = x) (w : World) : (Op.equalIn 10000 35 a.v b.v).run Try.prog w = .ok x w := by rw [eq7_arr, h]
end Go.Proofs.Ytnkfabonggofgaa

namespace Go.Proofs.Ytnkfabonggofgaa
open Go.RowKit Go.Lib
set_option linter.unusedVariables false

def V14 (u d : V7) : Value := .agg (cells14 u d)
set_option maxRecDepth 100000 in
set_option maxHeartbeats 8000000 in
theorem eq7_in (a b : V7) (w : World) : (Op.equalIn 9999 49 a.v b.v).run Try.prog w = .ok (C.same a b) w := by
  obtain ⟨a0, a1, a2, a3, a4, a5, a6⟩ := a
  obtain ⟨b0, b1, b2, b3, b4, b5, b6⟩ := b
  simp only [V7.v, C.same]
  have u3 := Try.underlying2
  have a3' := Try.isAgg2
  have z3 := Try.sizeOf2
  rw [show (9999 : Nat) = 9998 + 1 from rfl, Op.equalIn]
  simp only [Sem.run_bind, run_underlying Try.underlying49, Result.andThen_ok]
  simp only [Std.Legacy.Range.forIn_eq_forIn_range', Std.Legacy.Range.size, Nat.sub_zero, Nat.add_sub_cancel, Nat.div_one, List.range'_succ, List.range'_zero, List.forIn_cons, List.forIn_nil]
  go_simp
  repeat' split
  all_goals simp [*]
set_option maxRecDepth 100000 in
set_option maxHeartbeats 8000000 in
theorem eq14 (a b c d : V7) (w : World) : (Op.equalIn 10000 51 (V14 a b) (V14 c d)).run Try.prog w = .ok (C.same a c && C.same b d) w := by
  obtain ⟨a0, a1, a2, a3, a4, a5, a6⟩ := a
  obtain ⟨b0, b1, b2, b3, b4, b5, b6⟩ := b
  obtain ⟨c0, c1, c2, c3, c4, c5, c6⟩ := c
  obtain ⟨d0, d1, d2, d3, d4, d5, d6⟩ := d
  simp only [V14, cells14]
  have hS : Try.prog.underlying 51 = some (.struct (Try.prog.fieldsOf 51)) := by kernel_rfl
  have hp : Try.prog.stoodInHeld 51 = false := by kernel_rfl
  have k1 := eq7_in ⟨a0, a1, a2, a3, a4, a5, a6⟩ ⟨c0, c1, c2, c3, c4, c5, c6⟩
  have k2 := eq7_in ⟨b0, b1, b2, b3, b4, b5, b6⟩ ⟨d0, d1, d2, d3, d4, d5, d6⟩
  generalize C.same ⟨a0, a1, a2, a3, a4, a5, a6⟩ ⟨c0, c1, c2, c3, c4, c5, c6⟩ = x at *
  generalize C.same ⟨b0, b1, b2, b3, b4, b5, b6⟩ ⟨d0, d1, d2, d3, d4, d5, d6⟩ = y at *
  have u3 := Try.underlying49
  have a3 := Try.isAgg49
  have z3 := Try.sizeOf49
  rw [show (10000 : Nat) = 9999 + 1 from rfl, run_equalIn_agg w 9999 51 _ _ hS hp]
  simp only [Program.fieldsOf, Try.underlying51]
  go_simp
  try simp only [V7.v] at k1 k2
  refine (congrArg (fun r => Result.andThen r _) (k1 w)).trans ?_
  cases x
  · rfl
  · simp only [Result.andThen_ok, Bool.true_eq_false, if_false]
    refine (congrArg (fun r => Result.andThen r _) (k2 w)).trans ?_
    cases y <;> rfl
theorem eq14_at {S T : C.Ta} {x : Bool} (h : C.sameT S T = x) (w : World) : (Op.equalIn 10000 51 (V14 S.u S.d) (V14 T.u T.d)).run Try.prog w = .ok x w := by rw [eq14, ← h]; rfl
set_option maxRecDepth 100000 in
set_option maxHeartbeats 4000000 in
theorem same_any (w : World) (g k : Nat) (S T : C.Ta) (x : Bool) (h : TaAt w g 51 S) (h2 : TaAt w k 51 T) (hx : C.sameT S T = x) :
    Calls Try.prog 23 #[.pointer (some ⟨g, 0, none⟩), .pointer (some ⟨k, 0, none⟩)] w fun e w' => e = .returned (.bool x) ∧ Below w.heap.size w w' := by
  have kE := eq14_at hx
  obtain ⟨⟨u0, u1, u2, u3, u4, u5, u6⟩, ⟨d0, d1, d2, d3, d4, d5, d6⟩⟩ := S
  obtain ⟨⟨p0, p1, p2, p3, p4, p5, p6⟩, ⟨q0, q1, q2, q3, q4, q5, q6⟩⟩ := T
  have hd := (Below.refl w.heap.size w).drew
  obtain ⟨y0, y1, y2, y3, y4, y5, y6, y7, y8, y9, y10, y11, y12, y13⟩ := cells14_at h
  obtain ⟨z0, z1, z2, z3, z4, z5, z6, z7, z8, z9, z10, z11, z12, z13⟩ := cells14_at h2
  clear h h2 hx
  simp only [V14, cells14] at kE
  go_enter Try.func23, Try.ntmps23
  go_wp2_with fail
  go_quiet (fail)
  go_wp2
  go_ret
  exact ⟨rfl, ⟨rfl, rfl, rfl, Nat.le_refl _, fun _ _ => rfl⟩⟩
end Go.Proofs.Ytnkfabonggofgaa

namespace Go.Proofs.Ytnkfabonggofgaa
open Go.RowKit Go.Lib
set_option linter.unusedVariables false

theorem TaAt.setU {w : World} {g : Nat} {t : TypeId} {u d : V7} (h : TaAt w g t ⟨u, d⟩) {k : Nat} (hk : k < 7) (x : Int) : TaAt (w.setCell ⟨g, k, none⟩ (.int .i64 x)) g t ⟨C.set7 u k x, d⟩ := by
  have := set_block (o := k) (v := .int .i64 x) h
  rw [set_u14 _ _ hk] at this
  exact this
theorem TaAt.setD {w : World} {g : Nat} {t : TypeId} {u d : V7} (h : TaAt w g t ⟨u, d⟩) {k : Nat} (hk : k < 7) (x : Int) : TaAt (w.setCell ⟨g, 7 + k, none⟩ (.int .i64 x)) g t ⟨u, C.set7 d k x⟩ := by
  have := set_block (o := 7 + k) (v := .int .i64 x) h
  rw [set_d14 _ _ hk] at this
  exact this
theorem set7u {w : World} {g : Nat} {t : TypeId} {u d : V7} (h : TaAt w g t ⟨u, d⟩) (x0 x1 x2 x3 x4 x5 x6 : Int) :
    TaAt (((((((w.setCell ⟨g, 0, none⟩ (.int .i64 x0)).setCell ⟨g, 1, none⟩ (.int .i64 x1)).setCell ⟨g, 2, none⟩ (.int .i64 x2)).setCell ⟨g, 3, none⟩ (.int .i64 x3)).setCell ⟨g, 4, none⟩ (.int .i64 x4)).setCell ⟨g, 5, none⟩ (.int .i64 x5)).setCell ⟨g, 6, none⟩ (.int .i64 x6)) g t ⟨⟨x0, x1, x2, x3, x4, x5, x6⟩, d⟩ :=
  ((((((h.setU (k := 0) (by decide) x0).setU (k := 1) (by decide) x1).setU (k := 2) (by decide) x2).setU (k := 3) (by decide) x3).setU (k := 4) (by decide) x4).setU (k := 5) (by decide) x5).setU (k := 6) (by decide) x6
theorem set7d {w : World} {g : Nat} {t : TypeId} {u d : V7} (h : TaAt w g t ⟨u, d⟩) (x0 x1 x2 x3 x4 x5 x6 : Int) :
    TaAt (((((((w.setCell ⟨g, 7, none⟩ (.int .i64 x0)).setCell ⟨g, 8, none⟩ (.int .i64 x1)).setCell ⟨g, 9, none⟩ (.int .i64 x2)).setCell ⟨g, 10, none⟩ (.int .i64 x3)).setCell ⟨g, 11, none⟩ (.int .i64 x4)).setCell ⟨g, 12, none⟩ (.int .i64 x5)).setCell ⟨g, 13, none⟩ (.int .i64 x6)) g t ⟨u, ⟨x0, x1, x2, x3, x4, x5, x6⟩⟩ :=
  ((((((h.setD (k := 0) (by decide) x0).setD (k := 1) (by decide) x1).setD (k := 2) (by decide) x2).setD (k := 3) (by decide) x3).setD (k := 4) (by decide) x4).setD (k := 5) (by decide) x5).setD (k := 6) (by decide) x6
theorem sets7t {w w1 : World} {g : Nat} (h : Turn w w1 (fun b => b = g)) (i0 i1 i2 i3 i4 i5 i6 : Nat) (v0 v1 v2 v3 v4 v5 v6 : Value) : Turn w (((((((w1.setCell ⟨g, i0, none⟩ v0).setCell ⟨g, i1, none⟩ v1).setCell ⟨g, i2, none⟩ v2).setCell ⟨g, i3, none⟩ v3).setCell ⟨g, i4, none⟩ v4).setCell ⟨g, i5, none⟩ v5).setCell ⟨g, i6, none⟩ v6) (fun b => b = g) :=
  ((((((h.setCell rfl _).setCell rfl _).setCell rfl _).setCell rfl _).setCell rfl _).setCell rfl _).setCell rfl _
set_option maxRecDepth 100000 in
set_option maxHeartbeats 8000000 in
/-- Another one's, taken. -/
theorem merge_two (w : World) (g k : Nat) (S T : C.Ta) (h : TaAt w g 51 S) (h2 : TaAt w k 51 T) (hne : g ≠ k) :
    Calls Try.prog 17 #[.pointer (some ⟨g, 0, none⟩), .pointer (some ⟨k, 0, none⟩)] w fun e w' => e = .returned (.tuple #[]) ∧ TaAt w' g 51 (C.mrgT S T) ∧ Turn w w' (fun b => b = g) := by
  obtain ⟨SU, SD⟩ := S
  obtain ⟨TU, TD⟩ := T
  obtain ⟨MU, hmu⟩ : ∃ MU, C.mrg SU TU = MU := ⟨_, rfl⟩
  obtain ⟨MD, hmd⟩ : ∃ MD, C.mrg SD TD = MD := ⟨_, rfl⟩
  have HE : Hid (C.mrgT ⟨SU, SD⟩ ⟨TU, TD⟩ = ⟨MU, MD⟩) := by show _ = _; rw [← hmu, ← hmd]; rfl
  have HMU : Hid (∀ W, _) := fun W => merge_at hmu W
  have HMD : Hid (∀ W, _) := fun W => merge_at hmd W
  have HS : Hid (TaAt w g 51 ⟨SU, SD⟩) := h
  have HT : Hid (TaAt w k 51 ⟨TU, TD⟩) := h2
  rw [HE.out]
  clear h h2 hmu hmd HE
  obtain ⟨u0, u1, u2, u3, u4, u5, u6⟩ := SU
  obtain ⟨d0, d1, d2, d3, d4, d5, d6⟩ := SD
  obtain ⟨p0, p1, p2, p3, p4, p5, p6⟩ := TU
  obtain ⟨q0, q1, q2, q3, q4, q5, q6⟩ := TD
  obtain ⟨m0, m1, m2, m3, m4, m5, m6⟩ := MU
  obtain ⟨n0, n1, n2, n3, n4, n5, n6⟩ := MD
  simp only [V7.v] at HMU HMD
  have hd : Below w.heap.size w w.drew := (Below.refl _ _).drew
  obtain ⟨y0, y1, y2, y3, y4, y5, y6, -⟩ := cells14_at (HS.out.below hd)
  obtain ⟨z0, z1, z2, z3, z4, z5, z6, -⟩ := cells14_at (HT.out.below hd)
  clear hd
  go_enter Try.func17, Try.ntmps17
  go_wp2_with fail
  go_region_with (go_at_call 28; refine (HMU.out _).mono ?_; rintro e w1 ⟨rfl, hb1⟩; have hg1 := HS.out.below (bt ((Below.refl _ w).drew) hb1); obtain ⟨s0, s1, s2, s3, s4, s5, s6, -⟩ := cells14_at hg1; have f0 := hg1.fz 0; have f1 := hg1.fz 1; have f2 := hg1.fz 2; have f3 := hg1.fz 3; have f4 := hg1.fz 4; have f5 := hg1.fz 5; have f6 := hg1.fz 6)
  all_goals
    have h2 := set7u hg1 m0 m1 m2 m3 m4 m5 m6
    have ht2 := sets7t (Turn.of_below (S := fun b => b = g) (bt ((Below.refl _ w).drew) hb1)) 0 1 2 3 4 5 6 (.int .i64 m0) (.int .i64 m1) (.int .i64 m2) (.int .i64 m3) (.int .i64 m4) (.int .i64 m5) (.int .i64 m6)
    generalize World.setCell (World.setCell (World.setCell (World.setCell (World.setCell (World.setCell (World.setCell w1 _ _) _ _) _ _) _ _) _ _) _ _) _ _ = w2 at *
    have HS2 : Hid (TaAt w2 g 51 ⟨⟨m0, m1, m2, m3, m4, m5, m6⟩, ⟨d0, d1, d2, d3, d4, d5, d6⟩⟩) := h2
    have HT2 : Hid (TaAt w2 k 51 ⟨⟨p0, p1, p2, p3, p4, p5, p6⟩, ⟨q0, q1, q2, q3, q4, q5, q6⟩⟩) := HT.out.same (ht2.block k HT.out.lt (fun e => hne e.symm))
    have HU2 : Hid (Turn w w2 (fun b => b = g)) := ht2
    clear h2 ht2 hg1 hb1 s0 s1 s2 s3 s4 s5 s6 f0 f1 f2 f3 f4 f5 f6 y0 y1 y2 y3 y4 y5 y6 z0 z1 z2 z3 z4 z5 z6
    have hd : Below w2.heap.size w2 w2.drew := (Below.refl _ _).drew
    obtain ⟨-, -, -, -, -, -, -, y0, y1, y2, y3, y4, y5, y6⟩ := cells14_at (HS2.out.below hd)
    obtain ⟨-, -, -, -, -, -, -, z0, z1, z2, z3, z4, z5, z6⟩ := cells14_at (HT2.out.below hd)
    clear hd
    go_wp2_with fail
    go_region_with (go_at_call 28; refine (HMD.out _).mono ?_; rintro e w3 ⟨rfl, hb3⟩; have hg3 := HS2.out.below (bt ((Below.refl _ w2).drew) hb3); obtain ⟨-, -, -, -, -, -, -, s0, s1, s2, s3, s4, s5, s6⟩ := cells14_at hg3; have f0 := hg3.fz 7; have f1 := hg3.fz 8; have f2 := hg3.fz 9; have f3 := hg3.fz 10; have f4 := hg3.fz 11; have f5 := hg3.fz 12; have f6 := hg3.fz 13)
    all_goals
      have h4 := set7d hg3 n0 n1 n2 n3 n4 n5 n6
      have ht4 := sets7t (Turn.of_below (S := fun b => b = g) (bt ((Below.refl _ w2).drew) hb3)) 7 8 9 10 11 12 13 (.int .i64 n0) (.int .i64 n1) (.int .i64 n2) (.int .i64 n3) (.int .i64 n4) (.int .i64 n5) (.int .i64 n6)
      generalize World.setCell (World.setCell (World.setCell (World.setCell (World.setCell (World.setCell (World.setCell w3 _ _) _ _) _ _) _ _) _ _) _ _) _ _ = w4 at *
      have HF : Hid (TaAt w4 g 51 ⟨⟨m0, m1, m2, m3, m4, m5, m6⟩, ⟨n0, n1, n2, n3, n4, n5, n6⟩⟩ ∧ Turn w w4 (fun b => b = g)) := ⟨h4, HU2.out.trans ht4 fun x hx => Or.inl hx⟩
      clear h4 ht4 hg3 hb3 s0 s1 s2 s3 s4 s5 s6 f0 f1 f2 f3 f4 f5 f6 y0 y1 y2 y3 y4 y5 y6 z0 z1 z2 z3 z4 z5 z6
      go_wp2
      go_end0
      exact ⟨rfl, HF.out.1, HF.out.2⟩
end Go.Proofs.Ytnkfabonggofgaa
