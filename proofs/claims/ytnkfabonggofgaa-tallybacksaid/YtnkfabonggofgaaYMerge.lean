/-
  tally.Tally.Merge.
-/
import Derived.Test.YtnkfabonggofgaaYObj
import Derived.Deep.RegionWith
namespace Go.Proofs.Ytnkfabonggofgaa
open Go.RowKit Go.Lib
set_option linter.unusedVariables false

theorem TaAt.setU {w : World} {g : Nat} {t : TypeId} {u d : V7} (h : TaAt w g t ⟨u, d⟩) {k : Nat} (hk : k < 7) (x : Int) : TaAt (w.setCell ⟨g, k, none⟩ (.int .i64 x)) g t ⟨C.set7 u k x, d⟩ := by
  have := set_block (o := k) (v := .int .i64 x) h
  rw [set_u14 _ _ hk] at this
  exact this
theorem TaAt.setD {w : World} {g : Nat} {t : TypeId} {u d : V7} (h : TaAt w g t ⟨u, d⟩) {k : Nat} (hk : k < 7) (x : Int) : TaAt (w.setCell ⟨g, 7 + k, none⟩ (.int .i64 x)) g t ⟨u, C.set7 d k x⟩ := by
  have := set_block (o := 7 + k) (v := .int .i64 x) h
  rw [set_d14 _ _ hk] at this
  exact this
theorem set7u {w : World} {g : Nat} {t : TypeId} {u d : V7} (h : TaAt w g t ⟨u, d⟩) (x0 x1 x2 x3 x4 x5 x6 : Int) :
    TaAt (((((((w.setCell ⟨g, 0, none⟩ (.int .i64 x0)).setCell ⟨g, 1, none⟩ (.int .i64 x1)).setCell ⟨g, 2, none⟩ (.int .i64 x2)).setCell ⟨g, 3, none⟩ (.int .i64 x3)).setCell ⟨g, 4, none⟩ (.int .i64 x4)).setCell ⟨g, 5, none⟩ (.int .i64 x5)).setCell ⟨g, 6, none⟩ (.int .i64 x6)) g t ⟨⟨x0, x1, x2, x3, x4, x5, x6⟩, d⟩ :=
  ((((((h.setU (k := 0) (by decide) x0).setU (k := 1) (by decide) x1).setU (k := 2) (by decide) x2).setU (k := 3) (by decide) x3).setU (k := 4) (by decide) x4).setU (k := 5) (by decide) x5).setU (k := 6) (by decide) x6
theorem set7d {w : World} {g : Nat} {t : TypeId} {u d : V7} (h : TaAt w g t ⟨u, d⟩) (x0 x1 x2 x3 x4 x5 x6 : Int) :
    TaAt (((((((w.setCell ⟨g, 7, none⟩ (.int .i64 x0)).setCell ⟨g, 8, none⟩ (.int .i64 x1)).setCell ⟨g, 9, none⟩ (.int .i64 x2)).setCell ⟨g, 10, none⟩ (.int .i64 x3)).setCell ⟨g, 11, none⟩ (.int .i64 x4)).setCell ⟨g, 12, none⟩ (.int .i64 x5)).setCell ⟨g, 13, none⟩ (.int .i64 x6)) g t ⟨u, ⟨x0, x1, x2, x3, x4, x5, x6⟩⟩ :=
  ((((((h.setD (k := 0) (by decide) x0).setD (k := 1) (by decide) x1).setD (k := 2) (by decide) x2).setD (k := 3) (by decide) x3).setD (k := 4) (by decide) x4).setD (k := 5) (by decide) x5).setD (k := 6) (by decide) x6
theorem sets7t {w w1 : World} {g : Nat} (h : Turn w w1 (fun b => b = g)) (i0 i1 i2 i3 i4 i5 i6 : Nat) (v0 v1 v2 v3 v4 v5 v6 : Value) : Turn w (((((((w1.setCell ⟨g, i0, none⟩ v0).setCell ⟨g, i1, none⟩ v1).setCell ⟨g, i2, none⟩ v2).setCell ⟨g, i3, none⟩ v3).setCell ⟨g, i4, none⟩ v4).setCell ⟨g, i5, none⟩ v5).setCell ⟨g, i6, none⟩ v6) (fun b => b = g) :=
  ((((((h.setCell rfl _).setCell rfl _).setCell rfl _).setCell rfl _).setCell rfl _).setCell rfl _).setCell rfl _
set_option maxRecDepth 100000 in
set_option maxHeartbeats 8000000 in
/-- Another one's, taken. -/
theorem merge_two (w : World) (g k : Nat) (S T : C.Ta) (h : TaAt w g 51 S) (h2 : TaAt w k 51 T) (hne : g ≠ k) :
    Calls Try.prog 17 #[.pointer (some ⟨g, 0, none⟩), .pointer (some ⟨k, 0, none⟩)] w fun e w' => e = .returned (.tuple #[]) ∧ TaAt w' g 51 (C.mrgT S T) ∧ Turn w w' (fun b => b = g) := by
  obtain ⟨SU, SD⟩ := S
  obtain ⟨TU, TD⟩ := T
  obtain ⟨MU, hmu⟩ : ∃ MU, C.mrg SU TU = MU := ⟨_, rfl⟩
  obtain ⟨MD, hmd⟩ : ∃ MD, C.mrg SD TD = MD := ⟨_, rfl⟩
  have HE : Hid (C.mrgT ⟨SU, SD⟩ ⟨TU, TD⟩ = ⟨MU, MD⟩) := by show _ = _; rw [← hmu, ← hmd]; rfl
  have HMU : Hid (∀ W, _) := fun W => merge_at hmu W
  have HMD : Hid (∀ W, _) := fun W => merge_at hmd W
  have HS : Hid (TaAt w g 51 ⟨SU, SD⟩) := h
  have HT : Hid (TaAt w k 51 ⟨TU, TD⟩) := h2
  rw [HE.out]
  clear h h2 hmu hmd HE
  obtain ⟨u0, u1, u2, u3, u4, u5, u6⟩ := SU
  obtain ⟨d0, d1, d2, d3, d4, d5, d6⟩ := SD
  obtain ⟨p0, p1, p2, p3, p4, p5, p6⟩ := TU
  obtain ⟨q0, q1, q2, q3, q4, q5, q6⟩ := TD
  obtain ⟨m0, m1, m2, m3, m4, m5, m6⟩ := MU
  obtain ⟨n0, n1, n2, n3, n4, n5, n6⟩ := MD
  simp only [V7.v] at HMU HMD
  have hd : Below w.heap.size w w.drew := (Below.refl _ _).drew
  obtain ⟨y0, y1, y2, y3, y4, y5, y6, -⟩ := cells14_at (HS.out.below hd)
  obtain ⟨z0, z1, z2, z3, z4, z5, z6, -⟩ := cells14_at (HT.out.below hd)
  clear hd
  go_enter Try.func17, Try.ntmps17
  go_wp2_with fail
  go_region_with (go_at_call 28; refine (HMU.out _).mono ?_; rintro e w1 ⟨rfl, hb1⟩; have hg1 := HS.out.below (bt ((Below.refl _ w).drew) hb1); obtain ⟨s0, s1, s2, s3, s4, s5, s6, -⟩ := cells14_at hg1; have f0 := hg1.fz 0; have f1 := hg1.fz 1; have f2 := hg1.fz 2; have f3 := hg1.fz 3; have f4 := hg1.fz 4; have f5 := hg1.fz 5; have f6 := hg1.fz 6)
  all_goals
    have h2 := set7u hg1 m0 m1 m2 m3 m4 m5 m6
    have ht2 := sets7t (Turn.of_below (S := fun b => b = g) (bt ((Below.refl _ w).drew) hb1)) 0 1 2 3 4 5 6 (.int .i64 m0) (.int .i64 m1) (.int .i64 m2) (.int .i64 m3) (.int .i64 m4) (.int .i64 m5) (.int .i64 m6)
    generalize World.setCell (World.setCell (World.setCell (World.setCell (World.setCell (World.setCell (World.setCell w1 _ _) _ _) _ _) _ _) _ _) _ _) _ _ = w2 at *
    have HS2 : Hid (TaAt w2 g 51 ⟨⟨m0, m1, m2, m3, m4, m5, m6⟩, ⟨d0, d1, d2, d3, d4, d5, d6⟩⟩) := h2
    have HT2 : Hid (TaAt w2 k 51 ⟨⟨p0, p1, p2, p3, p4, p5, p6⟩, ⟨q0, q1, q2, q3, q4, q5, q6⟩⟩) := HT.out.same (ht2.block k HT.out.lt (fun e => hne e.symm))
    have HU2 : Hid (Turn w w2 (fun b => b = g)) := ht2
    clear h2 ht2 hg1 hb1 s0 s1 s2 s3 s4 s5 s6 f0 f1 f2 f3 f4 f5 f6 y0 y1 y2 y3 y4 y5 y6 z0 z1 z2 z3 z4 z5 z6
    have hd : Below w2.heap.size w2 w2.drew := (Below.refl _ _).drew
    obtain ⟨-, -, -, -, -, -, -, y0, y1, y2, y3, y4, y5, y6⟩ := cells14_at (HS2.out.below hd)
    obtain ⟨-, -, -, -, -, -, -, z0, z1, z2, z3, z4, z5, z6⟩ := cells14_at (HT2.out.below hd)
    clear hd
    go_wp2_with fail
    go_region_with (go_at_call 28; refine (HMD.out _).mono ?_; rintro e w3 ⟨rfl, hb3⟩; have hg3 := HS2.out.below (bt ((Below.refl _ w2).drew) hb3); obtain ⟨-, -, -, -, -, -, -, s0, s1, s2, s3, s4, s5, s6⟩ := cells14_at hg3; have f0 := hg3.fz 7; have f1 := hg3.fz 8; have f2 := hg3.fz 9; have f3 := hg3.fz 10; have f4 := hg3.fz 11; have f5 := hg3.fz 12; have f6 := hg3.fz 13)
    all_goals
      have h4 := set7d hg3 n0 n1 n2 n3 n4 n5 n6
      have ht4 := sets7t (Turn.of_below (S := fun b => b = g) (bt ((Below.refl _ w2).drew) hb3)) 7 8 9 10 11 12 13 (.int .i64 n0) (.int .i64 n1) (.int .i64 n2) (.int .i64 n3) (.int .i64 n4) (.int .i64 n5) (.int .i64 n6)
      generalize World.setCell (World.setCell (World.setCell (World.setCell (World.setCell (World.setCell (World.setCell w3 _ _) _ _) _ _) _ _) _ _) _ _) _ _ = w4 at *
      have HF : Hid (TaAt w4 g 51 ⟨⟨m0, m1, m2, m3, m4, m5, m6⟩, ⟨n0, n1, n2, n3, n4, n5, n6⟩⟩ ∧ Turn w w4 (fun b => b = g)) := ⟨h4, HU2.out.trans ht4 fun x hx => Or.inl hx⟩
      clear h4 ht4 hg3 hb3 s0 s1 s2 s3 s4 s5 s6 f0 f1 f2 f3 f4 f5 f6 y0 y1 y2 y3 y4 y5 y6 z0 z1 z2 z3 z4 z5 z6
      go_wp2
      go_end0
      exact ⟨rfl, HF.out.1, HF.out.2⟩
end Go.Proofs.Ytnkfabonggofgaa
