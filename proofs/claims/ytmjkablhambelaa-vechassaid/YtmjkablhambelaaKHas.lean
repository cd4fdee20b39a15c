/-
  VecHas: who has more has all that one with less has; what merged clocks have, what the least has.
-/
import Derived.Test.YtmjkablhambelaaWBox
import Derived.Deep.RegionWith
namespace Go.Proofs.Ytmjkablhambelaa
open Go.RowKit Go.Lib
set_option linter.unusedVariables false

namespace C
theorem at7_mrg (a b : V7) (k : Nat) : at7 (mrg a b) k = max (at7 a k) (at7 b k) := by
  unfold at7 mrg
  split <;> rfl
theorem at7_lst (a b : V7) (k : Nat) : at7 (lst a b) k = min (at7 a k) (at7 b k) := by
  unfold at7 lst
  split <;> rfl
theorem has_mrg (a b : V7) (r n : Int) : has (mrg a b) r n = (has a r n || has b r n) := by
  unfold has
  rw [at7_mrg, ← Bool.and_or_distrib_left]
  congr 1
  rw [Bool.eq_iff_iff]
  simp only [decide_eq_true_eq, Bool.or_eq_true]
  omega
theorem has_lst (a b : V7) (r n : Int) : has (lst a b) r n = (has a r n && has b r n) := by
  unfold has
  rw [at7_lst]
  rw [Bool.eq_iff_iff]
  simp only [decide_eq_true_eq, Bool.and_eq_true]
  omega
theorem at7_le {a b : V7} (h : le a b = true) (k : Nat) : at7 a k ≤ at7 b k := by
  obtain ⟨h0, h1, h2, h3, h4, h5, h6⟩ := (le_iff a b).1 h
  unfold at7
  split <;> assumption
theorem has_le {a b : V7} {r n : Int} (h : le a b = true) (hx : has a r n = true) : has b r n = true := by
  have := at7_le h r.toNat
  unfold has at *
  simp only [decide_eq_true_eq, Bool.and_eq_true] at *
  omega
end C
set_option maxRecDepth 100000 in
set_option maxHeartbeats 8000000 in
theorem has_law (a b : V7) (r n : Int) (w : World) : Calls Try.prog 7 #[a.v, b.v, .agg #[.int .i64 r, .int .i64 n]] w fun e w' => e = .returned (.bool true) ∧ Below w.heap.size w w' := by
  obtain ⟨x, hx⟩ : ∃ x, C.has a r n = x := ⟨_, rfl⟩
  obtain ⟨y, hy⟩ : ∃ y, C.has b r n = y := ⟨_, rfl⟩
  obtain ⟨l, hl⟩ : ∃ l, C.le a b = l := ⟨_, rfl⟩
  obtain ⟨m, hm⟩ : ∃ m, C.mrg a b = m := ⟨_, rfl⟩
  obtain ⟨s, hs⟩ : ∃ s, C.lst a b = s := ⟨_, rfl⟩
  have hxm : C.has m r n = (x || y) := by rw [← hm, ← hx, ← hy, C.has_mrg]
  have hxs : C.has s r n = (x && y) := by rw [← hs, ← hx, ← hy, C.has_lst]
  have hxl : l = true → x = true → y = true := fun h1 h2 => by rw [← hy]; exact C.has_le (hl.trans h1) (hx.trans h2)
  have KX : ∀ w, _ := fun w => has_at hx w
  have KY : ∀ w, _ := fun w => has_at hy w
  have KL : ∀ w, _ := fun w => le_at hl w
  have KM : ∀ w, _ := fun w => merge_at hm w
  have KS : ∀ w, _ := fun w => least_at hs w
  have KXM : ∀ w, _ := fun w => has_at hxm w
  have KXS : ∀ w, _ := fun w => has_at hxs w
  clear hx hy hl hm hs hxm hxs
  obtain ⟨a0, a1, a2, a3, a4, a5, a6⟩ := a
  obtain ⟨b0, b1, b2, b3, b4, b5, b6⟩ := b
  obtain ⟨m0, m1, m2, m3, m4, m5, m6⟩ := m
  obtain ⟨s0, s1, s2, s3, s4, s5, s6⟩ := s
  simp only [V7.v] at *
  obtain ⟨xm, hxm⟩ : ∃ xm, xm = (x || y) := ⟨_, rfl⟩
  obtain ⟨xs, hxs⟩ : ∃ xs, xs = (x && y) := ⟨_, rfl⟩
  rw [← hxm] at KXM
  rw [← hxs] at KXS
  have hz : (x = true ∧ y = true ∧ l = true ∧ xm = true ∧ xs = true) ∨ (x = true ∧ y = true ∧ l = false ∧ xm = true ∧ xs = true) ∨ (x = true ∧ y = false ∧ l = false ∧ xm = true ∧ xs = false) ∨ (x = false ∧ y = true ∧ l = true ∧ xm = true ∧ xs = false) ∨ (x = false ∧ y = true ∧ l = false ∧ xm = true ∧ xs = false) ∨ (x = false ∧ y = false ∧ l = true ∧ xm = false ∧ xs = false) ∨ (x = false ∧ y = false ∧ l = false ∧ xm = false ∧ xs = false) := by
    subst hxm hxs
    cases x <;> cases y <;> cases l <;> simp at *
  clear hxm hxs hxl
  have GKX : Hid _ := KX
  have GKY : Hid _ := KY
  have GKL : Hid _ := KL
  have GKM : Hid _ := KM
  have GKS : Hid _ := KS
  have GKXM : Hid _ := KXM
  have GKXS : Hid _ := KXS
  clear KX KY KL KM KS KXM KXS
  go_enter Try.func7, Try.ntmps7
  go_wp2_with fail
  refine (awake_any _).mono ?_
  rintro e w1 ⟨rfl, h1⟩
  obtain ⟨q1, q2, q3⟩ := three_boxes w _ _ _ h1
  have hB := three_below w _ _ _ h1
  have HB : Hid _ := hB
  clear h1 hB
  have hne : Nonempty (NewW w1) := ⟨NewW.start w1⟩
  obtain ⟨A0, A1, A2, A3, A4, A5, A6⟩ := box7_all (w := w1) q1
  obtain ⟨B0, B1, B2, B3, B4, B5, B6⟩ := box7_all (w := w1) q2
  obtain ⟨D0, D1⟩ := box2_all (w := w1) q3
  clear q1 q2 q3
  go_wp2_with fail
  refine wp_region_new (by kernel_rfl) (by kernel_rfl) ?_
  repeat (go_big_quiet_step ((first
    | (go_at_call_of 14 b0; exact new_of (GKY.out _))
    | (go_at_call_of 14 a0; exact new_of (GKX.out _)))))
  refine wpQuiet_nil ?_
  rintro _ ⟨w2, rfl⟩
  rcases hz with ⟨rfl, rfl, rfl, rfl, rfl⟩ | ⟨rfl, rfl, rfl, rfl, rfl⟩ | ⟨rfl, rfl, rfl, rfl, rfl⟩ | ⟨rfl, rfl, rfl, rfl, rfl⟩ | ⟨rfl, rfl, rfl, rfl, rfl⟩ | ⟨rfl, rfl, rfl, rfl, rfl⟩ | ⟨rfl, rfl, rfl, rfl, rfl⟩
  all_goals
    go_wp2_with fail
    refine wp_region_more (by kernel_rfl) (by kernel_rfl) ?_
    repeat (go_big_quiet_step ((first
      | (go_at_call_of 14 m0; exact new_of (GKXM.out _))
      | (go_at_call_of 14 s0; exact new_of (GKXS.out _))
      | (go_at_call 23; exact new_of (GKM.out _))
      | (go_at_call 25; exact new_of (GKS.out _))
      | (go_at_call 27; exact new_of (GKL.out _)))))
    refine wpQuiet_nil ?_
    rintro _ ⟨w3, rfl⟩
    have HB3 : Hid (Below w.heap.size w w3.v) := bt HB.out w3.h
    go_wp2
    go_ret
    exact ⟨rfl, HB3.out⟩
theorem has_all (a : V7) (ha : C.fits7 a) (b : V7) (hb : C.fits7 b) (r n : Int) (hr : C.fits r) (hn : C.fits n) (w : World) : Calls Try.prog 7 #[.agg #[.int .i64 a.x0, .int .i64 a.x1, .int .i64 a.x2, .int .i64 a.x3, .int .i64 a.x4, .int .i64 a.x5, .int .i64 a.x6], .agg #[.int .i64 b.x0, .int .i64 b.x1, .int .i64 b.x2, .int .i64 b.x3, .int .i64 b.x4, .int .i64 b.x5, .int .i64 b.x6], .agg #[.int .i64 r, .int .i64 n]] w fun e w' => e = .returned (.bool true) ∧ Below w.heap.size w w' :=
  has_law a b r n w
end Go.Proofs.Ytmjkablhambelaa
