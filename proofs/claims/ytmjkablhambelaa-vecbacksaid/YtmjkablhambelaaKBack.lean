/-
  VecBack: clocks that may be are read again; unlike ones have unlike bytes.
-/
import Derived.Test.YtmjkablhambelaaVBack
import Derived.Deep.RegionWith
namespace Go.Proofs.Ytmjkablhambelaa
open Go.RowKit Go.Lib
set_option linter.unusedVariables false

theorem back_bad (a b : V7) (w : World) (h : (C.good a && C.good b) = false) : Calls Try.prog 8 #[a.v, b.v] w fun e w' => e = .returned (.bool true) ∧ Below w.heap.size w w' := by
  obtain ⟨x, hx⟩ : ∃ x, C.good a = x := ⟨_, rfl⟩
  obtain ⟨y, hy⟩ : ∃ y, C.good b = y := ⟨_, rfl⟩
  have KX : Hid (∀ w, _) := fun w => good_at hx w
  have KY : Hid (∀ w, _) := fun w => good_at hy w
  rw [hx, hy] at h
  clear hx hy
  obtain ⟨a0, a1, a2, a3, a4, a5, a6⟩ := a
  obtain ⟨b0, b1, b2, b3, b4, b5, b6⟩ := b
  simp only [V7.v] at *
  cases x
  · clear h
    go_enter Try.func8, Try.ntmps8
    go_wp2_with fail
    refine (awake_any _).mono ?_
    rintro e w1 ⟨rfl, h1⟩
    obtain ⟨q1, q2⟩ := two_boxes w _ _ h1
    have hB := bt (bt (below_new _ _) (below_new _ _)) h1
    obtain ⟨c0, c1, c2, c3, c4, c5, c6⟩ := box7 q1
    clear h1 q1 q2
    go_wp2_with fail
    refine (KX.out _).mono ?_
    rintro e w2 ⟨rfl, h2⟩
    go_wp2
    go_ret
    exact ⟨rfl, bt hB h2⟩
  · rw [Bool.true_and] at h
    subst h
    go_enter Try.func8, Try.ntmps8
    go_wp2_with fail
    refine (awake_any _).mono ?_
    rintro e w1 ⟨rfl, h1⟩
    obtain ⟨q1, q2⟩ := two_boxes w _ _ h1
    have hB := bt (bt (below_new _ _) (below_new _ _)) h1
    obtain ⟨c0, c1, c2, c3, c4, c5, c6⟩ := box7 q1
    clear h1 q1
    go_wp2_with fail
    refine (KX.out _).mono ?_
    rintro e w2 ⟨rfl, h2⟩
    obtain ⟨d0, d1, d2, d3, d4, d5, d6⟩ := box7 (keep_on h2 q2)
    clear q2 c0 c1 c2 c3 c4 c5 c6
    go_wp2_with fail
    refine (KY.out _).mono ?_
    rintro e w3 ⟨rfl, h3⟩
    go_wp2
    go_ret
    exact ⟨rfl, bt hB (bt h2 h3)⟩
set_option maxRecDepth 100000 in
set_option maxHeartbeats 8000000 in
theorem back_good (a b : V7) (w : World) (ha : C.good a = true) (hb : C.good b = true) : Calls Try.prog 8 #[a.v, b.v] w fun e w' => e = .returned (.bool true) ∧ Below w.heap.size w w' := by
  obtain ⟨la, hla⟩ : ∃ l, C.vbytes a = l := ⟨_, rfl⟩
  obtain ⟨lb, hlb⟩ : ∃ l, C.vbytes b = l := ⟨_, rfl⟩
  obtain ⟨q, hq⟩ : ∃ q, C.same a b = q := ⟨_, rfl⟩
  have KX : Hid (∀ w, _) := fun w => good_at ha w
  have KY : Hid (∀ w, _) := fun w => good_at hb w
  have KA : Hid (∀ w, _) := fun w => put_nil la a w (good_fits ha) hla
  have KB : Hid (∀ w, _) := fun w => put_nil lb b w (good_fits hb) hlb
  have KQ : ∀ w, _ := fun w => eq_vec hq w
  have KAA : ∀ w, _ := fun w => eq_vec (a := a) (b := a) (x := true) (C.same_self a) w
  have HL : Hid (la.length ≤ 100000) := by have := vbytes_len (good_fits ha); rw [hla] at this; show _ ≤ _; omega
  have KG : Hid (C.getV (some la) = (a, some [])) := by have := getV_bytes ha []; rw [List.append_nil, hla] at this; exact this
  have hs : (la == lb) = q := by
    rw [← hq, ← hla, ← hlb]
    by_cases h : a = b
    · subst h; rw [C.same_self]; simp
    · rw [C.same_ne h]
      have : C.vbytes a ≠ C.vbytes b := fun e => h (vbytes_inj ha hb e)
      simpa using this
  have KT : Hid (∀ (w : World) (g : Nat) (p : Option Addr) (n c : Nat), Rd w g (some la) p n c → _) := fun w g p n c h => get_at w g (some la) p n c a (some []) h HL.out KG.out
  clear ha hb hla hlb hq KG
  obtain ⟨a0, a1, a2, a3, a4, a5, a6⟩ := a
  obtain ⟨b0, b1, b2, b3, b4, b5, b6⟩ := b
  simp only [V7.v] at *
  go_enter Try.func8, Try.ntmps8
  go_wp2_with fail
  refine (awake_any _).mono ?_
  rintro e w1 ⟨rfl, h1⟩
  obtain ⟨q1, q2⟩ := two_boxes w _ _ h1
  have HB1 : Hid (Below w.heap.size w w1) := bt (bt (below_new _ _) (below_new _ _)) h1
  have HZ1 : Hid (w.heap.size + 1 < w1.heap.size) := (Array.getElem?_eq_some_iff.1 q2).1
  obtain ⟨c0, c1, c2, c3, c4, c5, c6⟩ := box7 q1
  obtain ⟨d0, d1, d2, d3, d4, d5, d6⟩ := box7 q2
  have HQ1 : Hid _ := q1
  have HQ2 : Hid _ := q2
  clear h1 q1 q2
  go_wp2_with fail
  refine (KX.out _).mono ?_
  rintro e w2 ⟨rfl, h2⟩
  have q2 := keep_on h2 HQ1.out
  have q3 := keep_on h2 HQ2.out
  have HB2 : Hid _ := bt HB1.out h2
  have HZ2 : Hid (w.heap.size + 1 < w2.heap.size) := Nat.lt_of_lt_of_le HZ1.out h2.size
  clear c0 c1 c2 c3 c4 c5 c6 d0 d1 d2 d3 d4 d5 d6 HQ1 HQ2 h2
  obtain ⟨c0, c1, c2, c3, c4, c5, c6⟩ := box7 q2
  obtain ⟨d0, d1, d2, d3, d4, d5, d6⟩ := box7 q3
  have HQ1 : Hid _ := q2
  have HQ2 : Hid _ := q3
  clear q2 q3
  go_wp2_with fail
  refine (KY.out _).mono ?_
  rintro e w3 ⟨rfl, h3⟩
  have q2 := keep_on h3 HQ1.out
  have q3 := keep_on h3 HQ2.out
  have HB3 : Hid _ := bt HB2.out h3
  have HZ3 : Hid (w.heap.size + 1 < w3.heap.size) := Nat.lt_of_lt_of_le HZ2.out h3.size
  clear c0 c1 c2 c3 c4 c5 c6 d0 d1 d2 d3 d4 d5 d6 HQ1 HQ2 h3 HB1 HB2 HZ1 HZ2
  obtain ⟨c0, c1, c2, c3, c4, c5, c6⟩ := box7 q2
  have HQ1 : Hid _ := q2
  have HQ2 : Hid _ := q3
  clear q2 q3
  go_wp2_with fail
  refine (KA.out _).mono ?_
  rintro e w4 ⟨⟨p4, n4, c4', rfl, hi4⟩, h4⟩
  have HI4 : Hid _ := hi4
  have q2 := keep_on h4 HQ1.out
  have q3 := keep_on h4 HQ2.out
  have HB4 : Hid _ := bt HB3.out h4
  have HZ4 : Hid (w.heap.size + 1 < w4.heap.size) := Nat.lt_of_lt_of_le HZ3.out h4.size
  clear hi4 c0 c1 c2 c3 c4 c5 c6 HQ1 HQ2 h4 HB3 HZ3
  go_wp2_with fail
  refine (read_at w4 p4 n4 c4' la HI4.out HL.out).mono ?_
  rintro e w5 ⟨⟨g, p5, n5, c5, rfl, hlo, hlt, hr5⟩, h5⟩
  have HR5 : Hid _ := hr5
  have HG : Hid (w4.heap.size ≤ g) := hlo
  have HB5 : Hid _ := bt HB4.out h5
  have HQ1 : Hid (∀ w', w5.grownBy w' (some g) → _) := fun w' hg => box7 ((hg.block _ (Array.getElem?_eq_some_iff.1 (keep_on h5 q2)).1 (fun e => by have := HG.out; have := HZ4.out; have := Option.some.inj e; omega)).trans (keep_on h5 q2))
  have HQ2 : Hid (∀ w', w5.grownBy w' (some g) → _) := fun w' hg => box7 ((hg.block _ (Array.getElem?_eq_some_iff.1 (keep_on h5 q3)).1 (fun e => by have := HG.out; have := HZ4.out; have := Option.some.inj e; omega)).trans (keep_on h5 q3))
  have HD5 : Hid (w5.grownBy w5.drew (some g)) := gdrew _ _
  clear hr5 hlo hlt h5 q2 q3
  cases q
  all_goals
    go_wp2
    first
    | (go_region_held_law (fun w' => (w'.cell? ⟨w.heap.size, 0, none⟩ = some (.int .i64 a0) ∧ w'.cell? ⟨w.heap.size, 1, none⟩ = some (.int .i64 a1) ∧ w'.cell? ⟨w.heap.size, 2, none⟩ = some (.int .i64 a2) ∧ w'.cell? ⟨w.heap.size, 3, none⟩ = some (.int .i64 a3) ∧ w'.cell? ⟨w.heap.size, 4, none⟩ = some (.int .i64 a4) ∧ w'.cell? ⟨w.heap.size, 5, none⟩ = some (.int .i64 a5) ∧ w'.cell? ⟨w.heap.size, 6, none⟩ = some (.int .i64 a6)) ∧ (w'.cell? ⟨w.heap.size + 1, 0, none⟩ = some (.int .i64 b0) ∧ w'.cell? ⟨w.heap.size + 1, 1, none⟩ = some (.int .i64 b1) ∧ w'.cell? ⟨w.heap.size + 1, 2, none⟩ = some (.int .i64 b2) ∧ w'.cell? ⟨w.heap.size + 1, 3, none⟩ = some (.int .i64 b3) ∧ w'.cell? ⟨w.heap.size + 1, 4, none⟩ = some (.int .i64 b4) ∧ w'.cell? ⟨w.heap.size + 1, 5, none⟩ = some (.int .i64 b5) ∧ w'.cell? ⟨w.heap.size + 1, 6, none⟩ = some (.int .i64 b6)))
        ((refine ⟨HQ1.out _ ?_, HQ2.out _ ?_⟩ <;> (first | exact hg9 | exact hg8 | exact hg6 | exact HD5.out)))
        (first
        | (go_at_call_of 16 b0; refine (KB.out _).mono ?_; rintro e w9 ⟨⟨p9, n9, c9, rfl, hi9⟩, hb9⟩; have hg9 : w5.grownBy w9 (some g) := gtrans hg8 (gbelow hb9); have k9 := conv_is hi9; have k89 := conv_is (Is.below hi8 hb9))
        | (go_at_call_of 16 a0; refine (KA.out _).mono ?_; rintro e w8 ⟨⟨p8, n8, c8, rfl, hi8⟩, hb8⟩; have hg8 : w5.grownBy w8 (some g) := gtrans hg6 (gbelow hb8); have k8 := conv_is hi8)
        | (go_at_call 18; refine (end_any _ g _ _ _ _ hr6).mono ?_; rintro e w7 ⟨rfl, hw7⟩; subst w7)
        | (go_at_call 12; refine (KT.out _ g _ _ _ (HR5.out.below (Below.refl _ _).drew)).mono ?_; rintro e w6 ⟨rfl, ⟨p6, n6, c6', hr6⟩, hg6'⟩; have hg6 : w5.grownBy w6 (some g) := gtrans HD5.out hg6'; clear hg6')))
    | fail
  all_goals
    have HB9 : Hid (Below w.heap.size w w9) := below_g HB5.out hg9 (by have := HG.out; have := HZ4.out; omega)
    go_wp2
    go_ret
    exact ⟨rfl, HB9.out⟩
theorem back_any (a b : V7) (w : World) : Calls Try.prog 8 #[a.v, b.v] w fun e w' => e = .returned (.bool true) ∧ Below w.heap.size w w' := by
  cases h : (C.good a && C.good b) with
  | false => exact back_bad a b w h
  | true =>
    rw [Bool.and_eq_true] at h
    exact back_good a b w h.1 h.2
theorem back_all (a : V7) (ha : C.fits7 a) (b : V7) (hb : C.fits7 b) (w : World) : Calls Try.prog 8 #[.agg #[.int .i64 a.x0, .int .i64 a.x1, .int .i64 a.x2, .int .i64 a.x3, .int .i64 a.x4, .int .i64 a.x5, .int .i64 a.x6], .agg #[.int .i64 b.x0, .int .i64 b.x1, .int .i64 b.x2, .int .i64 b.x3, .int .i64 b.x4, .int .i64 b.x5, .int .i64 b.x6]] w fun e w' => e = .returned (.bool true) ∧ Below w.heap.size w w' :=
  back_any a b w
end Go.Proofs.Ytmjkablhambelaa
