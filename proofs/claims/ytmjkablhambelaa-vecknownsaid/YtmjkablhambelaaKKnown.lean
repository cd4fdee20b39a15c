/-
  VecKnown: what chapter 7 says at the ends.
-/
import Derived.Test.YtmjkablhambelaaWLaw
namespace Go.Proofs.Ytmjkablhambelaa
open Go.RowKit Go.Lib
set_option linter.unusedVariables false

theorem next_bad (a : V7) (r : Int) (w : World) (h : (C.isRep r && C.good a) = false) :
    Calls Try.prog 10 #[a.v, .int .i64 r] w fun e w' => e = .returned (.tuple #[.agg #[.int .i64 0, .int .i64 0, .int .i64 0, .int .i64 0, .int .i64 0, .int .i64 0, .int .i64 0], .agg #[.int .i64 0, .int .i64 0], .int .i64 1]) ∧ Below w.heap.size w w' := next_arg a r w h
theorem next_full (a : V7) (r : Int) (w : World) (k : Nat) (hr : r = k) (hk : k < 7) (hg : C.good a = true) (hl : C.at7 a k = 1099511627776) :
    Calls Try.prog 10 #[a.v, .int .i64 r] w fun e w' => e = .returned (.tuple #[.agg #[.int .i64 0, .int .i64 0, .int .i64 0, .int .i64 0, .int .i64 0, .int .i64 0, .int .i64 0], .agg #[.int .i64 0, .int .i64 0], .int .i64 2]) ∧ Below w.heap.size w w' := by subst hr; exact next_lim a k w hk hg hl
theorem get_zero (w : World) (g : Nat) (s : Option (List UInt8)) (p : Option Addr) (n c : Nat) (h : Rd w g s p n c) (hl : (s.getD []).length ≤ 100000) (hv : C.getV s = (zero7, none)) :
    Calls Try.prog 12 #[.pointer (some ⟨g, 0, none⟩)] w fun e w' => e = .returned (.agg #[.int .i64 0, .int .i64 0, .int .i64 0, .int .i64 0, .int .i64 0, .int .i64 0, .int .i64 0]) ∧ (∃ p' n' c', Rd w' g none p' n' c') ∧ w.grownBy w' (some g) := get_at w g s p n c zero7 none h hl hv
theorem get222 : C.getV (some [2, 2, 2]) = (zero7, none) :=
  (getV_eq (s0 := some [2, 2]) (s1 := some [2]) (s2 := some []) (s3 := none) (s4 := none) (s5 := none) (s6 := none) (x0 := 1) (x1 := 1) (x2 := 1) (x3 := 0) (x4 := 0) (x5 := 0) (x6 := 0)
    (by decide +kernel) (by decide +kernel) (by decide +kernel) (by decide +kernel) (by decide +kernel) (by decide +kernel) (by decide +kernel)).trans rfl
set_option maxRecDepth 100000 in
set_option maxHeartbeats 8000000 in
theorem known_any (w : World) : Calls Try.prog 3 #[] w fun e w' => e = .returned (.bool true) ∧ Below w.heap.size w w' := by
  have kE1 : ∀ w, (Op.equalIn 10000 24 (.agg #[.int .i64 0, .int .i64 0, .int .i64 0, .int .i64 0, .int .i64 0, .int .i64 0, .int .i64 0]) (.agg #[.int .i64 0, .int .i64 0, .int .i64 0, .int .i64 0, .int .i64 0, .int .i64 0, .int .i64 0])).run Try.prog w = .ok true w :=
    fun w => eq_vec (a := zero7) (b := zero7) (by decide) w
  go_enter Try.func3, Try.ntmps3
  go_wp2_with fail
  refine (awake_any w).mono ?_
  rintro e w1 ⟨rfl, h1⟩
  have HB1 : Hid (Below w.heap.size w w1) := h1
  clear h1
  go_wp2_with fail
  refine (next_bad zero7 7 w1 (by decide)).mono ?_
  rintro e w2 ⟨rfl, h2⟩
  have HB2 : Hid (Below w.heap.size w w2) := bt HB1.out h2
  clear h2
  go_wp2_with fail
  refine (next_bad ⟨-1, 0, 0, 0, 0, 0, 0⟩ 0 _ (by decide)).mono ?_
  rintro e w3 ⟨rfl, h3⟩
  have HB3 : Hid (Below w.heap.size w w3) := bt HB2.out (bt (bt (below_new _ _) (below_new _ _)) h3)
  clear h3
  go_wp2_with fail
  refine (next_full ⟨1099511627776, 0, 0, 0, 0, 0, 0⟩ 0 _ 0 rfl (by decide) (by decide) (by decide)).mono ?_
  rintro e w4 ⟨rfl, h4⟩
  have HB4 : Hid (Below w.heap.size w w4) := bt HB3.out (bt (bt (below_new _ _) (below_new _ _)) h4)
  clear h4
  go_wp2_with fail
  refine (read_new _ [2, 2, 2] _ _ 3 3 (by simp) rfl rfl (by decide)).mono ?_
  rintro e w5 ⟨⟨g, p5, n5, c5, rfl, hlo, hlt, hr5⟩, h5⟩
  have HB5 : Hid (Below w.heap.size w w5) := bt HB4.out (bt (bt (below_new _ _) (below_new _ _)) h5)
  have HG : Hid (w.heap.size ≤ g) := by have h1 := HB4.out.size; have h2 := (below_new w4 (.cells #[.int .i64 0] 0)).size; have h3 : w4.heap.size ≤ g := Nat.le_trans (bt (below_new _ _) (below_new _ _)).size hlo; exact Nat.le_trans h1 h3
  have HR5 : Hid _ := hr5
  clear h5 hlo hlt hr5
  go_wp2_with fail
  refine (get_zero w5 g _ _ _ _ HR5.out (by decide) get222).mono ?_
  rintro e w6 ⟨rfl, ⟨p6, n6, c6, hr6⟩, hg6⟩
  have HB6 : Hid (Below w.heap.size w w6) := below_g HB5.out hg6 HG.out
  have HR6 : Hid _ := hr6
  have HLT6 : Hid (g < w6.heap.size) := hr6.lt
  clear hg6 hr6
  go_wp2_with fail
  refine (good_at (a := ⟨1099511627776, 0, 0, 0, 0, 0, 0⟩) (b := true) (by decide) _).mono ?_
  rintro e w7 ⟨rfl, h7⟩
  have HQ7 : Hid _ := kept_block h7
  have HB7 : Hid (Below w6.heap.size w6 w7) := bt (below_new _ _) h7
  clear h7
  go_wp2_with fail
  refine (good_at (a := ⟨1099511627777, 0, 0, 0, 0, 0, 0⟩) (b := false) (by decide) _).mono ?_
  rintro e w8 ⟨rfl, h8⟩
  have HQ8 : Hid _ := keep_on h8 HQ7.out
  have HB8 : Hid (Below w6.heap.size w6 w8) := bt HB7.out h8
  clear h8
  go_wp2_with fail
  refine (has_at (a := ⟨0, 3, 0, 0, 0, 0, 0⟩) (r := 1) (n := 3) (x := true) (by decide) _).mono ?_
  rintro e w9 ⟨rfl, h9⟩
  have HQ9 : Hid _ := keep_on h9 HQ8.out
  have HB9 : Hid (Below w6.heap.size w6 w9) := bt HB8.out h9
  clear h9
  go_wp2_with fail
  refine (has_at (a := ⟨0, 3, 0, 0, 0, 0, 0⟩) (r := 1) (n := 4) (x := false) (by decide) _).mono ?_
  rintro e w10 ⟨rfl, h10⟩
  have HQ10 : Hid _ := keep_on h10 HQ9.out
  have HB10 : Hid (Below w6.heap.size w6 w10) := bt HB9.out h10
  clear h10
  go_wp2_with fail
  refine (has_at (a := ⟨9, 0, 0, 0, 0, 0, 0⟩) (r := -1) (n := 1) (x := false) (by decide) _).mono ?_
  rintro e w11 ⟨rfl, h11⟩
  have HQ11 : Hid _ := keep_on h11 HQ10.out
  have HB11 : Hid (Below w6.heap.size w6 w11) := bt HB10.out h11
  clear h11
  go_wp2_with fail
  refine (has_at (a := ⟨9, 0, 0, 0, 0, 0, 0⟩) (r := 0) (n := 0) (x := false) (by decide) _).mono ?_
  rintro e w12 ⟨rfl, h12⟩
  have hq12 := keep_on h12 HQ11.out
  have HB12 : Hid (Below w6.heap.size w6 w12) := bt HB11.out h12
  obtain ⟨c0, c1, c2, c3, c4, c5, c6⟩ := box7 hq12
  clear h12 hq12 HQ11 HQ10 HQ9 HQ8 HQ7
  go_wp2_with fail
  refine (bad_any w12 g _ _ _ _ (HR6.out.below HB12.out)).mono ?_
  rintro e w13 ⟨rfl, hw⟩
  subst w13
  go_wp2_with fail
  refine (put_nil [2, 0, 0, 0, 0, 0, 0] ⟨1, 0, 0, 0, 0, 0, 0⟩ w12 (good_fits (by decide)) (by decide +kernel)).mono ?_
  rintro e w14 ⟨⟨p14, n14, c14, rfl, hi14⟩, h14⟩
  have k14 := conv_is hi14
  clear hi14
  go_wp2
  go_ret
  exact ⟨rfl, bt HB6.out (bt HB12.out h14)⟩
end Go.Proofs.Ytmjkablhambelaa
