/-
  PackFew: a number has as few bytes as can be; unlike numbers have unlike bytes; bounds are held.
-/
import Derived.Test.YtpkabcnlkdiajaaKKnown
namespace Go.Proofs.Ytpkabcnlkdiajaa
open Go.RowKit Go.Lib
set_option linter.unusedVariables false

theorem fits_of_wf {a : Int} (h : (Lit.int .i64 a).wf = true) : C.fits a := by
  have h1 : IntKind.i64.min = -9223372036854775808 := rfl
  have h2 : IntKind.i64.max = 9223372036854775807 := rfl
  simp only [Lit.wf, Bool.and_eq_true, decide_eq_true_eq] at h
  exact ⟨by omega, by omega⟩
set_option maxRecDepth 100000 in
set_option maxHeartbeats 4000000 in
/-- The walk, what is drawn out of the numbers given. -/
theorem few_walk (a b least most v : Int) (s1 : Option (List UInt8)) (w : World) (ha : C.fits a) (hb : C.fits b) (hr : C.rnum (some (C.num a)) least most = (v, s1))
    (hc : (least ≤ a ∧ a ≤ most ∧ v = a ∧ s1 = some []) ∨ (¬ (least ≤ a ∧ a ≤ most) ∧ v = 0 ∧ s1 = none)) :
    Calls Try.prog 6 #[.int .i64 a, .int .i64 b, .int .i64 least, .int .i64 most] w fun e w' => e = .returned (.bool true) ∧ Below w.heap.size w w' := by
  have HA : Hid (C.fits a) := ha
  have HBF : Hid (C.fits b) := hb
  have HR : Hid (C.rnum (some (C.num a)) least most = (v, s1)) := hr
  have HC : Hid _ := hc
  clear ha hb hr hc
  go_enter Try.func6, Try.ntmps6
  go_wp2_with fail
  refine (awake_any w).mono ?_
  rintro e w1 ⟨rfl, h1⟩
  go_wp2_with fail
  refine (num_nil a _ w1 HA.out rfl).mono ?_
  rintro e w2 ⟨⟨p2, n2, c2, rfl, hi2⟩, h2⟩
  have HI2 : Hid (Is w2 p2 n2 c2 (C.num a)) := hi2
  have hn2 : 1 ≤ n2 ∧ n2 ≤ 10 := by have := C.num_ten HA.out; rw [hi2.1]; exact this
  obtain ⟨hn21, hn22⟩ := hn2
  clear hi2
  go_wp2_with fail
  refine (num_nil b _ w2 HBF.out rfl).mono ?_
  rintro e w3 ⟨⟨p3, n3, c3, rfl, hi3⟩, h3⟩
  have HI3 : Hid (Is w3 p3 n3 c3 (C.num b)) := hi3
  clear hi3
  go_wp2_with fail
  refine (read_at w3 p2 n2 c2 (C.num a) (HI2.out.below h3) (Nat.le_trans (C.num_ten HA.out).2 (by decide))).mono ?_
  rintro e w4 ⟨⟨g, p4, n4, c4, rfl, hlo, hlt, hr4⟩, h4⟩
  have HR4 : Hid _ := hr4
  have HLO : Hid (w.heap.size ≤ g) := by have := (bt h1 (bt h2 h3)).size; show _ ≤ _; omega
  clear hr4 hlo hlt
  go_wp2_with fail
  refine (rnum_at w4 g _ _ _ _ least most v s1 HR4.out (Nat.le_trans (C.num_ten HA.out).2 (by decide)) HR.out).mono ?_
  rintro e w5 ⟨rfl, ⟨p5, n5, c5, hr5⟩, hg5⟩
  have HR5 : Hid _ := hr5
  have HB5 : Hid (Below w.heap.size w w5) := below_g (bt (bt h1 (bt h2 h3)) h4) hg5 HLO.out
  have hcx := conv_is (Is.grown (HI2.out.below (bt h3 h4)) hg5 HR4.out.nb)
  have hcy := conv_is (Is.grown (HI3.out.below h4) hg5 HR4.out.nb)
  clear hr5 hg5
  by_cases hab : a = b
  · subst hab
    rcases HC.out with ⟨k1, k2, k3, rfl⟩ | ⟨k1, rfl, rfl⟩
    · subst v
      go_wp2_with fail
      refine (bad_any w5 g _ _ _ _ HR5.out).mono ?_
      rintro e w6 ⟨rfl, hw6⟩
      subst w6
      go_wp2
      go_ret
      exact ⟨rfl, HB5.out⟩
    · by_cases hk : a < least
      · have hd1 : ¬ (least ≤ a) := by omega
        go_wp2_with fail
        refine (bad_any w5 g _ _ _ _ HR5.out).mono ?_
        rintro e w6 ⟨rfl, hw6⟩
        subst w6
        go_wp2
        go_ret
        exact ⟨rfl, HB5.out⟩
      · have hd1 : least ≤ a := by omega
        have hd2 : ¬ (a ≤ most) := fun h => k1 ⟨hd1, h⟩
        go_wp2_with fail
        refine (bad_any w5 g _ _ _ _ HR5.out).mono ?_
        rintro e w6 ⟨rfl, hw6⟩
        subst w6
        go_wp2
        go_ret
        exact ⟨rfl, HB5.out⟩
  · have hab' : (a == b) = false := by simpa using hab
    have hne : ¬ (C.num a = C.num b) := fun h => hab (C.num_inj HA.out HBF.out h)
    have hs : (C.num a == C.num b) = false := by simpa using hne
    rcases HC.out with ⟨k1, k2, k3, rfl⟩ | ⟨k1, rfl, rfl⟩
    · subst v
      go_wp2_with fail
      refine (bad_any w5 g _ _ _ _ HR5.out).mono ?_
      rintro e w6 ⟨rfl, hw6⟩
      subst w6
      go_wp2
      go_ret
      exact ⟨rfl, HB5.out⟩
    · by_cases hk : a < least
      · have hd1 : ¬ (least ≤ a) := by omega
        go_wp2_with fail
        refine (bad_any w5 g _ _ _ _ HR5.out).mono ?_
        rintro e w6 ⟨rfl, hw6⟩
        subst w6
        go_wp2
        go_ret
        exact ⟨rfl, HB5.out⟩
      · have hd1 : least ≤ a := by omega
        have hd2 : ¬ (a ≤ most) := fun h => k1 ⟨hd1, h⟩
        go_wp2_with fail
        refine (bad_any w5 g _ _ _ _ HR5.out).mono ?_
        rintro e w6 ⟨rfl, hw6⟩
        subst w6
        go_wp2
        go_ret
        exact ⟨rfl, HB5.out⟩
theorem few_any (a : Int) (wa : (Lit.int .i64 a).wf = true) (b : Int) (wb : (Lit.int .i64 b).wf = true) (least : Int) (wl : (Lit.int .i64 least).wf = true) (most : Int) (wm : (Lit.int .i64 most).wf = true) (w : World) :
    Calls Try.prog 6 #[.int .i64 a, .int .i64 b, .int .i64 least, .int .i64 most] w fun e w' => e = .returned (.bool true) ∧ Below w.heap.size w w' := by
  have ha := fits_of_wf wa
  by_cases h : least ≤ a ∧ a ≤ most
  · have := C.rnum_num ha h.1 h.2 []
    rw [List.append_nil] at this
    exact few_walk a b least most a (some []) w ha (fits_of_wf wb) this (Or.inl ⟨h.1, h.2, rfl, rfl⟩)
  · have := C.rnum_out (least := least) (most := most) ha (by omega) []
    rw [List.append_nil] at this
    exact few_walk a b least most 0 none w ha (fits_of_wf wb) this (Or.inr ⟨h, rfl, rfl⟩)
end Go.Proofs.Ytpkabcnlkdiajaa
