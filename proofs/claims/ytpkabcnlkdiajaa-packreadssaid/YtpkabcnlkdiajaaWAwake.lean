/-
  What the document tells of two numbers.
-/
import Derived.Test.YtpkabcnlkdiajaaWTake
namespace Go.Proofs.Ytpkabcnlkdiajaa
open Go.RowKit Go.Lib
set_option linter.unusedVariables false

theorem num_m1 : C.num (-1) = [1] := by
  show C.grp 1 = _
  rw [C.grp_small (by omega)]; rfl
theorem num_150 : C.num 150 = [172, 2] := by
  show C.grp 300 = _
  rw [C.grp_big (by omega), C.grp_small (by omega)]; rfl
/-- A write behind nothing. -/
theorem num_nil (v : Int) (l : List UInt8) (w : World) (hv : C.fits v) (h : C.num v = l) :
    Calls Try.prog 10 #[.slice none 0 0, .int .i64 v] w fun e w' => (∃ p n c, e = .returned (.slice p n c) ∧ Is w' p n c l) ∧ Below w.heap.size w w' := by
  subst h
  exact num_any none 0 0 [] v w (Is.nil _) hv (by simp)
/-- A reader of a call's own, beside what else was there. -/
theorem below_g {W w w' : World} {g : Nat} (hb : Below W.heap.size W w) (hg : w.grownBy w' (some g)) (h : W.heap.size ≤ g) : Below W.heap.size W w' := hb.grown hg hb.size (fun k hk => by cases hk; exact h)
set_option maxHeartbeats 4000000 in
theorem awake_any (w : World) : Calls Try.prog 8 #[] w fun e w' => e = .returned (.bool true) ∧ Below w.heap.size w w' := by
  have F1 : Hid (C.fits 150) := ⟨by omega, by omega⟩
  have F2 : Hid (C.fits (-1)) := ⟨by omega, by omega⟩
  have HR : Hid (C.rnum (some [172, 2]) 0 150 = (150, some [])) := by
    have := C.rnum_num (v := 150) (least := 0) (most := 150) F1.out (by omega) (by omega) []
    rw [num_150] at this; exact this
  go_enter Try.func8, Try.ntmps8
  go_wp2_with fail
  refine (num_nil 150 [172, 2] w F1.out num_150).mono ?_
  rintro e w1 ⟨⟨p1, n1, c1, rfl, hi1⟩, h1⟩
  have HI1 : Hid _ := hi1
  clear hi1
  go_wp2_with fail
  refine (read_any w1 p1 n1 c1 _ HI1.out (by decide)).mono ?_
  rintro e w2 ⟨⟨g, p2, n2, c2, rfl, hg, hr2⟩, h2⟩
  have HR2 : Hid _ := hr2
  have HG : Hid (w.heap.size ≤ g) := Nat.le_trans h1.size hg
  clear hr2 hg
  go_wp2_with fail
  refine (num_nil (-1) [1] w2 F2.out num_m1).mono ?_
  rintro e w3 ⟨⟨p3, n3, c3, rfl, hi3⟩, h3⟩
  have hc3 := conv_is hi3
  clear hi3
  go_wp2_with fail
  refine (num_nil 150 [172, 2] w3 F1.out num_150).mono ?_
  rintro e w4 ⟨⟨p4, n4, c4, rfl, hi4⟩, h4⟩
  have hc4 := conv_is hi4
  have HR4 : Hid _ := HR2.out.below (bt h3 h4)
  clear hi4
  go_wp2_with fail
  refine (rnum_at w4 g (some [172, 2]) p2 n2 c2 0 150 150 (some []) HR4.out (by decide) HR.out).mono ?_
  rintro e w5 ⟨rfl, ⟨p5, n5, c5, hr5⟩, hg5⟩
  have HR5 : Hid _ := hr5
  clear hr5
  go_wp2_with fail
  refine (end_any w5 g _ _ _ _ HR5.out).mono ?_
  rintro e w6 ⟨rfl, hw6⟩
  subst w6
  go_wp2
  go_ret
  exact ⟨rfl, below_g (bt (bt h1 h2) (bt h3 h4)) hg5 HG.out⟩
end Go.Proofs.Ytpkabcnlkdiajaa
