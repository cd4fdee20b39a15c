/-
  PackParts: what is written behind bytes leaves them; one behind the other is both's bytes.
-/
import Derived.Test.YtpkabcnlkdiajaaKFew
import Derived.Deep.RegionHeldLaw
namespace Go.Proofs.Ytpkabcnlkdiajaa
open Go.RowKit Go.Lib
set_option linter.unusedVariables false

/-- A row handed in. -/
def Arg (w : World) (x : Part) : Prop := x.ok w ∧ x.l.length ≤ x.cap ∧ x.cap ≤ maxLen
set_option maxRecDepth 100000 in
set_option maxHeartbeats 4000000 in
theorem parts_any (pb : Option Addr) (lb : List UInt8) (cb : Nat) (v : Int) (wv : (Lit.int .i64 v).wf = true) (px : Option Addr) (lx : List UInt8) (cx : Nat) (w : World) (hb : Arg w ⟨pb, lb, cb⟩) (hx : Arg w ⟨px, lx, cx⟩) :
    Calls Try.prog 7 #[.slice pb lb.length cb, .int .i64 v, .slice px lx.length cx] w fun e w' => e = .returned (.bool true) ∧ Below w.heap.size w w' := by
  have HV : Hid (C.fits v) := fits_of_wf wv
  have HB : Hid (Is w pb lb.length cb lb) := ⟨rfl, hb.1⟩
  have HX : Hid (Is w px lx.length cx lx) := ⟨rfl, hx.1⟩
  have hlb : lb.length ≤ 9223372036854775807 := Nat.le_trans hb.1.1 (by decide)
  have hlx : lx.length ≤ 9223372036854775807 := Nat.le_trans hx.1.1 (by decide)
  obtain ⟨nb, hnb⟩ : ∃ n, n = lb.length := ⟨_, rfl⟩
  obtain ⟨nx, hnx⟩ : ∃ n, n = lx.length := ⟨_, rfl⟩
  have HNB : Hid (nb = lb.length) := hnb
  have HNX : Hid (nx = lx.length) := hnx
  rw [← hnb] at HB hlb ⊢
  rw [← hnx] at HX hlx ⊢
  clear hb hx wv hnb hnx
  go_enter Try.func7, Try.ntmps7
  go_wp2_with fail
  refine (awake_any w).mono ?_
  rintro e w1 ⟨rfl, h1⟩
  by_cases hb1 : (100 : Int) < nb
  · go_wp2
    go_ret
    exact ⟨rfl, h1⟩
  by_cases hx1 : (100 : Int) < nx
  · go_wp2
    go_ret
    exact ⟨rfl, h1⟩
  have hcb := conv_is (HB.out.below h1)
  have HLB : Hid (lb.length ≤ 100) := by have := HNB.out; show _ ≤ _; omega
  have HLX : Hid (lx.length ≤ 100) := by have := HNX.out; show _ ≤ _; omega
  go_wp2_with fail
  refine (num_any pb nb cb lb v w1 (HB.out.below h1) HV.out (Nat.le_trans HLB.out (by decide))).mono ?_
  rintro e w2 ⟨⟨p2, n2, c2, rfl, hi2⟩, h2⟩
  have HI2 : Hid _ := hi2
  clear hi2 hcb
  go_wp2_with fail
  refine (bytes_any p2 n2 c2 _ px nx cx lx w2 HI2.out (HX.out.below (bt h1 h2)) (by have := HLB.out; have := (C.num_ten HV.out).2; simp only [List.length_append]; omega) (Nat.le_trans HLX.out (by decide))).mono ?_
  rintro e w3 ⟨⟨p3, n3, c3, rfl, hi3⟩, h3⟩
  have HB3 : Hid (Below w.heap.size w w3) := bt h1 (bt h2 h3)
  have HSW : Hid (∀ w', Below w3.heap.size w3 w' → (convert 25 9 (.slice p3 n3 c3)).run Try.prog w' = .ok (.string ⟨(lb ++ C.num v ++ C.byt lx).toArray⟩) w' ∧ (convert 25 9 (.slice pb nb cb)).run Try.prog w' = .ok (.string ⟨lb.toArray⟩) w' ∧ (convert 25 9 (.slice px nx cx)).run Try.prog w' = .ok (.string ⟨lx.toArray⟩) w') := by
    intro w' hw
    exact ⟨conv_is (hi3.below hw), conv_is (HB.out.below (bt HB3.out hw)), conv_is (HX.out.below (bt HB3.out hw))⟩
  have HBX : Hid (∀ w', Below w3.heap.size w3 w' → Is w' pb nb cb lb ∧ Is w' px nx cx lx) := fun w' hw => ⟨HB.out.below (bt HB3.out hw), HX.out.below (bt HB3.out hw)⟩
  clear hi3 h1 h2 h3
  generalize hLN : C.num v = LN at HSW
  generalize hLX : C.byt lx = LX at HSW
  have HLN : Hid (C.num v = LN) := hLN
  have HLXX : Hid (C.byt lx = LX) := hLX
  have hs1 : ¬ (9223372036854775807 < lb.length + LN.length) := by
    have := (C.num_ten HV.out).2
    rw [HLN.out] at this
    have := HLB.out
    omega
  have hs2 : ¬ (9223372036854775807 < lb.length + LN.length + LX.length) := by
    have h1 := (C.num_ten HV.out).2
    rw [HLN.out] at h1
    have h2 := HLB.out
    have h3 := HLX.out
    have h4 := (C.num_ten (show C.fits (lx.length : Int) from ⟨by omega, by omega⟩)).2
    have h5 : LX.length = (C.num (lx.length : Int)).length + lx.length := by rw [← HLXX.out, C.byt, List.length_append]
    omega
  have he1 : (lb ++ (LN ++ LX) == (ByteArray.mk lb.toArray ++ ByteArray.mk LN.toArray ++ ByteArray.mk LX.toArray).toList) = true := by
    rw [ByteArray.mk_append_mk, ByteArray.mk_append_mk, List.append_assoc]
    have e : (ByteArray.mk (lb ++ (LN ++ LX)).toArray).toList = lb ++ (LN ++ LX) := by go_simp
    rw [e]; simp
  clear hLN hLX
  go_wp2
  go_region_held_law (fun w' => (convert 25 9 (.slice p3 n3 c3)).run Try.prog w' = .ok (.string ⟨(lb ++ LN ++ LX).toArray⟩) w' ∧ (convert 25 9 (.slice pb nb cb)).run Try.prog w' = .ok (.string ⟨lb.toArray⟩) w' ∧ (convert 25 9 (.slice px nx cx)).run Try.prog w' = .ok (.string ⟨lx.toArray⟩) w')
    ((refine HSW.out _ ?_; repeat (first | exact Below.refl _ _ | assumption | refine Below.drew ?_)))
    (first
    | (go_at_call 20; refine (bytes_any pb nb cb lb px nx cx lx _ (HBX.out _ hb6).1 (HBX.out _ hb6).2 (Nat.le_trans HLB.out (by decide)) (Nat.le_trans HLX.out (by decide))).mono ?_; rintro e w7 ⟨⟨p7, n7, c7, rfl, hi7⟩, h7⟩; have hb7 : Below w3.heap.size w3 w7 := bt hb6 h7; rw [HLXX.out] at hi7; have k7 := conv_is hi7; have k67 := conv_is (Is.below hi6 h7))
    | (go_at_call 15; refine (text_any pb nb cb lb _ _ (HBX.out _ hb5).1 (Nat.le_trans HLB.out (by decide)) (by have := HLX.out; simp; omega)).mono ?_; rintro e w6 ⟨⟨p6, n6, c6, rfl, hi6⟩, h6⟩; have hb6 : Below w3.heap.size w3 w6 := bt hb5 h6; simp only [HLXX.out] at hi6; have k6 := conv_is hi6)
    | (go_at_call 20; refine (bytes_any none 0 0 [] px nx cx lx _ (Is.nil _) (HBX.out _ hb4).2 (by decide) (Nat.le_trans HLX.out (by decide))).mono ?_; rintro e w5 ⟨⟨p5, n5, c5, rfl, hi5⟩, h5⟩; have hb5 : Below w3.heap.size w3 w5 := bt hb4 h5; rw [List.nil_append, HLXX.out] at hi5; have k5 := conv_is hi5; have k45 := conv_is (Is.below hi4 h5))
    | (go_at_call 10; refine (num_nil v LN _ HV.out HLN.out).mono ?_; rintro e w4 ⟨⟨p4, n4, c4, rfl, hi4⟩, h4⟩; have hb4 : Below w3.heap.size w3 w4 := bt (Below.refl _ _).drew h4; have k4 := conv_is hi4))
  all_goals
    go_wp2
    go_ret
    exact ⟨rfl, bt HB3.out hb7⟩
end Go.Proofs.Ytpkabcnlkdiajaa
