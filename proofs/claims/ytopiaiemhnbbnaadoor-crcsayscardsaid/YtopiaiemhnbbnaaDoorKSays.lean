/-
  CrcSays: any bytes' sum, in whatever parts, is as the document says.
-/
import Derived.Test.YtopiaiemhnbbnaaDoorWOwn
namespace Go.Proofs.YtopiaiemhnbbnaaDoor
open Go.RowKit Go.Lib
set_option linter.unusedVariables false

set_option maxHeartbeats 2000000 in
theorem says_any (pa : Option Addr) (la : List UInt8) (ca : Nat) (pb : Option Addr) (lb : List UInt8) (cb : Nat) (pc : Option Addr) (lc : List UInt8) (cc : Nat) (w : World) (hT : Tabs w) (ha : (Part.mk pa la ca).ok w) (hb : (Part.mk pb lb cb).ok w) (hc : (Part.mk pc lc cc).ok w) :
    Calls Tryd.prog 3 #[.slice pa la.length ca, .slice pb lb.length cb, .slice pc lc.length cc] w fun e w' => e = .returned (.bool true) ∧ Below w.heap.size w w' := by
  have hla : la.length ≤ 9223372036854775807 := Nat.le_trans ha.1 (by decide)
  have hlb : lb.length ≤ 9223372036854775807 := Nat.le_trans hb.1 (by decide)
  have hlc : lc.length ≤ 9223372036854775807 := Nat.le_trans hc.1 (by decide)
  have HA : Hid (Part.ok w ⟨pa, la, ca⟩) := ha
  have HB : Hid (Part.ok w ⟨pb, lb, cb⟩) := hb
  have HC : Hid (Part.ok w ⟨pc, lc, cc⟩) := hc
  clear ha hb hc
  go_enter Tryd.func3, Tryd.ntmps3
  go_wp2_with fail
  refine (awake_any w hT).mono ?_
  rintro e w1 ⟨rfl, h1⟩
  have hT1 := hT.below h1
  have HA1 : Hid (Part.ok w1 ⟨pa, la, ca⟩) := Part.ok.below HA.out h1
  have HB1 : Hid (Part.ok w1 ⟨pb, lb, cb⟩) := Part.ok.below HB.out h1
  have HC1 : Hid (Part.ok w1 ⟨pc, lc, cc⟩) := Part.ok.below HC.out h1
  by_cases h3 : (300 : Int) < la.length
  · go_wp2
    go_ret
    exact ⟨rfl, h1⟩
  by_cases h4 : (300 : Int) < lb.length
  · go_wp2
    go_ret
    exact ⟨rfl, h1⟩
  by_cases h5 : (300 : Int) < lc.length
  · go_wp2
    go_ret
    exact ⟨rfl, h1⟩
  have ho1 := Own.empty w1 w1.heap.size (Nat.le_refl _)
  go_wp2_with (first
    | (at_builtin; refine wpList_append_part rfl _ _ rfl w1.heap.size _ [] rfl ho1 ⟨pa, la, ca⟩ rfl (Part.ok.below HA1.out (below_new _ _)) (by simp only [List.length_nil]; omega) (by simp) ?_; intro v2 w2 ho2 hg2; have h2 := ho1.grown (below_new w1 _) (by simp) hg2)
    | (at_builtin; refine wpList_append_part rfl _ _ rfl w1.heap.size _ ([] ++ la) rfl ho2 ⟨pb, lb, cb⟩ rfl (Part.ok.below HB1.out h2) (by simp only [List.nil_append]; omega) h2.size ?_; intro v3 w3 ho3 hg3; have h3' := ho2.grown h2 h2.size hg3)
    | (at_builtin; refine wpList_append_part rfl _ _ rfl w1.heap.size _ ([] ++ la ++ lb) rfl ho3 ⟨pc, lc, cc⟩ rfl (Part.ok.below HC1.out h3') (by simp only [List.nil_append, List.length_append]; omega) h3'.size ?_; intro v4 w4 ho4 hg4; have h4' := ho3.grown h3' h3'.size hg4))
  have hb4 := bt h1 h4'
  have hT4 := hT.below hb4
  have HA4 : Hid (Part.ok w4 ⟨pa, la, ca⟩) := Part.ok.below HA1.out h4'
  have HB4 : Hid (Part.ok w4 ⟨pb, lb, cb⟩) := Part.ok.below HB1.out h4'
  have HC4 : Hid (Part.ok w4 ⟨pc, lc, cc⟩) := Part.ok.below HC1.out h4'
  obtain ⟨pd, cd, rfl, hd⟩ := ho4.part
  have HD4 : Hid (Part.ok w4 ⟨pd, [] ++ la ++ lb ++ lc, cd⟩) := hd
  have HL : Hid ([] ++ la ++ lb ++ lc = la ++ lb ++ lc) := by show _ = _; simp
  generalize [] ++ la ++ lb ++ lc = ld at HL HD4
  have HS : Hid (C.crc ld = C.crc (la ++ lb ++ lc)) := by show _ = _; rw [HL.out]
  generalize hcs : C.crc (la ++ lb ++ lc) = s at HS
  have HCS : Hid (C.crc (la ++ lb ++ lc) = s) := hcs
  clear hcs ho1 ho2 ho3 ho4 hg2 hg3 hg4 hd
  refine (of_newB w4 [⟨pa, la, ca⟩, ⟨pb, lb, cb⟩, ⟨pc, lc, cc⟩] (s.toNat : Nat) 3 _ 3 _ rfl rfl rfl hT4 (by simp) (ok_cons HA4.out (ok_cons HB4.out (ok_one HC4.out))) (by rw [← HCS.out]; simp [joined])).mono ?_
  rintro e w5 ⟨rfl, h5'⟩
  have hT5 := hT4.below h5'
  have HD5 : Hid (Part.ok w5 ⟨pd, ld, cd⟩) := Part.ok.below HD4.out h5'
  go_wp2_with fail
  refine (rcrc_at pd ld cd s w5 HD5.out.1 HD5.out.2 HS.out).mono ?_
  rintro e w5 ⟨rfl, rfl⟩
  go_wp2_with fail
  refine (of_newB w5 [⟨pd, ld, cd⟩] (s.toNat : Nat) 1 _ 1 _ rfl rfl rfl hT5 (by simp) (ok_one HD5.out) (by rw [← HS.out]; simp [joined])).mono ?_
  rintro e w6 ⟨rfl, h6⟩
  have hT6 := hT5.below h6
  have hb6 := bt (bt h4' h5') h6
  have HA6 : Hid (Part.ok w6 ⟨pa, la, ca⟩) := Part.ok.below HA1.out hb6
  have HB6 : Hid (Part.ok w6 ⟨pb, lb, cb⟩) := Part.ok.below HB1.out hb6
  have HC6 : Hid (Part.ok w6 ⟨pc, lc, cc⟩) := Part.ok.below HC1.out hb6
  have ho6 := Own.empty w6 w6.heap.size (Nat.le_refl _)
  go_wp2_with (first
    | (at_builtin; refine wpList_append_part rfl _ _ rfl w6.heap.size _ [] rfl ho6 ⟨pb, lb, cb⟩ rfl (Part.ok.below HB6.out (below_new _ _)) (by simp only [List.length_nil]; omega) (by simp) ?_; intro v7 w7 ho7 hg7; have h7 := ho6.grown (below_new w6 _) (by simp) hg7)
    | (at_builtin; refine wpList_append_part rfl _ _ rfl w6.heap.size _ ([] ++ lb) rfl ho7 ⟨pc, lc, cc⟩ rfl (Part.ok.below HC6.out h7) (by simp only [List.nil_append]; omega) h7.size ?_; intro v8 w8 ho8 hg8; have h8 := ho7.grown h7 h7.size hg8; obtain ⟨pf, cf, rfl, hf⟩ := ho8.part; have HLF : Hid ([] ++ lb ++ lc = lb ++ lc) := rfl; generalize [] ++ lb ++ lc = lf at HLF hf ho8 ⊢))
  refine (of_newB w8 [⟨pa, la, ca⟩, ⟨pf, lf, cf⟩] (s.toNat : Nat) 2 _ 2 _ rfl rfl rfl (hT6.below h8) (by simp) (ok_cons (Part.ok.below HA6.out h8) (ok_one hf)) (by rw [← HCS.out]; simp [joined, HLF.out])).mono ?_
  rintro e w9 ⟨rfl, h9⟩
  clear ho6 ho7 ho8 hf hg7 hg8
  go_wp2
  go_ret
  exact ⟨rfl, bt (bt (bt h1 hb6) h8) h9⟩
end Go.Proofs.YtopiaiemhnbbnaaDoor
