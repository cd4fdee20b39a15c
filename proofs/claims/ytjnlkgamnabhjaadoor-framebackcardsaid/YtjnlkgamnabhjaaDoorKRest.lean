/-
  FrameRest: what is behind a frame does not count for it.
-/
import Derived.Test.YtjnlkgamnabhjaaDoorKTorn
namespace Go.Proofs.YtjnlkgamnabhjaaDoor
open Go.RowKit Go.Lib
set_option linter.unusedVariables false

theorem cat_list (a b : List UInt8) : ((⟨a.toArray⟩ : ByteArray) ++ ⟨b.toArray⟩).toList = a ++ b := by
  rw [ByteArray.toList_eq, ByteArray.data_append, Array.toList_append]
set_option maxHeartbeats 4000000 in
theorem rest_any (pa : Option Addr) (la : List UInt8) (ca : Nat) (pb : Option Addr) (lb : List UInt8) (cb : Nat) (w : World) (hT : Tabs w) (ha : Arg w ⟨pa, la, ca⟩) (hb : Arg w ⟨pb, lb, cb⟩) :
    Calls Tryd.prog 7 #[.slice pa la.length ca, .slice pb lb.length cb] w fun e w' => e = .returned (.bool true) ∧ Below w.heap.size w w' := by
  have hla : la.length ≤ 9223372036854775807 := Nat.le_trans ha.1.1 (by decide)
  have hlb : lb.length ≤ 9223372036854775807 := Nat.le_trans hb.1.1 (by decide)
  have HA : Hid (Part.ok w ⟨pa, la, ca⟩) := ha.1
  have HB : Hid (Part.ok w ⟨pb, lb, cb⟩) := hb.1
  clear ha hb
  go_enter Tryd.func7, Tryd.ntmps7
  go_wp2_with fail
  refine (awake_any w hT).mono ?_
  rintro e w1 ⟨rfl, h1⟩
  have HA1 : Hid (Part.ok w1 ⟨pa, la, ca⟩) := Part.ok.below HA.out h1
  by_cases h3 : (200 : Int) < la.length
  · go_wp2
    go_ret
    exact ⟨rfl, h1⟩
  by_cases h4 : (200 : Int) < lb.length
  · go_wp2
    go_ret
    exact ⟨rfl, h1⟩
  go_wp2_with fail
  refine (put_at (9 + la.length) none 0 [] 0 pa la.length la ca w w1 rfl rfl hT h1 (nil_ok _) HA1.out (by omega) (by decide) (by simp)).mono ?_
  rintro e w2 ⟨⟨p2, c2, rfl, hok2, hc2, hm2⟩, _, h2⟩
  have HOK : Hid (Part.ok w2 ⟨p2, C.fr la, c2⟩) := hok2
  have HFL : Hid ((C.fr la).length = 9 + la.length) := C.fr_length la
  have HE : Hid (Own (w2.alloc (.cells #[] 5)) w2.heap.size (.slice (some ⟨w2.heap.size, 0, none⟩) 0 0) []) := Own.empty w2 w2.heap.size (Nat.le_refl _)
  have HW2 : Hid (Below w.heap.size w w2) := h2
  clear hok2 hm2 hc2
  go_wp2_with (first
    | (at_builtin; ((refine wpList_append_part rfl _ _ rfl w2.heap.size _ ([] ++ C.fr la) rfl ho3 ⟨pb, lb, cb⟩ rfl (Part.ok.below HB.out (bt HW2.out h3')) (by rw [List.nil_append, HFL.out]; show 9 + la.length + lb.length ≤ 100000; omega) h3'.size ?_; intro v4 w4 ho4 hg4; have h4' : Below w2.heap.size w2 w4 := Own.grown ho3 h3' h3'.size hg4; obtain ⟨p4, c4, rfl, hok4, hc4, hm4⟩ := Own.full ho4; clear hg4 ho4)))
    | (at_builtin; ((refine wpList_append_n rfl _ _ rfl w2.heap.size _ [] rfl HE.out ⟨p2, C.fr la, c2⟩ (9 + la.length) rfl HFL.out.symm (Part.ok.below HOK.out (below_new _ _)) (by rw [HFL.out]; show 0 + (9 + la.length) ≤ 100000; omega) (by simp) ?_; intro v3 w3 ho3 hg3; have h3' : Below w2.heap.size w2 w3 := Own.grown HE.out (below_new _ _) (by simp) hg3; clear hg3))))
  have HOK4 : Hid (Part.ok w4 ⟨p4, C.fr la ++ lb, c4⟩) := hok4
  have HC4 : Hid ((C.fr la ++ lb).length ≤ c4) := hc4
  have HM4 : Hid (c4 ≤ maxLen) := hm4
  have HW4 : Hid (Below w.heap.size w w4) := bt HW2.out h4'
  have HB24 : Hid (Below w2.heap.size w2 w4) := h4'
  clear hok4 hc4 hm4 ho3 h3' h4' HE
  refine (get_at p4 _ (C.fr la ++ lb) c4 la lb w w4 (by rw [List.length_append]) hT HW4.out HOK4.out HC4.out HM4.out (by rw [List.length_append, HFL.out]; omega) (by rw [C.fe_frame la lb (by omega)]) (C.rec_frame la lb (by omega)) (C.rest_frame la lb (by omega))).mono ?_
  rintro e w5 ⟨⟨q1, d1, q2, d2, rfl, ho1, ho2⟩, h45, h5⟩
  have HQ1 : Hid (Part.ok w5 ⟨q1, la, d1⟩) := ho1
  have HQ2 : Hid (Part.ok w5 ⟨q2, lb, d2⟩) := ho2
  have HB25 : Hid (Below w2.heap.size w2 w5) := bt HB24.out h45
  clear ho1 ho2 h45
  go_wp2_with fail
  refine (put_at (lb.length + (9 + la.length)) pb lb.length lb cb pa la.length la ca w w5 rfl rfl hT h5 (Part.ok.below HB.out h5) (Part.ok.below HA.out h5) (by omega) (by omega) rfl).mono ?_
  rintro e w6 ⟨⟨p6, c6, rfl, hok6, _, _⟩, h56, h6⟩
  have k1 := conv_at (n := la.length) (Part.ok.below HQ1.out h56) rfl
  have k2 := conv_at (n := lb.length) (Part.ok.below HQ2.out h56) rfl
  have k3 := conv_at (n := la.length) (Part.ok.below HA.out h6) rfl
  have k4 := conv_at (n := lb.length) (Part.ok.below HB.out h6) rfl
  have k5 := conv_at (n := lb.length + (9 + la.length)) hok6 (by rw [List.length_append, HFL.out])
  have k6 := conv_at (n := 9 + la.length) (Part.ok.below HOK.out (bt HB25.out h56)) HFL.out.symm
  have hs : ¬ 9223372036854775807 < lb.length + (C.fr la).length := by rw [HFL.out]; omega
  clear hok6
  go_wp2
  go_ret
  exact ⟨ret_bool (by rw [cat_list]; simp), h6⟩
end Go.Proofs.YtjnlkgamnabhjaaDoor
