/-
  FrameKnown: what chapter 3 says of what is torn, of what is wrong.
-/
import Derived.Test.YtjnlkgamnabhjaaDoorKSays
namespace Go.Proofs.YtjnlkgamnabhjaaDoor
open Go.RowKit Go.Lib
set_option linter.unusedVariables false

theorem lit_ok (w : World) (l : List UInt8) (n : Nat) (vs : Array Value) (m : Nat × Nat) (hv : vs = (l.map fun b => Value.int .u8 (b.toNat : Nat)).toArray) (hl : l.length ≤ maxLen) : Part.ok (w.alloc (.cells vs 5 m)) ⟨some ⟨w.heap.size, 0, none⟩, l, n⟩ := by
  subst hv; exact ⟨hl, bat_new w l 5 m⟩
theorem frab : C.fr ab = [1, 2, 0, 0, 0, 58, 90, 80, 35, 97, 98] := by decide +kernel
def spoilt : List UInt8 := [1, 2, 0, 0, 0, 58, 90, 80, 35, 97, 99]
theorem fe_spoilt : C.fe spoilt = (0, 3) := by decide +kernel
theorem fe_two : C.fe [2] = (0, 3) := by decide +kernel
theorem fe_max : C.fe [1, 0, 0, 1] = (0, 8) := by decide +kernel
theorem fe_over : C.fe [1, 1, 0, 1, 0] = (0, 3) := by decide +kernel
theorem fe_rest : C.fe [1, 2] = (0, 8) := by decide +kernel
theorem scan_more : C.scan (C.fr ab ++ [1, 2]) = ([ab], 11) := by
  rw [C.scan_frame ab [1, 2] (by decide), C.scan_stop (by rw [fe_rest]; decide)]; rfl
theorem made_row (w : World) : ∃ M : Array Value, (Instr.makeSlice 23 (.int .i64 65537) (.int .i64 65537)).run Tryd.prog w = .ok (.slice (some ⟨w.heap.size, 0, none⟩) 65537 65537) (w.alloc (.cells M 5)) :=
  ⟨_, run_make_row' (P := Tryd.prog) 23 5 (.int .u8 0) 1 Tryd.underlying23 info_u8 rfl .i64 .i64 65537 (by decide) (by decide) w⟩
theorem own_fr {w : World} {base : Nat} {v : Value} (h : Own w base v ([] ++ C.fr ab)) : ∃ g cap, v = .slice (some ⟨g, 0, none⟩) 11 cap ∧ base ≤ g ∧ 11 ≤ cap ∧ cap ≤ maxLen ∧ w.cell? ⟨g, 10, none⟩ = some (.int .u8 98) ∧ w.frozen? ⟨g, 10, none⟩ = false ∧ Own (w.setCell ⟨g, 10, none⟩ (.int .u8 99)) base (.slice (some ⟨g, 0, none⟩) 11 cap) spoilt := by
  have hl : (C.fr ab).length = 11 := by rw [C.fr_length]; rfl
  rw [List.nil_append] at h
  obtain ⟨g, cap, rfl, hg⟩ := Own.shape h (by omega)
  obtain ⟨p', c', hv, _, h1, h2⟩ := Own.full h
  simp only [Value.slice.injEq] at hv
  obtain ⟨_, _, rfl⟩ := hv
  have hc := Own.cell h rfl 10 (by omega)
  have hs := Own.set h rfl 10 99
  rw [show (C.fr ab).set 10 99 = spoilt from by rw [frab]; rfl] at hs
  rw [show (C.fr ab).getD 10 0 = 98 from by rw [frab]; rfl] at hc
  rw [hl] at h1 hs
  exact ⟨g, cap, by rw [hl], hg, h1, h2, hc.1, hc.2, hs⟩
theorem spoilt_length : spoilt.length = 11 := rfl
set_option maxHeartbeats 4000000 in
theorem known_any (w : World) (hT : Tabs w) :
    Calls Tryd.prog 3 #[] w fun e w' => e = .returned (.bool true) ∧ Below w.heap.size w w' := by
  have kc := fun (w : World) (C : Array Value) (n c : Nat) => Lib.run_convert_bytes_const (P := Tryd.prog) w 23 5 C n c Tryd.underlying23 Tryd.underlying5
  go_enter Tryd.func3, Tryd.ntmps3
  go_wp2_with fail
  refine (awake_any w hT).mono ?_
  rintro e w1 ⟨rfl, h1⟩
  go_wp2_with fail
  refine (put_at 11 none 0 [] 0 _ 2 ab 2 w _ rfl rfl hT (bt h1 (below_new _ _)) (nil_ok _) (ab_new _ _) (by decide) (by decide) rfl).mono ?_
  rintro e w2 ⟨⟨p2, c2, rfl, hok2, hc2, hm2⟩, _, h2⟩
  have HO2 : Hid (Part.ok w2 ⟨p2, C.fr ab, c2⟩) := hok2
  have HM2 : Hid (c2 ≤ maxLen) := hm2
  have hm2' : c2 ≤ 9223372036854775807 := Nat.le_trans hm2 (by decide)
  clear hok2 hm2 h1
  obtain ⟨M, hM⟩ := made_row w2
  obtain ⟨b, o, rfl, _⟩ : ∃ b o, p2 = some ⟨b, o, none⟩ ∧ True := by
    obtain ⟨b, o, hp, _⟩ := HO2.out.2 (show 0 < (C.fr ab).length by rw [C.fr_length]; omega)
    exact ⟨b, o, hp, trivial⟩
  go_wp2_with fail
  refine (put_big _ _ _ _ _ _ _ (by decide) (by decide)).mono ?_
  rintro e w' ⟨rfl, hw'⟩
  subst w'
  have h3 : Below w.heap.size w (w2.alloc (.cells M 5)) := bt h2 (below_new _ _)
  have HO3 : Hid (Part.ok (w2.alloc (.cells M 5)) ⟨some ⟨b, o, none⟩, C.fr ab, c2⟩) := HO2.out.below (below_new _ _)
  clear hM h2 HO2
  generalize w2.alloc (.cells M 5) = w3 at h3 HO3 ⊢
  go_wp2_with fail
  refine (get_bad_at none 0 [] 0 8 w w3 rfl hT h3 (nil_ok _) (Nat.le_refl _) (by decide) (by decide) (by rw [C.fe_nil]) (by decide)).mono ?_
  rintro e w4 ⟨rfl, h34, h4⟩
  go_wp2_with fail
  refine (get_bad_at _ 1 [2] _ 3 w _ rfl hT (bt h4 (below_new _ _)) (lit_ok _ _ _ _ _ rfl (show 1 ≤ maxLen by decide)) (by decide) (by decide) (by decide) (by rw [fe_two]) (by decide)).mono ?_
  rintro e w5 ⟨rfl, h45, h5⟩
  have HO5 : Hid (Part.ok w5 ⟨some ⟨b, o, none⟩, C.fr ab, c2⟩) := HO3.out.below (bt h34 (bt (below_new _ _) h45))
  have HT10 : Hid (((C.fr ab).take 10).length = 10) := by show _ = _; rw [List.length_take, C.fr_length]; rfl
  clear h3 h34 h4 h45 HO3
  go_wp2_with fail
  refine (get_bad_at _ 10 ((C.fr ab).take 10) _ 8 w w5 HT10.out.symm hT h5 ⟨by show ((C.fr ab).take 10).length ≤ maxLen; rw [HT10.out]; decide, BAt.pre HO5.out.2 10⟩ (by rw [HT10.out]; omega) HM2.out (by rw [HT10.out]; decide) (by rw [C.fe_torn ab 10 (by decide) (by rw [C.fr_length]; decide)]) (by decide)).mono ?_
  rintro e w6 ⟨rfl, h56, h6⟩
  go_wp2_with fail
  refine (get_bad_at _ 4 [1, 0, 0, 1] _ 8 w _ rfl hT (bt h6 (below_new _ _)) (lit_ok _ _ _ _ _ rfl (show 4 ≤ maxLen by decide)) (by decide) (by decide) (by decide) (by rw [fe_max]) (by decide)).mono ?_
  rintro e w7 ⟨rfl, h67, h7⟩
  go_wp2_with fail
  refine (get_bad_at _ 5 [1, 1, 0, 1, 0] _ 3 w _ rfl hT (bt h7 (below_new _ _)) (lit_ok _ _ _ _ _ rfl (show 5 ≤ maxLen by decide)) (by decide) (by decide) (by decide) (by rw [fe_over]) (by decide)).mono ?_
  rintro e w8 ⟨rfl, h78, h8⟩
  have HO8 : Hid (Part.ok w8 ⟨some ⟨b, o, none⟩, C.fr ab, c2⟩) := HO5.out.below (bt h56 (bt (bt (below_new _ _) h67) (bt (below_new _ _) h78)))
  have HE : Hid (Own (w8.alloc (.cells #[] 5)) w8.heap.size (.slice (some ⟨w8.heap.size, 0, none⟩) 0 0) []) := Own.empty w8 w8.heap.size (Nat.le_refl _)
  clear h5 h56 h6 h67 h7 h78 HO5 HT10
  have HFL : Hid ((C.fr ab).length = 11) := by show _ = _; rw [C.fr_length]; rfl
  go_wp2_with (at_builtin; go_must ((refine wpList_append_n rfl _ _ rfl w8.heap.size _ [] rfl HE.out ⟨some ⟨b, o, none⟩, C.fr ab, c2⟩ 11 rfl HFL.out.symm (Part.ok.below HO8.out (below_new _ _)) (by show 0 + (C.fr ab).length ≤ 100000; rw [HFL.out]; decide) (by simp) ?_; intro v9 w9 ho9 hg9; have h9 : Below w8.heap.size w8 w9 := Own.grown HE.out (below_new _ _) (by simp) hg9; obtain ⟨g, cg, rfl, hgb, hcg1, hcg2, hcell, hfroz, hset⟩ := own_fr ho9; clear hg9 ho9)))
  have HS9 : Hid (Part.ok (w9.setCell ⟨g, 10, none⟩ (.int .u8 99)) ⟨some ⟨g, 0, none⟩, spoilt, cg⟩) := Own.okAt hset rfl
  have HB9 : Hid (Below w8.heap.size w8 (w9.setCell ⟨g, 10, none⟩ (.int .u8 99))) := h9.setCell hgb _
  clear hcell hfroz hset h9
  generalize w9.setCell ⟨g, 10, none⟩ (.int .u8 99) = wx at HS9 HB9 ⊢
  refine (get_bad_at _ 11 spoilt _ 3 w wx rfl hT (bt h8 HB9.out) HS9.out (by rw [spoilt_length]; exact hcg1) hcg2 (by decide) (by rw [fe_spoilt]) (by decide)).mono ?_
  rintro e w10 ⟨rfl, hx10, h10⟩
  have HO10 : Hid (Part.ok w10 ⟨some ⟨b, o, none⟩, C.fr ab, c2⟩) := HO8.out.below (bt HB9.out hx10)
  have HE10 : Hid (Own (w10.alloc (.cells #[] 5)) w10.heap.size (.slice (some ⟨w10.heap.size, 0, none⟩) 0 0) []) := Own.empty w10 w10.heap.size (Nat.le_refl _)
  clear hx10 HS9 HB9 HO8 HE h8
  go_wp2_with (first
    | (at_builtin; ((refine wpList_append_n rfl _ _ rfl w10.heap.size _ ([] ++ C.fr ab) rfl (Own.below ho11 (below_new _ _)) ⟨some ⟨w11.heap.size, 0, none⟩, [1, 2], 2⟩ 2 rfl rfl (lit_ok _ _ _ _ _ rfl (show 2 ≤ maxLen by decide)) (by show ([] ++ C.fr ab).length + 2 ≤ 100000; rw [List.nil_append, HFL.out]; decide) (by have := h11.size; simp; omega) ?_; intro v12 w12 ho12 hg12; have h12 : Below w10.heap.size w10 w12 := Own.grown (Own.below ho11 (below_new _ _)) (bt h11 (below_new _ _)) (by have := h11.size; simp; omega) hg12; obtain ⟨p12, c12, rfl, hok12, hc12, hm12⟩ := Own.full ho12; clear hg12 ho12)))
    | (at_builtin; ((refine wpList_append_n rfl _ _ rfl w10.heap.size _ [] rfl HE10.out ⟨some ⟨b, o, none⟩, C.fr ab, c2⟩ 11 rfl HFL.out.symm (Part.ok.below HO10.out (below_new _ _)) (by show 0 + (C.fr ab).length ≤ 100000; rw [HFL.out]; decide) (by simp) ?_; intro v11 w11 ho11 hg11; have h11 : Below w10.heap.size w10 w11 := Own.grown HE10.out (below_new _ _) (by simp) hg11; clear hg11))))
  refine (scan_at p12 _ (C.fr ab ++ [1, 2]) c12 [ab] 11 w w12 (by simp) hT (bt h10 h12) hok12 hc12 hm12 (by rw [List.length_append, HFL.out]; decide) scan_more).mono ?_
  rintro e w13 ⟨⟨v13, rfl, hr13⟩, _, h13⟩
  obtain ⟨q, qs, d, rfl, _, _, hq, _⟩ := hr13
  obtain ⟨z, rfl⟩ : ∃ z, qs = [z] := by
    have hl := congrArg List.length hq
    rw [List.length_map] at hl
    exact List.length_eq_one_iff.1 hl
  clear hq
  have hfl := HFL.out
  go_wp2
  go_ret
  exact ⟨rfl, h13⟩
end Go.Proofs.YtjnlkgamnabhjaaDoor
