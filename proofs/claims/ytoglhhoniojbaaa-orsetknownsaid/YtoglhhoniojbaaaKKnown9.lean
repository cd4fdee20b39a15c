/-
  OrsetKnown: what a set knows; what it refuses; a copy.
-/
import Derived.Test.YtoglhhoniojbaaaZ3
import Derived.Test.YtoglhhoniojbaaaOCopy
import Derived.Test.YtoglhhoniojbaaaZ4
import Derived.Laws.BytesArg
import Derived.Laws.OwnMore
namespace Go.Proofs.Ytoglhhoniojbaaa
open Go.RowKit Go.Lib Go.Sort Go.Shelf
set_option linter.unusedVariables false

theorem s_same {w0 w : World} {Q : List OObj} (o1 o2 : OObj) (z : Bool) (h : OObjs w0 w Q) (h1 : o1 ∈ Q) (h2 : o2 ∈ Q) (hz : z = true ↔ ∀ x : Tx, x.size ≤ maxLen → o1.S.th x = o2.S.th x) :
    Calls Try.prog 15 #[.pointer (some ⟨o1.g, 0, none⟩), .pointer (some ⟨o2.g, 0, none⟩)] w fun e w' => e = .returned (.bool z) ∧ OObjs w0 w' Q :=
  (same9_any w o1.g o2.g o1.n o2.n o1.L o2.L o1.S o2.S (h.at_ _ h1).1 (h.at_ _ h2).1 z hz).mono fun e w' ⟨he, hb⟩ => ⟨he, h.below hb⟩
namespace C
def txY : Tx := ⟨#[121]⟩
def txZ : Tx := ⟨#[122]⟩
def txL : Tx := strOfNums (List.replicate 101 0)
theorem txL_size : txL.size = 101 := by unfold txL; rw [strOfNums_size, List.length_replicate]
theorem txL_long : tooLong txL = true := by unfold tooLong; rw [txL_size]; decide
def kn1 : Os := remO Os.zero txX ⟨3, 0, 0, 0, 0, 0, 0⟩
def kn2 : Os := addO kn1 (0, 2) txX
def kn3 : Os := addO kn2 (0, 4) txX
def kn4 : Os := addO kn3 (2, 1) txZ
theorem kn1_is : kn1 = (Os.zero.addG txX ⟨3, 0, 0, 0, 0, 0, 0⟩).addT txX [] :=
  remO_good (S := Os.zero) (x := txX) (c := ⟨3, 0, 0, 0, 0, 0, 0⟩) (by decide) (by decide)
theorem kn1_go : kn1.go txX = ⟨3, 0, 0, 0, 0, 0, 0⟩ := by rw [kn1_is, go_T, go_G, if_pos rfl]
theorem kn1_th (y : Tx) : kn1.th y = [] := by rw [kn1_is, th_T, th_G]; split <;> rfl
theorem kn1_ad (d : Dt) : kn1.ad d = none := by rw [kn1_is, ad_T, ad_G]; rfl
theorem kn2_is : kn2 = kn1.addA (0, 2) txX := addO_gone (by decide) (by decide) (kn1_ad _) (by rw [kn1_go]; decide)
theorem kn2_th (y : Tx) : kn2.th y = [] := by rw [kn2_is, th_A, kn1_th]
theorem kn2_ad (d : Dt) : kn2.ad d = if d = (0, 2) then some txX else none := by rw [kn2_is, ad_A, kn1_ad]
theorem kn2_go : kn2.go txX = ⟨3, 0, 0, 0, 0, 0, 0⟩ := by rw [kn2_is, go_A, kn1_go]
theorem kn2_y : addO kn2 (0, 2) txY = kn2 := addO_same fun h => by have := h.2.2; rw [kn2_ad, if_pos rfl] at this; cases this
theorem kn2_ey : errO kn2 (0, 2) txY = 5 := by
  unfold errO
  rw [if_pos ⟨by decide, by decide⟩, kn2_ad, if_pos rfl]
  decide
theorem kn3_is : kn3 = (kn2.addA (0, 4) txX).addT txX [(0, 4)] := by
  have h := addO_new (S := kn2) (d := (0, 4)) (x := txX) (by decide) (by decide) (by rw [kn2_ad, if_neg (by decide)]) (by rw [kn2_go]; decide)
  rw [kn2_th] at h
  exact h
theorem kn3_th (y : Tx) : kn3.th y = if y = txX then [(0, 4)] else [] := by rw [kn3_is, th_T, th_A, kn2_th]
theorem kn3_ad (d : Dt) : kn3.ad d = if d = (0, 4) then some txX else kn2.ad d := by rw [kn3_is, ad_T, ad_A]
theorem kn3_go (y : Tx) : kn3.go y = kn1.go y := by rw [kn3_is, go_T, go_A, kn2_is, go_A]
theorem kn3_none : addO kn3 (0, 0) txX = kn3 := addO_same fun h => by have := h.1; revert this; decide
theorem kn3_enone : errO kn3 (0, 0) txX = 1 := by unfold errO; rw [if_neg fun h => by have := h.1; revert this; decide]
theorem kn3_long {x : Tx} (hx : tooLong x = true) : addO kn3 (0, 9) x = kn3 := addO_same fun h => by have := h.2.1; rw [hx] at this; cases this
theorem kn3_elong {x : Tx} (hx : tooLong x = true) : errO kn3 (0, 9) x = 1 := by unfold errO; rw [if_neg fun h => by have := h.2; rw [hx] at this; cases this]
theorem kn3_bad : remO kn3 txX ⟨-1, 0, 0, 0, 0, 0, 0⟩ = kn3 := by unfold remO; rw [if_neg]; intro h; have := h.2; revert this; decide
theorem kn3_ebad : errR txX ⟨-1, 0, 0, 0, 0, 0, 0⟩ = 1 := by decide
theorem kn4_is : kn4 = (kn3.addA (2, 1) txZ).addT txZ [(2, 1)] := by
  have h := addO_new (S := kn3) (d := (2, 1)) (x := txZ) (by decide) (by decide) (by rw [kn3_ad, if_neg (by decide), kn2_ad, if_neg (by decide)]) (by rw [kn3_go, kn1_is, go_T, go_G, if_neg (by decide)]; decide)
  rw [kn3_th, if_neg (by decide)] at h
  exact h
theorem kn4_e : errO kn3 (2, 1) txZ = 0 := errO_new (by decide) (by decide) (by rw [kn3_ad, if_neg (by decide), kn2_ad, if_neg (by decide)])
theorem kn4_th : kn4.th txZ = [(2, 1)] := by rw [kn4_is, th_T, if_pos rfl]
theorem kn3_thZ : kn3.th txZ = [] := by rw [kn3_th, if_neg (by decide)]
theorem kn3_thX : kn3.th txX = [(0, 4)] := by rw [kn3_th, if_pos rfl]
theorem kn_few1 : Few kn1 0 := remO_few zero_few _ _
theorem kn_few2 : Few kn2 1 := addO_few kn_few1 _ _
theorem kn_few3 : Few kn3 2 := addO_few kn_few2 _ _
theorem kn_few4 : Few kn4 3 := addO_few kn_few3 _ _
theorem kn_not : (false = true) ↔ ∀ x : Tx, x.size ≤ maxLen → kn3.th x = kn4.th x := by
  refine ⟨fun h => (by cases h), fun h => ?_⟩
  have := h txZ (by decide)
  rw [kn3_thZ, kn4_th] at this
  cases this
end C
theorem made101 (w : World) : (Instr.makeSlice 33 (.int .i64 101) (.int .i64 101)).run Try.prog w = .ok (.slice (some ⟨w.heap.size, 0, none⟩) 101 101) (w.alloc (.cells (madeCells #[.int .u8 0] 101) 5)) :=
  run_make_row' (P := Try.prog) 33 5 (.int .u8 0) 1 Try.underlying33 info_u8 rfl .i64 .i64 101 (by decide) (by decide) w
theorem conv101 (w : World) : (convert 33 9 (.slice (some ⟨w.heap.size, 0, none⟩) 101 101)).run Try.prog (w.alloc (.cells (madeCells #[.int .u8 0] 101) 5)) = .ok (.string C.txL) (w.alloc (.cells (madeCells #[.int .u8 0] 101) 5)) :=
  run_convert_bytes_arg (P := Try.prog) _ 33 5 Try.underlying33 Try.underlying5 w.heap.size 0 101 101 (List.replicate 101 0) (by simp) (fun i hi => by
    have h := toList_madeCells_one (.int .u8 0) 101
    have h2 : (madeCells #[.int .u8 0] 101)[i]? = some (.int .u8 0) := by
      rw [← Array.getElem?_toList, h, List.getElem?_replicate, if_pos hi]
    have h4 : (List.replicate 101 (0 : Int)).getD i 0 = 0 := by rw [List.getD_eq_getElem?_getD, List.getElem?_replicate, if_pos hi]; rfl
    rw [h4]
    generalize hM : madeCells #[.int .u8 0] 101 = M at *
    simp [World.cell?_alloc_mark, h2]) 9 Try.underlying9
set_option maxRecDepth 100000 in
set_option maxHeartbeats 4000000 in
theorem known_walk (w : World) : Calls Try.prog 3 #[] w fun e w' => e = .returned (.bool true) ∧ Below w.heap.size w w' := by
  have HL : Hid (C.txX.size ≤ maxLen ∧ C.txY.size ≤ maxLen ∧ C.txZ.size ≤ maxLen) := ⟨by decide, by decide, by decide⟩
  have HK : Hid (∀ n, n ≤ 100 → n + 2 < maxLen) := fun n hn => by unfold maxLen; omega
  go_enter Try.func3, Try.ntmps3
  go_wp2_with fail
  refine (awake9_any w).mono ?_
  rintro e w00 ⟨rfl, hb0⟩
  have HB0 : Hid (Below w.heap.size w w00) := hb0
  clear hb0
  go_wp2_with fail
  refine (s_new (OObjs.nil HB0.out)).mono ?_
  rintro e w1 ⟨g, L, rfl, h1, -⟩
  have H1 : Hid (OObjs w w1 ([] ++ ⟨g, 0, L, C.Os.zero⟩ :: [])) := h1
  clear h1 HB0
  go_wp2_with fail
  refine (s_rem [] [] g 0 L C.Os.zero C.kn1 C.txX ⟨3, 0, 0, 0, 0, 0, 0⟩ 0 H1.out (HK.out _ (by omega)) HL.out.1 (C.few_mono C.zero_few (by omega)) (C.errR_good (by decide) (by decide)) rfl).mono ?_
  rintro e w2 ⟨rfl, L2, h2⟩
  have H2 : Hid (OObjs w w2 ([] ++ ⟨g, 2, L2, C.kn1⟩ :: [])) := h2
  clear h2 H1
  go_wp2_with fail
  refine (s_add [] [] g 2 L2 C.kn1 C.kn2 C.txX 0 2 0 H2.out (HK.out _ (by omega)) HL.out.1 (C.few_mono C.kn_few1 (by omega)) (C.errO_new (by decide) (by decide) (C.kn1_ad _)) rfl).mono ?_
  rintro e w3 ⟨rfl, L3, h3⟩
  have H3 : Hid (OObjs w w3 ([] ++ ⟨g, 4, L3, C.kn2⟩ :: [])) := h3
  clear h3 H2
  go_wp2_with fail
  refine (s_has [] [] g 4 L3 C.kn2 C.txX false H3.out HL.out.1 (C.few_mono C.kn_few2 (by omega)) (by rw [C.kn2_th]; rfl)).mono ?_
  rintro e w4 ⟨rfl, hw⟩
  subst hw
  go_wp2_with fail
  refine (s_add [] [] g 4 L3 C.kn2 C.kn2 C.txY 0 2 5 H3.out (HK.out _ (by omega)) HL.out.2.1 (C.few_mono C.kn_few2 (by omega)) C.kn2_ey C.kn2_y).mono ?_
  rintro e w5 ⟨rfl, L5, h5⟩
  have H5 : Hid (OObjs w w5 ([] ++ ⟨g, 6, L5, C.kn2⟩ :: [])) := h5
  clear h5 H3
  go_wp2_with fail
  refine (s_add [] [] g 6 L5 C.kn2 C.kn3 C.txX 0 4 0 H5.out (HK.out _ (by omega)) HL.out.1 (C.few_mono C.kn_few2 (by omega)) (C.errO_new (by decide) (by decide) (by rw [C.kn2_ad, if_neg (by decide)])) rfl).mono ?_
  rintro e w6 ⟨rfl, L6, h6⟩
  have H6 : Hid (OObjs w w6 ([] ++ ⟨g, 8, L6, C.kn3⟩ :: [])) := h6
  clear h6 H5
  go_wp2_with fail
  refine (s_has [] [] g 8 L6 C.kn3 C.txX true H6.out HL.out.1 (C.few_mono C.kn_few3 (by omega)) (by rw [C.kn3_thX]; rfl)).mono ?_
  rintro e w7 ⟨rfl, hw⟩
  subst hw
  go_wp2_with fail
  refine (s_add [] [] g 8 L6 C.kn3 C.kn3 C.txX 0 0 1 H6.out (HK.out _ (by omega)) HL.out.1 (C.few_mono C.kn_few3 (by omega)) C.kn3_enone C.kn3_none).mono ?_
  rintro e w8 ⟨rfl, L8, h8⟩
  have H8 : Hid (OObjs w w8 ([] ++ ⟨g, 10, L8, C.kn3⟩ :: [])) := h8
  clear h8 H6
  have k1 := made101 w8
  have k2 := conv101 w8
  go_wp2_with fail
  refine (s_add [] [] g 10 L8 C.kn3 C.kn3 C.txL 0 9 1 (H8.out.below (below_new w8 _)) (HK.out _ (by omega)) (by rw [C.txL_size]; decide) (C.few_mono C.kn_few3 (by omega)) (C.kn3_elong C.txL_long) (C.kn3_long C.txL_long)).mono ?_
  rintro e w9 ⟨rfl, L9, h9⟩
  have H9 : Hid (OObjs w w9 ([] ++ ⟨g, 12, L9, C.kn3⟩ :: [])) := h9
  clear h9 H8 k1 k2
  generalize C.txL = tl at *
  go_wp2_with fail
  refine (s_rem [] [] g 12 L9 C.kn3 C.kn3 C.txX ⟨-1, 0, 0, 0, 0, 0, 0⟩ 1 H9.out (HK.out _ (by omega)) HL.out.1 (C.few_mono C.kn_few3 (by omega)) C.kn3_ebad C.kn3_bad).mono ?_
  rintro e w10 ⟨rfl, L10, h10⟩
  have H10 : Hid (OObjs w w10 ([] ++ ⟨g, 14, L10, C.kn3⟩ :: [])) := h10
  clear h10 H9
  go_wp2_with fail
  refine (s_copy [] [] g 14 L10 C.kn3 H10.out (Nat.lt_of_le_of_lt (Nat.le_add_right _ 2) (HK.out _ (by omega))) (C.few_mono C.kn_few3 (by omega))).mono ?_
  rintro e w11 ⟨gk, Lk, rfl, h11, -⟩
  have H11 : Hid (OObjs w w11 ([⟨g, 14, L10, C.kn3⟩] ++ ⟨gk, 14, Lk, C.kn3⟩ :: [])) := h11
  clear h11 H10
  go_wp2_with fail
  refine (s_add [⟨g, 14, L10, C.kn3⟩] [] gk 14 Lk C.kn3 C.kn4 C.txZ 2 1 0 H11.out (HK.out _ (by omega)) HL.out.2.2 (C.few_mono C.kn_few3 (by omega)) C.kn4_e rfl).mono ?_
  rintro e w12 ⟨rfl, L12, h12⟩
  have H12 : Hid (OObjs w w12 ([⟨g, 14, L10, C.kn3⟩] ++ ⟨gk, 16, L12, C.kn4⟩ :: [])) := h12
  have H13 : Hid (OObjs w w12 ([] ++ ⟨g, 14, L10, C.kn3⟩ :: [⟨gk, 16, L12, C.kn4⟩])) := h12
  clear h12 H11
  go_wp2_with fail
  refine (s_has [] _ g 14 L10 C.kn3 C.txZ false H13.out HL.out.2.2 (C.few_mono C.kn_few3 (by omega)) (by rw [C.kn3_thZ]; rfl)).mono ?_
  rintro e w13 ⟨rfl, hw⟩
  subst hw
  go_wp2_with fail
  refine (s_has _ [] gk 16 L12 C.kn4 C.txZ true H12.out HL.out.2.2 (C.few_mono C.kn_few4 (by omega)) (by rw [C.kn4_th]; rfl)).mono ?_
  rintro e w14 ⟨rfl, hw⟩
  subst hw
  go_wp2_with fail
  refine (s_same ⟨g, 14, L10, C.kn3⟩ ⟨gk, 16, L12, C.kn4⟩ false H12.out (by simp) (by simp) C.kn_not).mono ?_
  rintro e w15 ⟨rfl, h15⟩
  have H15 : Hid (OObjs w w15 ([] ++ ⟨g, 14, L10, C.kn3⟩ :: [⟨gk, 16, L12, C.kn4⟩])) := h15
  clear h15 H12 H13
  go_wp2_with fail
  refine (s_copy [] _ g 14 L10 C.kn3 H15.out (Nat.lt_of_le_of_lt (Nat.le_add_right _ 2) (HK.out _ (by omega))) (C.few_mono C.kn_few3 (by omega))).mono ?_
  rintro e w16 ⟨gm, Lm, rfl, h16, -⟩
  have H16 : Hid (OObjs w w16 (([] ++ ⟨g, 14, L10, C.kn3⟩ :: [⟨gk, 16, L12, C.kn4⟩]) ++ [⟨gm, 14, Lm, C.kn3⟩])) := h16
  clear h16 H15
  go_wp2_with fail
  refine (s_same ⟨g, 14, L10, C.kn3⟩ ⟨gm, 14, Lm, C.kn3⟩ true H16.out (by simp) (by simp) ⟨fun _ _ _ => rfl, fun _ => rfl⟩).mono ?_
  rintro e w17 ⟨rfl, h17⟩
  have HB : Hid (Below w.heap.size w w17) := h17.bel
  clear h17 H16
  go_wp2
  go_ret
  exact ⟨rfl, HB.out⟩
end Go.Proofs.Ytoglhhoniojbaaa
