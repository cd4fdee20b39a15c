/-
  WalKeeps: a base that is kept, and what is added behind it, behind any fall.
-/
import Derived.Test.YtnhplbdbgiimkaaGreatDoorZ32
namespace Go.Proofs.YtnhplbdbgiimkaaGreatDoor
open Go.RowKit Go.Lib
set_option linter.unusedVariables false

set_option maxRecDepth 100000 in
set_option maxHeartbeats 8000000 in
theorem keeps_any (part : Int) (wp0 : (Lit.int .i64 part).wf = true) (p1 : Option Addr) (ps1 : List Part) (cap1 : Nat) (p2 : Option Addr) (l2 : List UInt8) (cap2 : Nat) (p3 : Option Addr) (ps3 : List Part) (cap3 : Nat) (kp : Int) (wk0 : (Lit.int .i64 kp).wf = true) (tn : Int) (wt0 : (Lit.int .i64 tn).wf = true) (w : World) (hT : Tabs w) (hP1 : PAt w p1 ps1) (hA1 : ∀ x ∈ ps1, x.ok w) (hcap1 : ps1.length ≤ cap1) (hcm1 : cap1 ≤ maxLen) (hB : (Part.mk p2 l2 cap2).ok w) (hP3 : PAt w p3 ps3) (hA3 : ∀ x ∈ ps3, x.ok w) (hcap3 : ps3.length ≤ cap3) (hcm3 : cap3 ≤ maxLen) :
    Calls Tryz.prog 7 #[.int .i64 part, .slice p1 ps1.length cap1, .slice p2 l2.length cap2, .slice p3 ps3.length cap3, .int .i64 kp, .int .i64 tn] w fun e w' => e = .returned (.bool true) ∧ Below w.heap.size w w' := by
  have HT : Hid (Tabs w) := hT
  have HP1 : Hid (PAt w p1 ps1) := hP1
  have HA1 : Hid (∀ x ∈ ps1, x.ok w) := hA1
  have HP3 : Hid (PAt w p3 ps3) := hP3
  have HA3 : Hid (∀ x ∈ ps3, x.ok w) := hA3
  have HB : Hid ((Part.mk p2 l2 cap2).ok w) := hB
  have HCM : Hid ((ps1.length ≤ cap1 ∧ cap1 ≤ maxLen) ∧ (ps3.length ≤ cap3 ∧ cap3 ≤ maxLen)) := ⟨⟨hcap1, hcm1⟩, hcap3, hcm3⟩
  have HKP := hidOf (wf_i64 wk0)
  have HTN := hidOf (wf_i64 wt0)
  have hcm1' : cap1 ≤ 9223372036854775807 := Nat.le_trans hcm1 (by decide)
  have hcm3' : cap3 ≤ 9223372036854775807 := Nat.le_trans hcm3 (by decide)
  have hl2 : l2.length ≤ 9223372036854775807 := Nat.le_trans hB.1 (by decide)
  obtain ⟨m1, hm1⟩ : ∃ m, m = ps1.length := ⟨_, rfl⟩
  have HM1 : Hid (m1 = ps1.length) := hm1
  obtain ⟨m3, hm3⟩ : ∃ m, m = ps3.length := ⟨_, rfl⟩
  have HM3 : Hid (m3 = ps3.length) := hm3
  rw [← hm1] at hcap1 ⊢
  rw [← hm3] at hcap3 ⊢
  clear hT hP1 hA1 hcm1 hP3 hA3 hcm3 hm1 hm3 wp0 wk0 wt0 hB
  have kc := fun (w : World) (C : Array Value) (n c : Nat) => Lib.run_convert_bytes_const (P := Tryz.prog) w 31 5 C n c Tryz.underlying31 Tryz.underlying5
  go_enter Tryz.func7, Tryz.ntmps7
  go_wp2_with fail
  refine (awake6_any w HT.out).mono ?_
  rintro e w1 ⟨rfl, h1⟩
  have H1 := hidOf h1
  clear h1
  by_cases g1 : part < 1
  · go_wp2
    go_ret
    exact ⟨rfl, H1.out⟩
  by_cases g2 : 1000 < part
  · go_wp2
    go_ret
    exact ⟨rfl, H1.out⟩
  by_cases g3 : (12 : Int) < (m1 : Int)
  · go_wp2
    go_ret
    exact ⟨rfl, H1.out⟩
  by_cases g4 : (12 : Int) < (m3 : Int)
  · go_wp2
    go_ret
    exact ⟨rfl, H1.out⟩
  by_cases g5 : (500 : Int) < (l2.length : Int)
  · go_wp2
    go_ret
    exact ⟨rfl, H1.out⟩
  obtain ⟨pn, rfl⟩ : ∃ pn : Nat, part = pn := ⟨part.toNat, by omega⟩
  have HPN : Hid (1 ≤ pn ∧ pn ≤ 1000) := ⟨by omega, by omega⟩
  go_wp2_with fail
  go_loopw [13] (fun s13 wr => ∃ (k : Nat), s13 = .int .i64 k ∧ k ≤ m1 ∧ Hid (Below w.heap.size w wr) ∧ Hid (∀ x ∈ ps1.take k, x.l.length ≤ 200)) (fun s13 _ => m1 - (intOf s13).toNat)
  case atStart => exact ⟨0, rfl, Nat.zero_le _, H1, fun x hx => by cases hx⟩
  case round =>
    obtain ⟨k, rfl, hkm, HBW, HLE1⟩ := hrel
    clear H1
    by_cases hlt : k < m1
    · obtain ⟨b, o, rfl, hc⟩ := HP1.out (by have := HM1.out; omega)
      obtain ⟨x, hx⟩ : ∃ x, ps1[k]? = some x := ⟨_, List.getElem?_eq_getElem (by have := HM1.out; omega)⟩
      have hck := args_cell (hc k x hx) HBW.out
      have HX : Hid (x.ok w) := HA1.out x (List.mem_of_getElem? hx)
      have hxl : x.l.length ≤ 9223372036854775807 := Nat.le_trans HX.out.1 (by decide)
      have HXG := hidOf hx
      simp only [Part.v] at hck
      clear hc hx
      have hkz : (k : Int) < (m1 : Int) := by omega
      by_cases hbig : (200 : Int) < x.l.length
      · go_wp2
        go_ret
        exact ⟨rfl, HBW.out⟩
      go_wp2
      go_roundw
      case rel => exact ⟨k + 1, by go_num, by omega, HBW, fun y hy => by
          rw [List.take_add_one, HXG.out] at hy
          rcases List.mem_append.1 hy with hy | hy
          · exact HLE1.out y hy
          · obtain rfl : y = x := by simpa using hy
            omega⟩
      case measure => simp [intOf]; omega
    · obtain rfl : k = m1 := by omega
      have HL1 : Hid (∀ x ∈ ps1, x.l.length ≤ 200) := fun x hx => HLE1.out x (by rw [List.take_of_length_le (by have := HM1.out; omega)]; exact hx)
      clear HLE1 hlt hkm
      go_wp2_with fail
      go_loopw [14] (fun s14 wr' => ∃ (k3 : Nat), s14 = .int .i64 k3 ∧ k3 ≤ m3 ∧ Hid (Below w.heap.size w wr') ∧ Hid (∀ x ∈ ps3.take k3, x.l.length ≤ 200)) (fun s14 _ => m3 - (intOf s14).toNat)
      case atStart => exact ⟨0, rfl, Nat.zero_le _, HBW, fun x hx => by cases hx⟩
      case round =>
        obtain ⟨k3, rfl, hkm3, HBV, HLE3⟩ := hrel
        clear HBW
        by_cases hlt3 : k3 < m3
        · obtain ⟨b, o, rfl, hc⟩ := HP3.out (by have := HM3.out; omega)
          obtain ⟨x, hx⟩ : ∃ x, ps3[k3]? = some x := ⟨_, List.getElem?_eq_getElem (by have := HM3.out; omega)⟩
          have hck := args_cell (hc k3 x hx) HBV.out
          have HX : Hid (x.ok w) := HA3.out x (List.mem_of_getElem? hx)
          have hxl : x.l.length ≤ 9223372036854775807 := Nat.le_trans HX.out.1 (by decide)
          have HXG := hidOf hx
          simp only [Part.v] at hck
          clear hc hx
          have hkz : (k3 : Int) < (m3 : Int) := by omega
          by_cases hbig : (200 : Int) < x.l.length
          · go_wp2
            go_ret
            exact ⟨rfl, HBV.out⟩
          go_wp2
          go_roundw
          case rel => exact ⟨k3 + 1, by go_num, by omega, HBV, fun y hy => by
              rw [List.take_add_one, HXG.out] at hy
              rcases List.mem_append.1 hy with hy | hy
              · exact HLE3.out y hy
              · obtain rfl : y = x := by simpa using hy
                omega⟩
          case measure => simp [intOf]; omega
        · obtain rfl : k3 = m3 := by omega
          have HL3 : Hid (∀ x ∈ ps3, x.l.length ≤ 200) := fun x hx => HLE3.out x (by rw [List.take_of_length_le (by have := HM3.out; omega)]; exact hx)
          clear HLE3 hlt3 hkm3
          go_wp2_with fail
          rename World => wv
          refine (lx_new w _ 262144 HBV.out (by decide)).mono ?_
          rintro e w2 ⟨⟨d, S2, rfl, hd2, -⟩, -⟩
          have HD2 := hidOf hd2
          clear hd2 HBV
          go_wp2_with fail
          refine (lx_open w w2 d S2 0 [] [] 0 0 1 262144 pn True HD2.out HT.out (by omega) HPN.out (by simp)).mono ?_
          rintro e w3 ⟨⟨gl, rfl, hlx3, -⟩, -⟩
          have HX3 := hidOf (show LX w w3 d gl pn _ 0 [] [] 0 0 0 1 262144 True from hlx3)
          clear hlx3 HD2
          go_wp2_with fail
          have HAD : Hid (Calls Tryz.prog 12 #[.pointer (some ⟨gl, 0, none⟩), .slice p1 k cap1] w3 fun e w' => e = .returned (.int .i64 0) ∧ ∃ S, LX w w' d gl pn S 0 [] (ps1.map Part.l) 12 13 0 1 262144 True) := by
            have h1 := lx_add w w3 d gl pn _ 0 [] [] 0 0 0 1 262144 True p1 ps1 cap1 HX3.out HT.out (args_stay HP1.out HA1.out HX3.out.bel HX3.out.new) (fun x hx => Nat.le_trans (HL1.out x hx) (by omega)) (by have := HM1.out; omega) (by have := HM1.out; omega) (by have := HM1.out; omega) (by have := HM1.out; simp; omega) HCM.out.1.1 HCM.out.1.2
            rw [← HM1.out] at h1
            exact h1.mono fun e w' ⟨h2, h3, h4⟩ => ⟨h2, _, h3.mono (by omega) (by omega)⟩
          refine HAD.out.mono ?_
          clear HAD
          rintro e w4 ⟨rfl, S4, hx4⟩
          have HX4 := hidOf hx4
          clear hx4 HX3
          go_wp2_with fail
          refine (lx_keep w _ d gl pn _ 0 [] _ _ _ _ 1 262144 True p2 l2 cap2 HX4.out HT.out (Stay1.of HB.out HX4.out.bel HX4.out.new) (by omega) (by omega) (by omega) (by omega) (by omega)).mono ?_
          rintro e w5 ⟨rfl, hx5, -⟩
          have HX5 := hidOf (show LX w w5 d gl pn _ 1 l2 [] 13 14 0 1 262144 True from hx5)
          clear hx5 HX4
          go_wp2_with fail
          have HAD : Hid (Calls Tryz.prog 12 #[.pointer (some ⟨gl, 0, none⟩), .slice p3 k3 cap3] w5 fun e w' => e = .returned (.int .i64 0) ∧ ∃ S, LX w w' d gl pn S 1 l2 (ps3.map Part.l) 25 27 0 1 262144 True) := by
            have h1 := lx_add w w5 d gl pn _ 1 l2 [] 13 14 0 1 262144 True p3 ps3 cap3 HX5.out HT.out (args_stay HP3.out HA3.out HX5.out.bel HX5.out.new) (fun x hx => Nat.le_trans (HL3.out x hx) (by omega)) (by have := HM3.out; omega) (by have := HM3.out; omega) (by have := HM3.out; omega) (by have := HM3.out; simp; omega) HCM.out.2.1 HCM.out.2.2
            rw [← HM3.out] at h1
            exact h1.mono fun e w' ⟨h2, h3, h4⟩ => ⟨h2, _, h3.mono (by omega) (by omega)⟩
          refine HAD.out.mono ?_
          clear HAD
          rintro e w6 ⟨rfl, S6, hx6⟩
          have HX6 := hidOf hx6
          clear hx6 HX5
          go_wp2_with fail
          refine (lx_sync w _ d gl pn _ 1 l2 _ _ _ _ 1 262144 True HX6.out (by omega)).mono ?_
          rintro e w7 ⟨rfl, hx7, -⟩
          have HX7 := hidOf hx7
          clear hx7 HX6
          go_wp2_with fail
          refine (lx_add w _ d gl pn _ 1 l2 _ _ _ _ 1 262144 True _ [⟨some ⟨w7.heap.size, 0, none⟩, [108, 97, 115, 116], 4⟩] 1 (HX7.out.below (below_two _ _ _)) HT.out (lit1_stay HX7.out.lt [108, 97, 115, 116] 4 _ _ _ (by decide)) (by simp) (by simp) (by simp) (by simp) (by rw [List.length_map]; have := HM3.out; simp; omega) (by simp) (by decide)).mono ?_
          rintro e w8 ⟨rfl, hx8, -⟩
          have HX8 := hidOf hx8
          clear hx8 HX7
          go_wp2_with fail
          refine (lx_crash w _ d gl pn _ 1 l2 _ _ _ _ 1 262144 True kp tn HX8.out (by simp) HKP.out.1 HKP.out.2 HTN.out.1 HTN.out.2).mono ?_
          rintro e w9 ⟨rfl, ⟨j, T9, hd9, hj1, hj2, -, -, -, -⟩, -⟩
          have HD9 := hidOf hd9
          have HJ : Hid (k3 ≤ j ∧ j ≤ k3 + 1) := by
            rw [List.length_map] at hj1
            rw [List.length_append, List.length_map, List.length_map, List.length_singleton] at hj2
            have := HM3.out
            exact ⟨by omega, by omega⟩
          clear hd9 hj1 hj2 HX8
          go_wp2_with fail
          refine (lx_on w _ d _ _ 1 l2 _ _ _ 1 262144 _ HD9.out (by decide)).mono ?_
          rintro e w10 ⟨rfl, hd10, -⟩
          have HD10 := hidOf hd10
          clear hd10 HD9
          go_wp2_with fail
          have HRL : Hid ((((ps3.map Part.l) ++ ([⟨some ⟨w7.heap.size, 0, none⟩, [108, 97, 115, 116], 4⟩] : List Part).map Part.l).take j).length = j) := by
            show _ = _
            rw [List.length_take, List.length_append, List.length_map, List.length_map, List.length_singleton]
            have := HM3.out
            have := HJ.out
            omega
          refine (lx_open w _ d _ 1 l2 _ _ _ _ 262144 pn _ HD10.out HT.out (by simp) HPN.out (by rw [HRL.out]; have := HJ.out; omega)).mono ?_
          rintro e w11 ⟨⟨g2, rfl, hx11, -⟩, -⟩
          have HX11 := hidOf hx11
          clear hx11 HD10
          go_wp2_with fail
          have hne : Nonempty (NewW w11) := ⟨NewW.start w11⟩
          have hB : Below w11.heap.size w11 w11.drew := (Below.refl _ _).drew
          have hC : ∃ n : NewW w11, w11.drew = n.v := ⟨⟨_, hB⟩, rfl⟩
          refine wp_region_held_drew (S := fun w' => ∃ n : NewW w11, w' = n.v) (by kernel_rfl) hC (fun _ => ?_)
          have HXd := hidOf (HX11.out.below hB)
          have HBd := hidOf (Part.ok.below HB.out HX11.out.bel)
          clear HX11
          generalize hW0 : w11.drew = W0 at *
          clear hW0
          refine takeList (i := 0) rfl (by kernel_rfl) (by kernel_rfl) (by kernel_rfl) (fun _ _ _ _ h => h) rfl rfl hC (fun K hK => ?_)
          go_big_quiet_op
          refine hK _ ?_
          clear hK K
          refine takeVal (i := 1) (.bool false) rfl (by kernel_rfl) (by kernel_rfl) (by kernel_rfl) (fun _ _ _ _ h => h) rfl hC (fun w' _ => by go_simp; try simp) ?_
          go_simp
          refine takeList (i := 2) rfl (by kernel_rfl) (by kernel_rfl) (by kernel_rfl) (fun _ _ _ _ h => h) rfl rfl hC (fun K hK => ?_)
          go_big_quiet_op
          refine hK _ ?_
          clear hK K
          refine takeList (i := 3) rfl (by kernel_rfl) (by kernel_rfl) (by kernel_rfl) (fun _ _ _ _ h => h) rfl rfl hC (fun K hK => ?_)
          go_big_quiet_op
          refine hK _ ?_
          clear hK K
          refine takeVal (i := 4) (.bool false) rfl (by kernel_rfl) (by kernel_rfl) (by kernel_rfl) (fun _ _ _ _ h => h) rfl hC (fun w' _ => by go_simp; try simp) ?_
          go_simp
          refine takeList (i := 5) rfl (by kernel_rfl) (by kernel_rfl) (by kernel_rfl) (fun _ _ _ _ h => h) rfl rfl hC (fun K hK => ?_)
          go_big_quiet_op
          refine hK _ ?_
          clear hK K
          refine takeList (i := 6) rfl (by kernel_rfl) (by kernel_rfl) (by kernel_rfl) (fun _ _ _ _ h => h) rfl rfl hC (fun K hK => ?_)
          go_big_quiet_op
          refine hK _ ?_
          clear hK K
          refine takeList (i := 7) rfl (by kernel_rfl) (by kernel_rfl) (by kernel_rfl) (fun _ _ _ _ h => h) rfl rfl hC (fun K hK => ?_)
          go_big_quiet_op
          refine hK _ ?_
          clear hK K
          refine takeList (i := 10) rfl (by kernel_rfl) (by kernel_rfl) (by kernel_rfl) (fun _ _ _ _ h => h) rfl rfl hC (fun K hK => ?_)
          go_big_quiet_op
          refine hK _ ?_
          clear hK K
          refine takeConv (i := 11) _ _ _ _ (.string ⟨l2.toArray⟩) rfl rfl rfl (by kernel_rfl) (by kernel_rfl) (by kernel_rfl) (fun _ _ _ _ h => h) rfl hC (fun w' ⟨nw, hnw⟩ => by rw [hnw]; exact conv_at (Part.ok.below HBd.out nw.h) rfl) ?_
          go_simp
          refine callList (i := 8) rfl (by kernel_rfl) rfl (fun K hK => ?_)
          go_simp
          refine Calls.mono (lx_base w W0 d g2 pn _ 1 l2 _ _ _ _ 2 262144 _ HXd.out) ?_
          rintro e wa ⟨⟨bp, bc, rfl, hbp⟩, hba⟩
          refine hK.out _ _ ⟨⟨_, bt hB hba⟩, rfl⟩ ?_
          try go_simp
          refine wpAnyH_strengthen (S' := fun w' => ∃ n : NewW wa, w' = n.v) (fun w' ⟨n, hn⟩ => ⟨⟨w', by rw [hn]; exact bt (bt hB hba) n.h⟩, rfl⟩) _ _ _ _ ?_
          clear hK K hC hne
          replace hB : Below wa.heap.size wa wa := Below.refl _ _
          have hC : ∃ n : NewW wa, wa = n.v := ⟨⟨_, hB⟩, rfl⟩
          have hne : Nonempty (NewW wa) := ⟨NewW.start wa⟩
          have HXa := hidOf (HXd.out.below hba)
          have HBP := hidOf hbp
          clear hba hbp HXd HBd
          refine takeConv (i := 9) _ _ _ _ (.string ⟨l2.toArray⟩) rfl rfl rfl (by kernel_rfl) (by kernel_rfl) (by kernel_rfl) (fun _ _ _ _ h => h) rfl hC (fun w' ⟨nw, hnw⟩ => by rw [hnw]; exact conv_at (Part.ok.below HBP.out nw.h) rfl) ?_
          go_simp
          refine takeVal (i := 12) (.bool false) rfl (by kernel_rfl) (by kernel_rfl) (by kernel_rfl) (fun _ _ _ _ h => h) rfl hC (fun w' _ => by go_simp; try simp) ?_
          go_simp
          refine takeList (i := 13) rfl (by kernel_rfl) (by kernel_rfl) (by kernel_rfl) (fun _ _ _ _ h => h) rfl rfl hC (fun K hK => ?_)
          go_big_quiet_op
          refine hK _ ?_
          clear hK K
          refine wpAnyH_done (by kernel_rfl) ?_ _
          clear hB hC hne HBP
          go_wp2_with fail
          refine (lx_all w _ d g2 pn _ 1 l2 _ _ _ _ 2 262144 _ HXa.out (by rw [HRL.out]; have := HJ.out; omega)).mono ?_
          rintro e w12 ⟨⟨zp, zc, rfl, -, -⟩, hb12⟩
          have HX12 := hidOf (HXa.out.below hb12)
          clear hb12 HXa
          rw [HRL.out]
          have HSR : Hid (SrcAt (w12.alloc (.cells #[] 31)) 1 (.slice p3 k3 cap3) k3 (ps3.map Part.v)) := by
            have h1 := pat_src cap3 (HP3.out.below (bt HX12.out.bel (below_new w12 (.cells #[] 31))))
            rw [← HM3.out] at h1
            exact h1
          have HN1 : Hid (0 + k3 ≤ maxLen) := by show _ ≤ _; unfold maxLen; omega
          have HN2 : Hid ((0 + k3) * 24 ≤ 140737488355328) := by show _ ≤ _; omega
          have HN3 : Hid (0 + k3 + 1 ≤ maxLen) := by show _ ≤ _; unfold maxLen; omega
          have HN4 : Hid ((0 + k3 + 1) * 24 ≤ 140737488355328) := by show _ ≤ _; omega
          go_wp2_with (first
            | (at_builtin; (refine wpList_append_src Tryz.underlying32 info_bytes rfl (by decide) rfl _ _ rfl rfl (row_two hra _ _) rfl (one_src1 W2 _ ⟨some ⟨W2.heap.size, 0, none⟩, [108, 97, 115, 116], 4⟩) (parts_one [_]) HN3.out HN4.out ?_; intro vb W6 hrb hgb hlb; obtain ⟨pv, cv, rfl⟩ := own_slice hrb))
            | (at_builtin; (refine wpList_append_src Tryz.underlying32 info_bytes rfl (by decide) rfl _ _ rfl rfl (row_empty6 w12) rfl HSR.out (parts_one _) HN1.out HN2.out ?_; intro va W2 hra hga hla)))
          have hf1 := app_first hga hla
          have hB6 : Below w12.heap.size w12 W6 := (bt hf1.1 (below_two W2 _ _)).grown hgb (Nat.le_trans hf1.1.size (below_two W2 _ _).size) fun k hk => hf1.2 k hk
          have HRW := hidOf (app_last (va := va) (l := [108, 97, 115, 116]) (c := 4) (m := (4, 5)) (m2 := (0, 0)) hra (fun x hx => (HA3.out x hx).below (bt HX12.out.bel hB6)) (by decide) (by have := HM3.out; omega) hgb hrb)
          have HX6 := hidOf (HX12.out.below hB6)
          obtain ⟨-, -, hcv, hcm⟩ : ∃ ps : List Part, ps.length = 0 + k3 + 1 ∧ 0 + k3 + 1 ≤ cv ∧ cv ≤ maxLen := by
            obtain ⟨p', ps, cap', e, h1, h2, h3, h4, h5⟩ := HRW.out
            injection e with e1 e2 e3
            exact ⟨ps, e2.symm, by omega, by omega⟩
          have hcm' : cv ≤ 9223372036854775807 := Nat.le_trans hcm (by decide)
          have hjc : j ≤ cv := by have := HJ.out; omega
          have hj9 : j ≤ 13 := by have := HJ.out; omega
          clear hra hga hla hrb hgb hlb hf1 hB6 HSR HN1 HN2 HN3 HN4 HX12 hcm kc
          by_cases hjk : j = k3
          · have hjb : ((j : Int) == (k3 : Int)) = true := by rw [beq_iff_eq]; omega
            have HJK := hidOf hjk
            clear hjk
            have hne : Nonempty (NewW W6) := ⟨NewW.start W6⟩
            have hB : Below W6.heap.size W6 W6.drew := (Below.refl _ _).drew
            have hC : ∃ n : NewW W6, W6.drew = n.v := ⟨⟨_, hB⟩, rfl⟩
            refine wp_region_held_drew (S := fun w' => ∃ n : NewW W6, w' = n.v) (by kernel_rfl) hC (fun _ => ?_)
            have HXd := hidOf (HX6.out.below hB)
            have HRd := hidOf (HRW.out.below hB)
            clear HX6 HRW
            generalize hW0 : W6.drew = W0 at *
            clear hW0
            refine takeList (i := 0) rfl (by kernel_rfl) (by kernel_rfl) (by kernel_rfl) (fun _ _ _ _ h => h) rfl rfl hC (fun K hK => ?_)
            go_big_quiet_op
            refine hK _ ?_
            clear hK K
            refine takeList (i := 1) rfl (by kernel_rfl) (by kernel_rfl) (by kernel_rfl) (fun _ _ _ _ h => h) rfl rfl hC (fun K hK => ?_)
            go_big_quiet_op
            refine hK _ ?_
            clear hK K
            refine takeVal (i := 2) (.int .i64 (k3 : Nat)) rfl (by kernel_rfl) (by kernel_rfl) (by kernel_rfl) (fun _ _ _ _ h => h) rfl hC (fun w' _ => by go_simp) ?_
            go_simp
            refine takeVal (i := 3) (.bool true) rfl (by kernel_rfl) (by kernel_rfl) (by kernel_rfl) (fun _ _ _ _ h => h) rfl hC (fun w' _ => by go_simp; try simp) ?_
            go_simp
            refine takeList (i := 4) rfl (by kernel_rfl) (by kernel_rfl) (by kernel_rfl) (fun _ _ _ _ h => h) rfl rfl hC (fun K hK => ?_)
            go_big_quiet_op
            refine hK _ ?_
            clear hK K
            refine takeSkip (i := 5) rfl (by kernel_rfl) (by kernel_rfl) (by kernel_rfl) (fun _ _ _ _ h => h) rfl hC ?_
            go_simp
            refine takeSkip (i := 6) rfl (by kernel_rfl) (by kernel_rfl) (by kernel_rfl) (fun _ _ _ _ h => h) rfl hC ?_
            go_simp
            refine takeSkip (i := 7) rfl (by kernel_rfl) (by kernel_rfl) (by kernel_rfl) (fun _ _ _ _ h => h) rfl hC ?_
            go_simp
            refine takeSkip (i := 8) rfl (by kernel_rfl) (by kernel_rfl) (by kernel_rfl) (fun _ _ _ _ h => h) rfl hC ?_
            go_simp
            refine takeSkip (i := 9) rfl (by kernel_rfl) (by kernel_rfl) (by kernel_rfl) (fun _ _ _ _ h => h) rfl hC ?_
            go_simp
            refine takeList (i := 10) rfl (by kernel_rfl) (by kernel_rfl) (by kernel_rfl) (fun _ _ _ _ h => h) rfl rfl hC (fun K hK => ?_)
            go_big_quiet_op
            refine hK _ ?_
            clear hK K
            refine takeList (i := 11) rfl (by kernel_rfl) (by kernel_rfl) (by kernel_rfl) (fun _ _ _ _ h => h) rfl rfl hC (fun K hK => ?_)
            go_big_quiet_op
            refine hK _ ?_
            clear hK K
            refine takeList (i := 12) rfl (by kernel_rfl) (by kernel_rfl) (by kernel_rfl) (fun _ _ _ _ h => h) rfl rfl hC (fun K hK => ?_)
            go_big_quiet_op
            refine hK _ ?_
            clear hK K
            refine takeList (i := 14) rfl (by kernel_rfl) (by kernel_rfl) (by kernel_rfl) (fun _ _ _ _ h => h) rfl rfl hC (fun K hK => ?_)
            go_big_quiet_op
            refine hK _ ?_
            clear hK K
            refine takeList (i := 15) rfl (by kernel_rfl) (by kernel_rfl) (by kernel_rfl) (fun _ _ _ _ h => h) rfl rfl hC (fun K hK => ?_)
            go_big_quiet_op
            refine hK _ ?_
            clear hK K
            refine takeVal (i := 16) (.slice pv j cv) rfl (by kernel_rfl) (by kernel_rfl) (by kernel_rfl) (fun _ _ _ _ h => h) rfl hC (fun w' _ => by go_simp; try (intro h; omega)) ?_
            go_simp
            refine callList (i := 13) rfl (by kernel_rfl) rfl (fun K hK => ?_)
            go_simp
            refine Calls.mono (lx_all w W0 d g2 pn _ 1 l2 _ _ _ _ 2 262144 _ HXd.out (by rw [HRL.out]; have := HJ.out; omega)) ?_
            rintro e wa ⟨⟨zp, zc, rfl, hzc, hzr⟩, hba⟩
            rw [HRL.out] at hzr ⊢
            refine hK.out _ _ ⟨⟨_, bt hB hba⟩, rfl⟩ ?_
            try go_simp
            refine wpAnyH_strengthen (S' := fun w' => ∃ n : NewW wa, w' = n.v) (fun w' ⟨n, hn⟩ => ⟨⟨w', by rw [hn]; exact bt (bt hB hba) n.h⟩, rfl⟩) _ _ _ _ ?_
            clear hK K hC hne
            replace hB : Below wa.heap.size wa wa := Below.refl _ _
            have hC : ∃ n : NewW wa, wa = n.v := ⟨⟨_, hB⟩, rfl⟩
            have hne : Nonempty (NewW wa) := ⟨NewW.start wa⟩
            have HXa := hidOf (HXd.out.below hba)
            have HZR := hidOf hzr.now
            have HRa := hidOf ((HRd.out.below hba).take j (by have := HJ.out; omega))
            clear hba hzr hzc HXd HRd
            refine callList (i := 17) rfl (by kernel_rfl) rfl (fun K hK => ?_)
            go_simp
            refine Calls.mono (same_any _ _ ((ps3.map Part.l ++ [[108, 97, 115, 116]]).take j) ((ps3.map Part.l ++ [[108, 97, 115, 116]]).take j) wa HZR.out HRa.out) ?_
            rintro e wb ⟨he, hbb⟩
            rw [decide_eq_true rfl] at he
            subst he
            refine hK.out _ _ ⟨⟨_, bt hB hbb⟩, rfl⟩ ?_
            try go_simp
            refine wpAnyH_strengthen (S' := fun w' => ∃ n : NewW wb, w' = n.v) (fun w' ⟨n, hn⟩ => ⟨⟨w', by rw [hn]; exact bt (bt hB hbb) n.h⟩, rfl⟩) _ _ _ _ ?_
            clear hK K hC hne
            replace hB : Below wb.heap.size wb wb := Below.refl _ _
            have hC : ∃ n : NewW wb, wb = n.v := ⟨⟨_, hB⟩, rfl⟩
            have hne : Nonempty (NewW wb) := ⟨NewW.start wb⟩
            have HXb := hidOf (HXa.out.below hbb)
            clear hbb HXa HZR HRa
            refine takeList (i := 18) rfl (by kernel_rfl) (by kernel_rfl) (by kernel_rfl) (fun _ _ _ _ h => h) rfl rfl hC (fun K hK => ?_)
            go_big_quiet_op
            refine hK _ ?_
            clear hK K
            refine takeList (i := 19) rfl (by kernel_rfl) (by kernel_rfl) (by kernel_rfl) (fun _ _ _ _ h => h) rfl rfl hC (fun K hK => ?_)
            go_big_quiet_op
            refine hK _ ?_
            clear hK K
            refine wpAnyH_done (by kernel_rfl) ?_ _
            go_wp2
            go_ret
            exact ⟨rfl, HXb.out.bel⟩
          · have hjb : ((j : Int) == (k3 : Int)) = false := by rw [beq_eq_false_iff_ne]; omega
            have hjc1 : ((j : Int) == (k3 : Int) + 1) = true := by rw [beq_iff_eq]; have := HJ.out; omega
            have HJK := hidOf hjk
            clear hjk
            have hne : Nonempty (NewW W6) := ⟨NewW.start W6⟩
            have hB : Below W6.heap.size W6 W6.drew := (Below.refl _ _).drew
            have hC : ∃ n : NewW W6, W6.drew = n.v := ⟨⟨_, hB⟩, rfl⟩
            refine wp_region_held_drew (S := fun w' => ∃ n : NewW W6, w' = n.v) (by kernel_rfl) hC (fun _ => ?_)
            have HXd := hidOf (HX6.out.below hB)
            have HRd := hidOf (HRW.out.below hB)
            clear HX6 HRW
            generalize hW0 : W6.drew = W0 at *
            clear hW0
            refine takeList (i := 0) rfl (by kernel_rfl) (by kernel_rfl) (by kernel_rfl) (fun _ _ _ _ h => h) rfl rfl hC (fun K hK => ?_)
            go_big_quiet_op
            refine hK _ ?_
            clear hK K
            refine takeList (i := 1) rfl (by kernel_rfl) (by kernel_rfl) (by kernel_rfl) (fun _ _ _ _ h => h) rfl rfl hC (fun K hK => ?_)
            go_big_quiet_op
            refine hK _ ?_
            clear hK K
            refine takeVal (i := 2) (.int .i64 (k3 : Nat)) rfl (by kernel_rfl) (by kernel_rfl) (by kernel_rfl) (fun _ _ _ _ h => h) rfl hC (fun w' _ => by go_simp) ?_
            go_simp
            refine takeVal (i := 3) (.bool false) rfl (by kernel_rfl) (by kernel_rfl) (by kernel_rfl) (fun _ _ _ _ h => h) rfl hC (fun w' _ => by go_simp; try simp) ?_
            go_simp
            refine takeList (i := 4) rfl (by kernel_rfl) (by kernel_rfl) (by kernel_rfl) (fun _ _ _ _ h => h) rfl rfl hC (fun K hK => ?_)
            go_big_quiet_op
            refine hK _ ?_
            clear hK K
            refine takeList (i := 5) rfl (by kernel_rfl) (by kernel_rfl) (by kernel_rfl) (fun _ _ _ _ h => h) rfl rfl hC (fun K hK => ?_)
            go_big_quiet_op
            refine hK _ ?_
            clear hK K
            refine takeList (i := 6) rfl (by kernel_rfl) (by kernel_rfl) (by kernel_rfl) (fun _ _ _ _ h => h) rfl rfl hC (fun K hK => ?_)
            go_big_quiet_op
            refine hK _ ?_
            clear hK K
            refine takeVal (i := 7) (.int .i64 (k3 : Nat)) rfl (by kernel_rfl) (by kernel_rfl) (by kernel_rfl) (fun _ _ _ _ h => h) rfl hC (fun w' _ => by go_simp) ?_
            go_simp
            refine takeList (i := 8) rfl (by kernel_rfl) (by kernel_rfl) (by kernel_rfl) (fun _ _ _ _ h => h) rfl rfl hC (fun K hK => ?_)
            go_big_quiet_op
            refine hK _ ?_
            clear hK K
            refine takeVal (i := 9) (.bool true) rfl (by kernel_rfl) (by kernel_rfl) (by kernel_rfl) (fun _ _ _ _ h => h) rfl hC (fun w' _ => by go_simp; try simp) ?_
            go_simp
            refine takeList (i := 10) rfl (by kernel_rfl) (by kernel_rfl) (by kernel_rfl) (fun _ _ _ _ h => h) rfl rfl hC (fun K hK => ?_)
            go_big_quiet_op
            refine hK _ ?_
            clear hK K
            refine takeList (i := 11) rfl (by kernel_rfl) (by kernel_rfl) (by kernel_rfl) (fun _ _ _ _ h => h) rfl rfl hC (fun K hK => ?_)
            go_big_quiet_op
            refine hK _ ?_
            clear hK K
            refine takeList (i := 12) rfl (by kernel_rfl) (by kernel_rfl) (by kernel_rfl) (fun _ _ _ _ h => h) rfl rfl hC (fun K hK => ?_)
            go_big_quiet_op
            refine hK _ ?_
            clear hK K
            refine takeList (i := 14) rfl (by kernel_rfl) (by kernel_rfl) (by kernel_rfl) (fun _ _ _ _ h => h) rfl rfl hC (fun K hK => ?_)
            go_big_quiet_op
            refine hK _ ?_
            clear hK K
            refine takeList (i := 15) rfl (by kernel_rfl) (by kernel_rfl) (by kernel_rfl) (fun _ _ _ _ h => h) rfl rfl hC (fun K hK => ?_)
            go_big_quiet_op
            refine hK _ ?_
            clear hK K
            refine takeVal (i := 16) (.slice pv j cv) rfl (by kernel_rfl) (by kernel_rfl) (by kernel_rfl) (fun _ _ _ _ h => h) rfl hC (fun w' _ => by go_simp; try (intro h; omega)) ?_
            go_simp
            refine callList (i := 13) rfl (by kernel_rfl) rfl (fun K hK => ?_)
            go_simp
            refine Calls.mono (lx_all w W0 d g2 pn _ 1 l2 _ _ _ _ 2 262144 _ HXd.out (by rw [HRL.out]; have := HJ.out; omega)) ?_
            rintro e wa ⟨⟨zp, zc, rfl, hzc, hzr⟩, hba⟩
            rw [HRL.out] at hzr ⊢
            refine hK.out _ _ ⟨⟨_, bt hB hba⟩, rfl⟩ ?_
            try go_simp
            refine wpAnyH_strengthen (S' := fun w' => ∃ n : NewW wa, w' = n.v) (fun w' ⟨n, hn⟩ => ⟨⟨w', by rw [hn]; exact bt (bt hB hba) n.h⟩, rfl⟩) _ _ _ _ ?_
            clear hK K hC hne
            replace hB : Below wa.heap.size wa wa := Below.refl _ _
            have hC : ∃ n : NewW wa, wa = n.v := ⟨⟨_, hB⟩, rfl⟩
            have hne : Nonempty (NewW wa) := ⟨NewW.start wa⟩
            have HXa := hidOf (HXd.out.below hba)
            have HZR := hidOf hzr.now
            have HRa := hidOf ((HRd.out.below hba).take j (by have := HJ.out; omega))
            clear hba hzr hzc HXd HRd
            refine callList (i := 17) rfl (by kernel_rfl) rfl (fun K hK => ?_)
            go_simp
            refine Calls.mono (same_any _ _ ((ps3.map Part.l ++ [[108, 97, 115, 116]]).take j) ((ps3.map Part.l ++ [[108, 97, 115, 116]]).take j) wa HZR.out HRa.out) ?_
            rintro e wb ⟨he, hbb⟩
            rw [decide_eq_true rfl] at he
            subst he
            refine hK.out _ _ ⟨⟨_, bt hB hbb⟩, rfl⟩ ?_
            try go_simp
            refine wpAnyH_strengthen (S' := fun w' => ∃ n : NewW wb, w' = n.v) (fun w' ⟨n, hn⟩ => ⟨⟨w', by rw [hn]; exact bt (bt hB hbb) n.h⟩, rfl⟩) _ _ _ _ ?_
            clear hK K hC hne
            replace hB : Below wb.heap.size wb wb := Below.refl _ _
            have hC : ∃ n : NewW wb, wb = n.v := ⟨⟨_, hB⟩, rfl⟩
            have hne : Nonempty (NewW wb) := ⟨NewW.start wb⟩
            have HXb := hidOf (HXa.out.below hbb)
            clear hbb HXa HZR HRa
            refine takeList (i := 18) rfl (by kernel_rfl) (by kernel_rfl) (by kernel_rfl) (fun _ _ _ _ h => h) rfl rfl hC (fun K hK => ?_)
            go_big_quiet_op
            refine hK _ ?_
            clear hK K
            refine takeList (i := 19) rfl (by kernel_rfl) (by kernel_rfl) (by kernel_rfl) (fun _ _ _ _ h => h) rfl rfl hC (fun K hK => ?_)
            go_big_quiet_op
            refine hK _ ?_
            clear hK K
            refine wpAnyH_done (by kernel_rfl) ?_ _
            go_wp2
            go_ret
            exact ⟨rfl, HXb.out.bel⟩
end Go.Proofs.YtnhplbdbgiimkaaGreatDoor
