/-
  WalParts: how many records a file has does not count.
-/
import Derived.Test.YtnhplbdbgiimkaaGreatDoorZ32
namespace Go.Proofs.YtnhplbdbgiimkaaGreatDoor
open Go.RowKit Go.Lib
set_option linter.unusedVariables false

set_option maxRecDepth 100000 in
set_option maxHeartbeats 8000000 in
theorem parts_any (pa : Int) (wa0 : (Lit.int .i64 pa).wf = true) (pb : Int) (wb0 : (Lit.int .i64 pb).wf = true) (p : Option Addr) (ps : List Part) (cap : Nat) (kp : Int) (wk0 : (Lit.int .i64 kp).wf = true) (w : World) (hT : Tabs w) (hP : PAt w p ps) (hA : ∀ x ∈ ps, x.ok w) (hcap : ps.length ≤ cap) (hcm : cap ≤ maxLen) :
    Calls Tryz.prog 8 #[.int .i64 pa, .int .i64 pb, .slice p ps.length cap, .int .i64 kp] w fun e w' => e = .returned (.bool true) ∧ Below w.heap.size w w' := by
  have HT : Hid (Tabs w) := hT
  have HP : Hid (PAt w p ps) := hP
  have HA : Hid (∀ x ∈ ps, x.ok w) := hA
  have HCM : Hid (ps.length ≤ cap ∧ cap ≤ maxLen) := ⟨hcap, hcm⟩
  have hcm' : cap ≤ 9223372036854775807 := Nat.le_trans hcm (by decide)
  obtain ⟨m, hm⟩ : ∃ m, m = ps.length := ⟨_, rfl⟩
  have HM : Hid (m = ps.length) := hm
  rw [← hm] at hcap ⊢
  clear hT hP hA hcm hm wa0 wb0 wk0
  go_enter Tryz.func8, Tryz.ntmps8
  go_wp2_with fail
  refine (awake6_any w HT.out).mono ?_
  rintro e w1 ⟨rfl, h1⟩
  have H1 := hidOf h1
  clear h1
  by_cases g1 : pa < 1
  · go_wp2
    go_ret
    exact ⟨rfl, H1.out⟩
  by_cases g2 : 1000 < pa
  · go_wp2
    go_ret
    exact ⟨rfl, H1.out⟩
  by_cases g3 : pb < 1
  · go_wp2
    go_ret
    exact ⟨rfl, H1.out⟩
  by_cases g4 : 1000 < pb
  · go_wp2
    go_ret
    exact ⟨rfl, H1.out⟩
  by_cases g5 : (20 : Int) < (m : Int)
  · go_wp2
    go_ret
    exact ⟨rfl, H1.out⟩
  obtain ⟨an, rfl⟩ : ∃ an : Nat, pa = an := ⟨pa.toNat, by omega⟩
  obtain ⟨bn, rfl⟩ : ∃ bn : Nat, pb = bn := ⟨pb.toNat, by omega⟩
  have HAN : Hid (1 ≤ an ∧ an ≤ 1000) := ⟨by omega, by omega⟩
  have HBN : Hid (1 ≤ bn ∧ bn ≤ 1000) := ⟨by omega, by omega⟩
  have hm40 : m ≤ 20 := by omega
  go_wp2_with fail
  refine (lx_new w w1 262144 H1.out (by decide)).mono ?_
  rintro e w2 ⟨⟨d, S2, rfl, hd2, hn2⟩, hb2⟩
  have HD2 := hidOf hd2
  have HB2 := hidOf (bt H1.out hb2)
  clear hd2 hb2 hn2
  go_wp2_with fail
  refine (lx_new w w2 262144 HB2.out (by decide)).mono ?_
  rintro e w3 ⟨⟨d', S3, rfl, hd3, hn3⟩, hb3⟩
  have HD3 := hidOf (HD2.out.below hb3)
  have HE3 := hidOf hd3
  have HAP3 : Hid (∀ b, S2 b → ¬ S3 b) := fun b h1 h2 => by
    have := HD2.out.lt b h1
    have := hn3 b h2
    omega
  clear hd3 hb3 hn3 HD2 HB2
  go_wp2_with fail
  refine (lx_open w w3 d S2 0 [] [] 0 0 1 262144 an True HD3.out HT.out (by omega) HAN.out (by simp)).mono ?_
  rintro e w4 ⟨⟨gl, rfl, hlx4, -⟩, ht4⟩
  have HX4 := hidOf (show LX w w4 d gl an _ 0 [] [] 0 0 0 1 262144 True from hlx4)
  have HE4 := hidOf (HE3.out.turn ht4 (apart_sym HAP3.out) HD3.out.new)
  have HAP4 := hidOf (apart_ext (w' := w4) HAP3.out HE3.out.lt)
  clear hlx4 ht4 HD3 HE3 HAP3
  go_wp2_with fail
  refine (lx_open w w4 d' S3 0 [] [] 0 0 1 262144 bn True HE4.out HT.out (by omega) HBN.out (by simp)).mono ?_
  rintro e w5 ⟨⟨gl', rfl, hlx5, -⟩, ht5⟩
  have HY5 := hidOf (show LX w w5 d' gl' bn _ 0 [] [] 0 0 0 1 262144 True from hlx5)
  have HX5 := hidOf (HX4.out.turn ht5 HAP4.out HE4.out.new)
  have HAP5 := hidOf (apart_sym (apart_ext (w' := w5) (apart_sym HAP4.out) HX4.out.lt))
  clear hlx5 ht5 HX4 HE4 HAP4
  go_wp2_with fail
  go_loopw [17] (fun s17 wr => ∃ (k : Nat) (S T : Nat → Prop) (a : Nat) (base : List UInt8) (recs : List (List UInt8)) (n M kk : Nat), s17 = .int .i64 k ∧ k ≤ m ∧ Hid (n ≤ 2 * k ∧ M ≤ 5 * k ∧ a ≤ k ∧ recs.length ≤ k) ∧ Hid (LX w wr d gl an S a base recs n M kk 1 262144 True) ∧ Hid (LX w wr d' gl' bn T a base recs n M kk 1 262144 True) ∧ Hid (∀ b, S b → ¬ T b)) (fun s17 _ => m - (intOf s17).toNat)
  case atStart => exact ⟨0, _, _, 0, [], [], 0, 0, 0, rfl, Nat.zero_le _, ⟨by omega, by omega, by omega, by simp⟩, HX5, HY5, HAP5⟩
  case round =>
    obtain ⟨k, S, T, a, base, recs, n, M, kk, rfl, hkm, HSZ, HX, HY, HAP⟩ := hrel
    by_cases hlt : k < m
    · obtain ⟨b, o, rfl, hc⟩ := HP.out (by have := HM.out; omega)
      obtain ⟨x, hx⟩ : ∃ x, ps[k]? = some x := ⟨_, List.getElem?_eq_getElem (by have := HM.out; omega)⟩
      have hck := args_cell (hc k x hx) HX.out.bel
      have HCK : Hid (w.cell? ⟨b, o + k, none⟩ = some x.v) := hc k x hx
      have HXK : Hid (x.ok w) := HA.out x (List.mem_of_getElem? hx)
      have hxl : x.l.length ≤ 9223372036854775807 := Nat.le_trans HXK.out.1 (by decide)
      simp only [Part.v] at hck
      clear hc hx
      have hkz : (k : Int) < (m : Int) := by omega
      by_cases hbig : (200 : Int) < x.l.length
      · go_wp2
        go_ret
        exact ⟨rfl, HX.out.bel⟩
      go_wp2_with fail
      have HAD := hidOf (lx_add w _ d gl an S a base recs n M kk 1 262144 True _ [x] 1 (HX.out.below (below_new wr (.cells #[x.v] 31))) HT.out (one_stay 31 _ HXK.out HX.out.bel HX.out.new HX.out.lt) (fun y hy => by obtain rfl := List.mem_singleton.1 hy; omega) (by have := HSZ.out; simp only [List.length_singleton]; omega) (by have := HSZ.out; simp only [List.length_singleton]; omega) (by have := HSZ.out; simp only [List.length_singleton]; omega) (by have := HSZ.out; simp only [List.length_singleton]; omega) (Nat.le_refl _) (by decide))
      refine HAD.out.mono ?_
      clear HAD
      rintro e w6 ⟨rfl, hx6, ht6⟩
      have HX6 := hidOf (show LX w w6 d gl an _ a base (recs ++ [x.l]) (n + 1) (M + 1 + 1) kk 1 262144 True from hx6)
      have HY6 := hidOf ((HY.out.below (below_new wr (.cells #[x.v] 31))).turn ht6 (apart_sym HAP.out) HX.out.new)
      have HAP6 := hidOf (apart_ext (w' := w6) HAP.out (HY.out.below (below_new wr (.cells #[x.v] 31))).lt)
      clear hx6 ht6 HX HY HAP
      have hck := args_cell HCK.out HX6.out.bel
      simp only [Part.v] at hck
      go_wp2_with fail
      have HAD := hidOf (lx_add w _ d' gl' bn T a base recs n M kk 1 262144 True _ [x] 1 (HY6.out.below (below_new w6 (.cells #[x.v] 31))) HT.out (one_stay 31 _ HXK.out HY6.out.bel HY6.out.new HY6.out.lt) (fun y hy => by obtain rfl := List.mem_singleton.1 hy; omega) (by have := HSZ.out; simp only [List.length_singleton]; omega) (by have := HSZ.out; simp only [List.length_singleton]; omega) (by have := HSZ.out; simp only [List.length_singleton]; omega) (by have := HSZ.out; simp only [List.length_singleton]; omega) (Nat.le_refl _) (by decide))
      refine HAD.out.mono ?_
      clear HAD
      rintro e w7 ⟨rfl, hy7, ht7⟩
      have HY7 := hidOf (show LX w w7 d' gl' bn _ a base (recs ++ [x.l]) (n + 1) (M + 1 + 1) kk 1 262144 True from hy7)
      have HX7 := hidOf ((HX6.out.below (below_new w6 (.cells #[x.v] 31))).turn ht7 HAP6.out HY6.out.new)
      have HAP7 := hidOf (apart_sym (apart_ext (w' := w7) (apart_sym HAP6.out) (HX6.out.below (below_new w6 (.cells #[x.v] 31))).lt))
      clear hy7 ht7 HX6 HY6 HAP6
      have hck := args_cell HCK.out HX7.out.bel
      simp only [Part.v] at hck
      by_cases hkp : (k : Int) = kp
      · have hkp' : ((k : Int) == kp) = true := by rw [beq_iff_eq]; exact hkp
        have HKP := hidOf hkp
        clear hkp
        go_wp2_with fail
        have HKE := hidOf (lx_keep w _ d gl an _ a base _ _ _ _ 1 262144 True x.p x.l x.cap HX7.out HT.out (Stay1.of HXK.out HX7.out.bel HX7.out.new) (by omega) (by have := HSZ.out; omega) (by have := HSZ.out; omega) (by have := HSZ.out; omega) (by have := HSZ.out; omega))
        refine HKE.out.mono ?_
        clear HKE
        rintro e w8 ⟨rfl, hx8, ht8⟩
        have HX8 := hidOf hx8
        have HY8 := hidOf (HY7.out.turn ht8 (apart_sym HAP7.out) HX7.out.new)
        have HAP8 := hidOf (apart_ext (w' := w8) HAP7.out HY7.out.lt)
        clear hx8 ht8 HX7 HY7 HAP7
        have hck := args_cell HCK.out HX8.out.bel
        simp only [Part.v] at hck
        go_wp2_with fail
        have HKE := hidOf (lx_keep w _ d' gl' bn _ a base _ _ _ _ 1 262144 True x.p x.l x.cap HY8.out HT.out (Stay1.of HXK.out HY8.out.bel HY8.out.new) (by omega) (by have := HSZ.out; omega) (by have := HSZ.out; omega) (by have := HSZ.out; omega) (by have := HSZ.out; omega))
        refine HKE.out.mono ?_
        clear HKE
        rintro e w9 ⟨rfl, hy9, ht9⟩
        have HY9 := hidOf hy9
        have HX9 := hidOf (HX8.out.turn ht9 HAP8.out HY8.out.new)
        have HAP9 := hidOf (apart_sym (apart_ext (w' := w9) (apart_sym HAP8.out) HX8.out.lt))
        clear hy9 ht9 HX8 HY8 HAP8
        go_wp2
        go_roundw
        case rel => exact ⟨k + 1, _, _, a + 1, x.l, [], n + 1 + 1, M + 1 + 1 + 1, 0, by go_num, by omega, by have := HSZ.out; exact ⟨by omega, by omega, by omega, by simp⟩, HX9, HY9, HAP9⟩
        case measure => simp [intOf]; omega
      · have hkp' : ((k : Int) == kp) = false := by rw [beq_eq_false_iff_ne]; exact hkp
        have HKP := hidOf hkp
        clear hkp
        go_wp2
        go_roundw
        case rel => exact ⟨k + 1, _, _, a, base, recs ++ [x.l], n + 1, M + 1 + 1, kk, by go_num, by omega, by have := HSZ.out; exact ⟨by omega, by omega, by omega, by rw [List.length_append, List.length_singleton]; omega⟩, HX7, HY7, HAP7⟩
        case measure => simp [intOf]; omega
    · obtain rfl : k = m := by omega
      go_wp2_with fail
      refine (lx_sync w _ d gl an _ a base _ _ _ _ 1 262144 True HX.out (by have := HSZ.out; omega)).mono ?_
      rintro e w6 ⟨rfl, hx6, ht6⟩
      have HX6 := hidOf hx6
      have HY6 := hidOf (HY.out.turn ht6 (apart_sym HAP.out) HX.out.new)
      clear hx6 ht6 HX HY
      go_wp2_with fail
      refine (lx_sync w _ d' gl' bn _ a base _ _ _ _ 1 262144 True HY6.out (by have := HSZ.out; omega)).mono ?_
      rintro e w7 ⟨rfl, hy7, ht7⟩
      have HY7 := hidOf hy7
      have HX7 := hidOf (HX6.out.turn ht7 HAP.out HY6.out.new)
      clear hy7 ht7 HX6 HY6
      go_wp2_with fail
      refine (lx_crash w _ d gl an _ a base _ _ _ _ 1 262144 True 0 0 HX7.out (by have := HSZ.out; omega) (by decide) (by decide) (by decide) (by decide)).mono ?_
      rintro e w8 ⟨rfl, ⟨j, T8, hd8, -, -, hj, -, -, hT8⟩, ht8⟩
      obtain rfl := hj (Or.inr ⟨rfl, by decide⟩)
      rw [List.take_length] at hd8
      have HD8 := hidOf hd8
      have HY8 := hidOf (HY7.out.turn ht8 (apart_sym HAP.out) HX7.out.new)
      have HAP8 := hidOf (apart_sub (apart_ext (w' := w8) HAP.out HY7.out.lt) hT8)
      clear hd8 hT8 ht8 hj HX7 HY7 HAP
      go_wp2_with fail
      refine (lx_crash w _ d' gl' bn _ a base _ _ _ _ 1 262144 True 0 0 HY8.out (by have := HSZ.out; omega) (by decide) (by decide) (by decide) (by decide)).mono ?_
      rintro e w9 ⟨rfl, ⟨j, T9, he9, -, -, hj, -, -, hT9⟩, ht9⟩
      obtain rfl := hj (Or.inr ⟨rfl, by decide⟩)
      rw [List.take_length] at he9
      have HE9 := hidOf he9
      have HD9 := hidOf (HD8.out.turn ht9 HAP8.out HY8.out.new)
      have HAP9 := hidOf (apart_sym (apart_sub (apart_ext (w' := w9) (apart_sym HAP8.out) HD8.out.lt) hT9))
      clear he9 hT9 ht9 hj HD8 HY8 HAP8
      go_wp2_with fail
      refine (lx_on w _ d _ _ a base _ _ _ 1 262144 _ HD9.out (by decide)).mono ?_
      rintro e w10 ⟨rfl, hd10, ht10⟩
      have HD10 := hidOf hd10
      have HE10 := hidOf (HE9.out.turn ht10 (apart_sym HAP9.out) HD9.out.new)
      clear hd10 ht10 HD9 HE9
      go_wp2_with fail
      refine (lx_on w _ d' _ _ a base _ _ _ 1 262144 _ HE10.out (by decide)).mono ?_
      rintro e w11 ⟨rfl, he11, ht11⟩
      have HE11 := hidOf he11
      have HD11 := hidOf (HD10.out.turn ht11 HAP9.out HE10.out.new)
      clear he11 ht11 HD10 HE10
      go_wp2_with fail
      refine (lx_open w _ d _ a base _ _ _ _ 262144 bn _ HD11.out HT.out (by have := HSZ.out; omega) HBN.out (by have := HSZ.out; omega)).mono ?_
      rintro e w12 ⟨⟨g2, rfl, hx12, -⟩, ht12⟩
      have HX12 := hidOf hx12
      have HE12 := hidOf (HE11.out.turn ht12 (apart_sym HAP9.out) HD11.out.new)
      have HAP12 := hidOf (apart_ext (w' := w12) HAP9.out HE11.out.lt)
      clear hx12 ht12 HD11 HE11 HAP9
      go_wp2_with fail
      refine (lx_open w _ d' _ a base _ _ _ _ 262144 an _ HE12.out HT.out (by have := HSZ.out; omega) HAN.out (by have := HSZ.out; omega)).mono ?_
      rintro e w13 ⟨⟨g2', rfl, hy13, -⟩, ht13⟩
      have HY13 := hidOf hy13
      have HX13 := hidOf (HX12.out.turn ht13 HAP12.out HE12.out.new)
      clear hy13 ht13 HX12 HE12 HAP12
      go_wp2_with fail
      have hne : Nonempty (NewW w13) := ⟨NewW.start w13⟩
      have hB : Below w13.heap.size w13 w13.drew := (Below.refl _ _).drew
      have hC : ∃ n : NewW w13, w13.drew = n.v := ⟨⟨_, hB⟩, rfl⟩
      refine wp_region_held_drew (S := fun w' => ∃ n : NewW w13, w' = n.v) (by kernel_rfl) hC (fun _ => ?_)
      have HXd := hidOf (HX13.out.below hB)
      have HYd := hidOf (HY13.out.below hB)
      clear HX13 HY13
      generalize hW0 : w13.drew = W0 at *
      clear hW0
      refine takeList (i := 0) rfl (by kernel_rfl) (by kernel_rfl) (by kernel_rfl) (fun _ _ _ _ h => h) rfl rfl hC (fun K hK => ?_)
      go_big_quiet_op
      refine hK _ ?_
      clear hK K
      refine takeVal (i := 1) (.bool true) rfl (by kernel_rfl) (by kernel_rfl) (by kernel_rfl) (fun _ _ _ _ h => h) rfl hC (fun w' _ => by go_simp; try simp) ?_
      go_simp
      refine takeList (i := 2) rfl (by kernel_rfl) (by kernel_rfl) (by kernel_rfl) (fun _ _ _ _ h => h) rfl rfl hC (fun K hK => ?_)
      go_big_quiet_op
      refine hK _ ?_
      clear hK K
      refine takeList (i := 3) rfl (by kernel_rfl) (by kernel_rfl) (by kernel_rfl) (fun _ _ _ _ h => h) rfl rfl hC (fun K hK => ?_)
      go_big_quiet_op
      refine hK _ ?_
      clear hK K
      refine takeVal (i := 4) (.bool true) rfl (by kernel_rfl) (by kernel_rfl) (by kernel_rfl) (fun _ _ _ _ h => h) rfl hC (fun w' _ => by go_simp; try simp) ?_
      go_simp
      refine takeList (i := 5) rfl (by kernel_rfl) (by kernel_rfl) (by kernel_rfl) (fun _ _ _ _ h => h) rfl rfl hC (fun K hK => ?_)
      go_big_quiet_op
      refine hK _ ?_
      clear hK K
      refine takeList (i := 6) rfl (by kernel_rfl) (by kernel_rfl) (by kernel_rfl) (fun _ _ _ _ h => h) rfl rfl hC (fun K hK => ?_)
      go_big_quiet_op
      refine hK _ ?_
      clear hK K
      refine takeList (i := 7) rfl (by kernel_rfl) (by kernel_rfl) (by kernel_rfl) (fun _ _ _ _ h => h) rfl rfl hC (fun K hK => ?_)
      go_big_quiet_op
      refine hK _ ?_
      clear hK K
      refine takeVal (i := 8) (.bool true) rfl (by kernel_rfl) (by kernel_rfl) (by kernel_rfl) (fun _ _ _ _ h => h) rfl hC (fun w' _ => by go_simp; try simp) ?_
      go_simp
      refine takeList (i := 9) rfl (by kernel_rfl) (by kernel_rfl) (by kernel_rfl) (fun _ _ _ _ h => h) rfl rfl hC (fun K hK => ?_)
      go_big_quiet_op
      refine hK _ ?_
      clear hK K
      refine takeList (i := 10) rfl (by kernel_rfl) (by kernel_rfl) (by kernel_rfl) (fun _ _ _ _ h => h) rfl rfl hC (fun K hK => ?_)
      go_big_quiet_op
      refine hK _ ?_
      clear hK K
      refine takeList (i := 11) rfl (by kernel_rfl) (by kernel_rfl) (by kernel_rfl) (fun _ _ _ _ h => h) rfl rfl hC (fun K hK => ?_)
      go_big_quiet_op
      refine hK _ ?_
      clear hK K
      refine takeVal (i := 12) (.bool true) rfl (by kernel_rfl) (by kernel_rfl) (by kernel_rfl) (fun _ _ _ _ h => h) rfl hC (fun w' _ => by go_simp; try simp) ?_
      go_simp
      refine takeList (i := 13) rfl (by kernel_rfl) (by kernel_rfl) (by kernel_rfl) (fun _ _ _ _ h => h) rfl rfl hC (fun K hK => ?_)
      go_big_quiet_op
      refine hK _ ?_
      clear hK K
      refine takeList (i := 14) rfl (by kernel_rfl) (by kernel_rfl) (by kernel_rfl) (fun _ _ _ _ h => h) rfl rfl hC (fun K hK => ?_)
      go_big_quiet_op
      refine hK _ ?_
      clear hK K
      refine takeList (i := 15) rfl (by kernel_rfl) (by kernel_rfl) (by kernel_rfl) (fun _ _ _ _ h => h) rfl rfl hC (fun K hK => ?_)
      go_big_quiet_op
      refine hK _ ?_
      clear hK K
      refine takeList (i := 18) rfl (by kernel_rfl) (by kernel_rfl) (by kernel_rfl) (fun _ _ _ _ h => h) rfl rfl hC (fun K hK => ?_)
      go_big_quiet_op
      refine hK _ ?_
      clear hK K
      refine callList (i := 16) rfl (by kernel_rfl) rfl (fun K hK => ?_)
      go_simp
      refine Calls.mono (lx_base w W0 d g2 bn _ a base _ _ _ _ 2 262144 _ HXd.out) ?_
      rintro e wa ⟨⟨bp, bc, rfl, hbp⟩, hba⟩
      refine hK.out _ _ ⟨⟨_, bt hB hba⟩, rfl⟩ ?_
      try go_simp
      refine wpAnyH_strengthen (S' := fun w' => ∃ n : NewW wa, w' = n.v) (fun w' ⟨n, hn⟩ => ⟨⟨w', by rw [hn]; exact bt (bt hB hba) n.h⟩, rfl⟩) _ _ _ _ ?_
      clear hK K hC hne
      replace hB : Below wa.heap.size wa wa := Below.refl _ _
      have hC : ∃ n : NewW wa, wa = n.v := ⟨⟨_, hB⟩, rfl⟩
      have hne : Nonempty (NewW wa) := ⟨NewW.start wa⟩
      have HXa := hidOf (HXd.out.below hba)
      have HYa := hidOf (HYd.out.below hba)
      have HBP := hidOf hbp
      clear hba hbp HXd HYd
      refine takeConv (i := 17) _ _ _ _ (.string ⟨base.toArray⟩) rfl rfl rfl (by kernel_rfl) (by kernel_rfl) (by kernel_rfl) (fun _ _ _ _ h => h) rfl hC (fun w' ⟨nw, hnw⟩ => by rw [hnw]; exact conv_at (Part.ok.below HBP.out nw.h) rfl) ?_
      go_simp
      refine callList (i := 19) rfl (by kernel_rfl) rfl (fun K hK => ?_)
      go_simp
      refine Calls.mono (lx_base w wa d' g2' an _ a base _ _ _ _ 2 262144 _ HYa.out) ?_
      rintro e wb ⟨⟨bq, bd, rfl, hbq⟩, hbb⟩
      refine hK.out _ _ ⟨⟨_, bt hB hbb⟩, rfl⟩ ?_
      try go_simp
      refine wpAnyH_strengthen (S' := fun w' => ∃ n : NewW wb, w' = n.v) (fun w' ⟨n, hn⟩ => ⟨⟨w', by rw [hn]; exact bt (bt hB hbb) n.h⟩, rfl⟩) _ _ _ _ ?_
      clear hK K hC hne
      replace hB : Below wb.heap.size wb wb := Below.refl _ _
      have hC : ∃ n : NewW wb, wb = n.v := ⟨⟨_, hB⟩, rfl⟩
      have hne : Nonempty (NewW wb) := ⟨NewW.start wb⟩
      have HXb := hidOf (HXa.out.below hbb)
      have HYb := hidOf (HYa.out.below hbb)
      have HBQ := hidOf hbq
      clear hbb hbq HXa HYa
      refine takeConv (i := 20) _ _ _ _ (.string ⟨base.toArray⟩) rfl rfl rfl (by kernel_rfl) (by kernel_rfl) (by kernel_rfl) (fun _ _ _ _ h => h) rfl hC (fun w' ⟨nw, hnw⟩ => by rw [hnw]; exact conv_at (Part.ok.below HBQ.out nw.h) rfl) ?_
      go_simp
      refine takeVal (i := 21) (.bool true) rfl (by kernel_rfl) (by kernel_rfl) (by kernel_rfl) (fun _ _ _ _ h => h) rfl hC (fun w' _ => by go_simp; try simp) ?_
      go_simp
      refine takeList (i := 22) rfl (by kernel_rfl) (by kernel_rfl) (by kernel_rfl) (fun _ _ _ _ h => h) rfl rfl hC (fun K hK => ?_)
      go_big_quiet_op
      refine hK _ ?_
      clear hK K
      refine takeList (i := 23) rfl (by kernel_rfl) (by kernel_rfl) (by kernel_rfl) (fun _ _ _ _ h => h) rfl rfl hC (fun K hK => ?_)
      go_big_quiet_op
      refine hK _ ?_
      clear hK K
      refine takeList (i := 24) rfl (by kernel_rfl) (by kernel_rfl) (by kernel_rfl) (fun _ _ _ _ h => h) rfl rfl hC (fun K hK => ?_)
      go_big_quiet_op
      refine hK _ ?_
      clear hK K
      refine takeList (i := 26) rfl (by kernel_rfl) (by kernel_rfl) (by kernel_rfl) (fun _ _ _ _ h => h) rfl rfl hC (fun K hK => ?_)
      go_big_quiet_op
      refine hK _ ?_
      clear hK K
      refine callList (i := 25) rfl (by kernel_rfl) rfl (fun K hK => ?_)
      go_simp
      refine Calls.mono (lx_all w wb d g2 bn _ a base _ _ _ _ 2 262144 _ HXb.out (by have := HSZ.out; omega)) ?_
      rintro e wc ⟨⟨zp, zc, rfl, hzc, hzr⟩, hbc⟩
      refine hK.out _ _ ⟨⟨_, bt hB hbc⟩, rfl⟩ ?_
      try go_simp
      refine wpAnyH_strengthen (S' := fun w' => ∃ n : NewW wc, w' = n.v) (fun w' ⟨n, hn⟩ => ⟨⟨w', by rw [hn]; exact bt (bt hB hbc) n.h⟩, rfl⟩) _ _ _ _ ?_
      clear hK K hC hne
      replace hB : Below wc.heap.size wc wc := Below.refl _ _
      have hC : ∃ n : NewW wc, wc = n.v := ⟨⟨_, hB⟩, rfl⟩
      have hne : Nonempty (NewW wc) := ⟨NewW.start wc⟩
      have HYc := hidOf (HYb.out.below hbc)
      have HZR := hidOf hzr.now
      clear hbc hzr hzc HXb HYb
      refine callList (i := 27) rfl (by kernel_rfl) rfl (fun K hK => ?_)
      go_simp
      refine Calls.mono (lx_all w wc d' g2' an _ a base _ _ _ _ 2 262144 _ HYc.out (by have := HSZ.out; omega)) ?_
      rintro e wd ⟨⟨yp, yc, rfl, hyc, hyr⟩, hbd⟩
      refine hK.out _ _ ⟨⟨_, bt hB hbd⟩, rfl⟩ ?_
      try go_simp
      refine wpAnyH_strengthen (S' := fun w' => ∃ n : NewW wd, w' = n.v) (fun w' ⟨n, hn⟩ => ⟨⟨w', by rw [hn]; exact bt (bt hB hbd) n.h⟩, rfl⟩) _ _ _ _ ?_
      clear hK K hC hne
      replace hB : Below wd.heap.size wd wd := Below.refl _ _
      have hC : ∃ n : NewW wd, wd = n.v := ⟨⟨_, hB⟩, rfl⟩
      have hne : Nonempty (NewW wd) := ⟨NewW.start wd⟩
      have HYd := hidOf (HYc.out.below hbd)
      have HYR := hidOf hyr.now
      have HZD := hidOf (HZR.out.below hbd)
      clear hbd hyr hyc HYc HZR
      refine callList (i := 28) rfl (by kernel_rfl) rfl (fun K hK => ?_)
      go_simp
      refine Calls.mono (same_any _ _ recs recs wd HZD.out HYR.out) ?_
      rintro e we ⟨he, hbe⟩
      rw [decide_eq_true rfl] at he
      subst he
      refine hK.out _ _ ⟨⟨_, bt hB hbe⟩, rfl⟩ ?_
      try go_simp
      refine wpAnyH_strengthen (S' := fun w' => ∃ n : NewW we, w' = n.v) (fun w' ⟨n, hn⟩ => ⟨⟨w', by rw [hn]; exact bt (bt hB hbe) n.h⟩, rfl⟩) _ _ _ _ ?_
      clear hK K hC hne
      replace hB : Below we.heap.size we we := Below.refl _ _
      have hC : ∃ n : NewW we, we = n.v := ⟨⟨_, hB⟩, rfl⟩
      have hne : Nonempty (NewW we) := ⟨NewW.start we⟩
      have HYe := hidOf (HYd.out.below hbe)
      clear hbe HYd HYR HZD
      refine takeList (i := 29) rfl (by kernel_rfl) (by kernel_rfl) (by kernel_rfl) (fun _ _ _ _ h => h) rfl rfl hC (fun K hK => ?_)
      go_big_quiet_op
      refine hK _ ?_
      clear hK K
      refine takeList (i := 30) rfl (by kernel_rfl) (by kernel_rfl) (by kernel_rfl) (fun _ _ _ _ h => h) rfl rfl hC (fun K hK => ?_)
      go_big_quiet_op
      refine hK _ ?_
      clear hK K
      refine wpAnyH_done (by kernel_rfl) ?_ _
      go_wp2
      go_ret
      exact ⟨rfl, HYe.out.bel⟩
end Go.Proofs.YtnhplbdbgiimkaaGreatDoor
