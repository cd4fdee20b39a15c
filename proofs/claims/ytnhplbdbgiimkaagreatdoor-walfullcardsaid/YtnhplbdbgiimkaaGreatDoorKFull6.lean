/-
  WalFull: a log on a disk without room.
-/
import Derived.Test.YtnhplbdbgiimkaaGreatDoorZ32
namespace Go.Proofs.YtnhplbdbgiimkaaGreatDoor
open Go.RowKit Go.Lib
set_option linter.unusedVariables false

set_option maxRecDepth 100000 in
set_option maxHeartbeats 8000000 in
theorem full_any (room : Int) (wr0 : (Lit.int .i64 room).wf = true) (part : Int) (wp0 : (Lit.int .i64 part).wf = true) (p : Option Addr) (ps : List Part) (cap : Nat) (w : World) (hT : Tabs w) (hP : PAt w p ps) (hA : ∀ x ∈ ps, x.ok w) (hcap : ps.length ≤ cap) (hcm : cap ≤ maxLen) :
    Calls Tryz.prog 6 #[.int .i64 room, .int .i64 part, .slice p ps.length cap] w fun e w' => e = .returned (.bool true) ∧ Below w.heap.size w w' := by
  have HT : Hid (Tabs w) := hT
  have HP : Hid (PAt w p ps) := hP
  have HA : Hid (∀ x ∈ ps, x.ok w) := hA
  have HCM : Hid (ps.length ≤ cap ∧ cap ≤ maxLen) := ⟨hcap, hcm⟩
  have hcm' : cap ≤ 9223372036854775807 := Nat.le_trans hcm (by decide)
  obtain ⟨m, hm⟩ : ∃ m, m = ps.length := ⟨_, rfl⟩
  have HM : Hid (m = ps.length) := hm
  rw [← hm] at hcap ⊢
  clear hT hP hA hcm hm wr0 wp0
  go_enter Tryz.func6, Tryz.ntmps6
  go_wp2_with fail
  refine (awake6_any w HT.out).mono ?_
  rintro e w1 ⟨rfl, h1⟩
  have H1 := hidOf h1
  clear h1
  by_cases g1 : room < 300
  · go_wp2
    go_ret
    exact ⟨rfl, H1.out⟩
  by_cases g2 : 5000 < room
  · go_wp2
    go_ret
    exact ⟨rfl, H1.out⟩
  by_cases g3 : part < 1
  · go_wp2
    go_ret
    exact ⟨rfl, H1.out⟩
  by_cases g4 : 1000 < part
  · go_wp2
    go_ret
    exact ⟨rfl, H1.out⟩
  by_cases g5 : (40 : Int) < (m : Int)
  · go_wp2
    go_ret
    exact ⟨rfl, H1.out⟩
  obtain ⟨rm, rfl⟩ : ∃ rm : Nat, room = rm := ⟨room.toNat, by omega⟩
  obtain ⟨pn, rfl⟩ : ∃ pn : Nat, part = pn := ⟨part.toNat, by omega⟩
  have HR : Hid (300 ≤ rm ∧ rm ≤ 5000) := ⟨by omega, by omega⟩
  have HPN : Hid (1 ≤ pn ∧ pn ≤ 1000) := ⟨by omega, by omega⟩
  have hm40 : m ≤ 40 := by omega
  go_wp2_with fail
  refine (lx_new w w1 rm H1.out (by have := HR.out; omega)).mono ?_
  rintro e w2 ⟨⟨d, S2, rfl, hd2, -⟩, -⟩
  have HD2 := hidOf hd2
  clear hd2
  go_wp2_with fail
  refine (lx_open w w2 d S2 0 [] [] 0 0 1 rm pn True HD2.out HT.out (by omega) HPN.out (by simp)).mono ?_
  rintro e w3 ⟨⟨gl, rfl, hlx3, -⟩, -⟩
  have HLX3 := hidOf (show LX w w3 d gl pn _ 0 [] [] 0 0 0 1 rm True from hlx3)
  clear hlx3 HD2
  go_wp2_with fail
  go_loopw [11, 12] (fun s11 s12 wr => ∃ (k : Nat) (S : Nat → Prop), s11 = .int .i64 k ∧ s12 = .int .i64 k ∧ k ≤ m ∧ Hid (LX w wr d gl pn S 0 [] ((ps.map Part.l).take k) k (2 * k) k 1 rm True)) (fun _ s12 _ => m - (intOf s12).toNat)
  case atStart => exact ⟨0, _, rfl, rfl, Nat.zero_le _, HLX3⟩
  case round =>
    obtain ⟨k, S, rfl, rfl, hkm, HLX⟩ := hrel
    by_cases hlt : k < m
    · obtain ⟨b, o, rfl, hc⟩ := HP.out (by have := HM.out; omega)
      obtain ⟨x, hx⟩ : ∃ x, ps[k]? = some x := ⟨_, List.getElem?_eq_getElem (by have := HM.out; omega)⟩
      have hck : wr.cell? ⟨b, o + k, none⟩ = some x.v := args_cell (hc k x hx) HLX.out.bel
      have HX : Hid (x.ok w) := HA.out x (List.mem_of_getElem? hx)
      have HTK : Hid ((ps.map Part.l).take (k + 1) = (ps.map Part.l).take k ++ [x.l]) := map_take_succ hx
      have hxl : x.l.length ≤ 9223372036854775807 := Nat.le_trans HX.out.1 (by decide)
      simp only [Part.v] at hck
      clear hc hx
      have hkz : (k : Int) < (m : Int) := by omega
      by_cases hbig : (200 : Int) < x.l.length
      · go_wp2
        go_ret
        exact ⟨rfl, HLX.out.bel⟩
      go_wp2_with fail
      have HAD := hidOf (lx_add1 w _ d gl pn S 0 [] _ k (2 * k) k 1 rm True _ x 1 (HLX.out.below (below_new wr (.cells #[x.v] 31))) HT.out (one_stay 31 _ HX.out HLX.out.bel HLX.out.new HLX.out.lt) (by omega) (by omega) (by omega) (by rw [List.length_take]; omega) (Nat.le_refl _) (by decide))
      refine HAD.out.mono ?_
      clear HAD
      rintro e w4 ⟨⟨rfl, hlx4⟩ | ⟨rfl, hdx4, hfl4⟩, -⟩
      · have HLX4 := hidOf hlx4
        rw [← HTK.out] at HLX4
        clear hlx4
        go_wp2_with fail
        refine (lx_sync w _ d gl pn _ 0 [] _ _ _ _ 1 rm True HLX4.out (by omega)).mono ?_
        rintro e w5 ⟨rfl, hlx5, -⟩
        have HLX5 := hidOf hlx5
        clear hlx5 HLX4
        go_wp2
        go_roundw
        case rel => exact ⟨k + 1, _, by go_num, by go_num, by omega, by
          have h1 := HLX5.out
          rw [List.length_take, List.length_map, Nat.min_eq_left (by have := HM.out; omega)] at h1
          exact h1⟩
        case measure => simp [intOf]; omega
      · have HDX4 := hidOf hdx4
        have HFL4 := hidOf hfl4
        clear hdx4 hfl4
        go_wp2_with fail
        refine (lx_full_done w _ d gl _ _ 0 [] _ _ _ 1 rm _ HDX4.out HFL4.out).mono ?_
        rintro e w5 ⟨rfl, hb5⟩
        have HDX5 := hidOf (HDX4.out.below hb5)
        have HFL5 := hidOf (HFL4.out.below hb5)
        clear hb5 HDX4 HFL4
        go_wp2_with fail
        have HPE := hidOf (pat_new (w5.alloc (.cells #[] 5)) [⟨some ⟨w5.heap.size, 0, none⟩, [], 0⟩] 31 (0, 0))
        rw [World.size_alloc] at HPE
        refine (lx_full_add w _ d gl _ _ 0 [] _ _ _ 1 rm _ _ [⟨some ⟨w5.heap.size, 0, none⟩, [], 0⟩] 1 (HDX5.out.below (below_two _ _ _)) (HFL5.out.below (below_two _ _ _)) HPE.out (by simp) (by simp)).mono ?_
        rintro e w6 ⟨rfl, hb6⟩
        have HDX6 := hidOf (HDX5.out.below (bt (below_two _ _ _) hb6))
        clear hb6 HDX5 HFL5
        go_wp2_with fail
        refine (lx_open w _ d _ 0 [] _ k _ 1 rm pn _ HDX6.out HT.out (by omega) HPN.out (by rw [List.length_take]; omega)).mono ?_
        rintro e w8 ⟨⟨g8, rfl, hlx8, -⟩, -⟩
        have HLX8 := hidOf hlx8
        clear hlx8 HDX6
        go_wp2_with fail
        refine (lx_all w _ d g8 pn _ 0 [] _ _ _ _ 1 rm _ HLX8.out (by rw [List.length_take]; omega)).mono ?_
        rintro e w9 ⟨⟨yp, yc, rfl, hyc, hrs9⟩, hb9⟩
        have HRL : Hid (((ps.map Part.l).take k).length = k) := by show _ = _; rw [List.length_take, List.length_map, Nat.min_eq_left (by have := HM.out; omega)]
        rw [HRL.out]
        have HLX9 := hidOf (HLX8.out.below hb9)
        clear hrs9 hb9 HLX8
        go_wp2_with fail
        have hC : True := trivial
        have HCA := HCM.out.1
        refine wp_region_held_drew (S := fun _ => True) (by kernel_rfl) hC (fun _ => ?_)
        have HLXd := hidOf (HLX9.out.below (Below.drew (Below.refl _ _)))
        clear HLX9
        generalize hW0 : w9.drew = W0 at *
        clear hW0
        refine takeList (i := 0) rfl (by kernel_rfl) (by kernel_rfl) (by kernel_rfl) (fun _ _ _ _ h => h) rfl rfl hC (fun K hK => ?_)
        go_big_quiet_op
        refine hK _ ?_
        clear hK K
        refine takeList (i := 1) rfl (by kernel_rfl) (by kernel_rfl) (by kernel_rfl) (fun _ _ _ _ h => h) rfl rfl hC (fun K hK => ?_)
        go_big_quiet_op
        refine hK _ ?_
        clear hK K
        refine takeVal (i := 2) (.bool true) rfl (by kernel_rfl) (by kernel_rfl) (by kernel_rfl) (fun _ _ _ _ h => h) rfl hC (fun w' _ => by go_simp; try simp) ?_
        go_simp
        refine takeList (i := 3) rfl (by kernel_rfl) (by kernel_rfl) (by kernel_rfl) (fun _ _ _ _ h => h) rfl rfl hC (fun K hK => ?_)
        go_big_quiet_op
        refine hK _ ?_
        clear hK K
        refine takeList (i := 4) rfl (by kernel_rfl) (by kernel_rfl) (by kernel_rfl) (fun _ _ _ _ h => h) rfl rfl hC (fun K hK => ?_)
        go_big_quiet_op
        refine hK _ ?_
        clear hK K
        refine takeList (i := 5) rfl (by kernel_rfl) (by kernel_rfl) (by kernel_rfl) (fun _ _ _ _ h => h) rfl rfl hC (fun K hK => ?_)
        go_big_quiet_op
        refine hK _ ?_
        clear hK K
        refine takeVal (i := 6) (.int .i64 (m : Nat)) rfl (by kernel_rfl) (by kernel_rfl) (by kernel_rfl) (fun _ _ _ _ h => h) rfl hC (fun w' _ => by go_simp) ?_
        go_simp
        refine takeVal (i := 7) (.bool true) rfl (by kernel_rfl) (by kernel_rfl) (by kernel_rfl) (fun _ _ _ _ h => h) rfl hC (fun w' _ => by go_simp; try simp; try omega) ?_
        go_simp
        refine takeList (i := 8) rfl (by kernel_rfl) (by kernel_rfl) (by kernel_rfl) (fun _ _ _ _ h => h) rfl rfl hC (fun K hK => ?_)
        go_big_quiet_op
        refine hK _ ?_
        clear hK K
        refine takeList (i := 9) rfl (by kernel_rfl) (by kernel_rfl) (by kernel_rfl) (fun _ _ _ _ h => h) rfl rfl hC (fun K hK => ?_)
        go_big_quiet_op
        refine hK _ ?_
        clear hK K
        refine takeList (i := 10) rfl (by kernel_rfl) (by kernel_rfl) (by kernel_rfl) (fun _ _ _ _ h => h) rfl rfl hC (fun K hK => ?_)
        go_big_quiet_op
        refine hK _ ?_
        clear hK K
        refine takeList (i := 12) rfl (by kernel_rfl) (by kernel_rfl) (by kernel_rfl) (fun _ _ _ _ h => h) rfl rfl hC (fun K hK => ?_)
        go_big_quiet_op
        refine hK _ ?_
        clear hK K
        refine takeList (i := 13) rfl (by kernel_rfl) (by kernel_rfl) (by kernel_rfl) (fun _ _ _ _ h => h) rfl rfl hC (fun K hK => ?_)
        go_big_quiet_op
        refine hK _ ?_
        clear hK K
        refine takeVal (i := 14) (.slice (some ⟨b, o, none⟩) k cap) rfl (by kernel_rfl) (by kernel_rfl) (by kernel_rfl) (fun _ _ _ _ h => h) rfl hC (fun w' _ => by go_simp; try (intro h; omega)) ?_
        go_simp
        refine callList (i := 11) rfl (by kernel_rfl) rfl (fun K hK => ?_)
        go_simp
        refine (lx_all w _ d g8 pn _ 0 [] _ _ _ _ 1 rm _ HLXd.out (by rw [List.length_take]; omega)).mono ?_
        rintro e w10 ⟨⟨zp, zc, rfl, hzc, hrs10⟩, hb10⟩
        rw [HRL.out] at hrs10 ⊢
        have HLXe := hidOf (HLXd.out.below hb10)
        have HRS := hidOf hrs10.now
        clear hrs10 hb10 HLXd
        refine hK.out _ _ trivial ?_
        try go_simp
        clear hK K
        have HSM := hidOf (same_any (.slice zp k zc) (.slice (some ⟨b, o, none⟩) k cap) ((ps.map Part.l).take k) ((ps.map Part.l).take k) w10 HRS.out ((Rows.pre HP.out HA.out (by have := HM.out; omega) HCM.out.2 k k (by have := HM.out; omega) rfl).below HLXe.out.bel))
        refine callList (i := 15) rfl (by kernel_rfl) rfl (fun K hK => ?_)
        go_simp
        refine HSM.out.mono ?_
        rintro e w11 ⟨he, hb11⟩
        rw [decide_eq_true rfl] at he
        subst he
        have HLXf := hidOf (HLXe.out.below hb11)
        clear hb11 HLXe HRS HSM
        refine hK.out _ _ trivial ?_
        try go_simp
        clear hK K
        refine takeList (i := 16) rfl (by kernel_rfl) (by kernel_rfl) (by kernel_rfl) (fun _ _ _ _ h => h) rfl rfl hC (fun K hK => ?_)
        go_big_quiet_op
        refine hK _ ?_
        clear hK K
        refine takeList (i := 17) rfl (by kernel_rfl) (by kernel_rfl) (by kernel_rfl) (fun _ _ _ _ h => h) rfl rfl hC (fun K hK => ?_)
        go_big_quiet_op
        refine hK _ ?_
        clear hK K
        refine wpAnyH_done (by kernel_rfl) ?_ _
        go_wp2
        go_ret
        exact ⟨rfl, HLXf.out.bel⟩
    · obtain rfl : k = m := by omega
      have HDX := hidOf HLX.out.dx
      clear HLX
      go_wp2_with fail
      refine (lx_open w _ d _ 0 [] _ k _ 1 rm pn _ HDX.out HT.out (by omega) HPN.out (by rw [List.length_take]; omega)).mono ?_
      rintro e w8 ⟨⟨g8, rfl, hlx8, -⟩, -⟩
      have HLX8 := hidOf hlx8
      clear hlx8 HDX
      go_wp2_with fail
      refine (lx_all w _ d g8 pn _ 0 [] _ _ _ _ 1 rm _ HLX8.out (by rw [List.length_take]; omega)).mono ?_
      rintro e w9 ⟨⟨yp, yc, rfl, hyc, hrs9⟩, hb9⟩
      have HRL : Hid (((ps.map Part.l).take k).length = k) := by show _ = _; rw [List.length_take, List.length_map, Nat.min_eq_left (by have := HM.out; omega)]
      rw [HRL.out]
      have HLX9 := hidOf (HLX8.out.below hb9)
      clear hrs9 hb9 HLX8
      go_wp2_with fail
      have hC : True := trivial
      have HCA := HCM.out.1
      refine wp_region_held_drew (S := fun _ => True) (by kernel_rfl) hC (fun _ => ?_)
      have HLXd := hidOf (HLX9.out.below (Below.drew (Below.refl _ _)))
      clear HLX9
      generalize hW0 : w9.drew = W0 at *
      clear hW0
      refine takeList (i := 0) rfl (by kernel_rfl) (by kernel_rfl) (by kernel_rfl) (fun _ _ _ _ h => h) rfl rfl hC (fun K hK => ?_)
      go_big_quiet_op
      refine hK _ ?_
      clear hK K
      refine takeList (i := 1) rfl (by kernel_rfl) (by kernel_rfl) (by kernel_rfl) (fun _ _ _ _ h => h) rfl rfl hC (fun K hK => ?_)
      go_big_quiet_op
      refine hK _ ?_
      clear hK K
      refine takeVal (i := 2) (.bool true) rfl (by kernel_rfl) (by kernel_rfl) (by kernel_rfl) (fun _ _ _ _ h => h) rfl hC (fun w' _ => by go_simp; try simp) ?_
      go_simp
      refine takeList (i := 3) rfl (by kernel_rfl) (by kernel_rfl) (by kernel_rfl) (fun _ _ _ _ h => h) rfl rfl hC (fun K hK => ?_)
      go_big_quiet_op
      refine hK _ ?_
      clear hK K
      refine takeList (i := 4) rfl (by kernel_rfl) (by kernel_rfl) (by kernel_rfl) (fun _ _ _ _ h => h) rfl rfl hC (fun K hK => ?_)
      go_big_quiet_op
      refine hK _ ?_
      clear hK K
      refine takeList (i := 5) rfl (by kernel_rfl) (by kernel_rfl) (by kernel_rfl) (fun _ _ _ _ h => h) rfl rfl hC (fun K hK => ?_)
      go_big_quiet_op
      refine hK _ ?_
      clear hK K
      refine takeVal (i := 6) (.int .i64 (k : Nat)) rfl (by kernel_rfl) (by kernel_rfl) (by kernel_rfl) (fun _ _ _ _ h => h) rfl hC (fun w' _ => by go_simp) ?_
      go_simp
      refine takeVal (i := 7) (.bool true) rfl (by kernel_rfl) (by kernel_rfl) (by kernel_rfl) (fun _ _ _ _ h => h) rfl hC (fun w' _ => by go_simp; try simp; try omega) ?_
      go_simp
      refine takeList (i := 8) rfl (by kernel_rfl) (by kernel_rfl) (by kernel_rfl) (fun _ _ _ _ h => h) rfl rfl hC (fun K hK => ?_)
      go_big_quiet_op
      refine hK _ ?_
      clear hK K
      refine takeList (i := 9) rfl (by kernel_rfl) (by kernel_rfl) (by kernel_rfl) (fun _ _ _ _ h => h) rfl rfl hC (fun K hK => ?_)
      go_big_quiet_op
      refine hK _ ?_
      clear hK K
      refine takeList (i := 10) rfl (by kernel_rfl) (by kernel_rfl) (by kernel_rfl) (fun _ _ _ _ h => h) rfl rfl hC (fun K hK => ?_)
      go_big_quiet_op
      refine hK _ ?_
      clear hK K
      refine takeList (i := 12) rfl (by kernel_rfl) (by kernel_rfl) (by kernel_rfl) (fun _ _ _ _ h => h) rfl rfl hC (fun K hK => ?_)
      go_big_quiet_op
      refine hK _ ?_
      clear hK K
      refine takeList (i := 13) rfl (by kernel_rfl) (by kernel_rfl) (by kernel_rfl) (fun _ _ _ _ h => h) rfl rfl hC (fun K hK => ?_)
      go_big_quiet_op
      refine hK _ ?_
      clear hK K
      refine takeVal (i := 14) (.slice p k cap) rfl (by kernel_rfl) (by kernel_rfl) (by kernel_rfl) (fun _ _ _ _ h => h) rfl hC (fun w' _ => by go_simp; try (intro h; omega)) ?_
      go_simp
      refine callList (i := 11) rfl (by kernel_rfl) rfl (fun K hK => ?_)
      go_simp
      refine (lx_all w _ d g8 pn _ 0 [] _ _ _ _ 1 rm _ HLXd.out (by rw [List.length_take]; omega)).mono ?_
      rintro e w10 ⟨⟨zp, zc, rfl, hzc, hrs10⟩, hb10⟩
      rw [HRL.out] at hrs10 ⊢
      have HLXe := hidOf (HLXd.out.below hb10)
      have HRS := hidOf hrs10.now
      clear hrs10 hb10 HLXd
      refine hK.out _ _ trivial ?_
      try go_simp
      clear hK K
      have HSM := hidOf (same_any (.slice zp k zc) (.slice p k cap) ((ps.map Part.l).take k) ((ps.map Part.l).take k) w10 HRS.out ((Rows.pre HP.out HA.out (by have := HM.out; omega) HCM.out.2 k k (by have := HM.out; omega) rfl).below HLXe.out.bel))
      refine callList (i := 15) rfl (by kernel_rfl) rfl (fun K hK => ?_)
      go_simp
      refine HSM.out.mono ?_
      rintro e w11 ⟨he, hb11⟩
      rw [decide_eq_true rfl] at he
      subst he
      have HLXf := hidOf (HLXe.out.below hb11)
      clear hb11 HLXe HRS HSM
      refine hK.out _ _ trivial ?_
      try go_simp
      clear hK K
      refine takeList (i := 16) rfl (by kernel_rfl) (by kernel_rfl) (by kernel_rfl) (fun _ _ _ _ h => h) rfl rfl hC (fun K hK => ?_)
      go_big_quiet_op
      refine hK _ ?_
      clear hK K
      refine takeList (i := 17) rfl (by kernel_rfl) (by kernel_rfl) (by kernel_rfl) (fun _ _ _ _ h => h) rfl rfl hC (fun K hK => ?_)
      go_big_quiet_op
      refine hK _ ?_
      clear hK K
      refine wpAnyH_done (by kernel_rfl) ?_ _
      go_wp2
      go_ret
      exact ⟨rfl, HLXf.out.bel⟩
end Go.Proofs.YtnhplbdbgiimkaaGreatDoor
