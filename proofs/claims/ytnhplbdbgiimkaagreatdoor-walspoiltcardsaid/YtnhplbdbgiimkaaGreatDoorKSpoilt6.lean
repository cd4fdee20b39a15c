/-
  WalSpoilt: a safe byte that is spoilt is told.
-/
import Derived.Test.YtnhplbdbgiimkaaGreatDoorWX3
namespace Go.Proofs.YtnhplbdbgiimkaaGreatDoor
open Go.RowKit Go.Lib
set_option linter.unusedVariables false

theorem wf_u8 {m : Int} (h : (Lit.int .u8 m).wf = true) : ∃ v : UInt8, m = (v.toNat : Nat) := by
  obtain ⟨h1, h2⟩ := byte_of_wf h
  exact ⟨UInt8.ofNat m.toNat, by rw [UInt8.toNat_ofNat']; omega⟩
theorem blk_turn {w w' : World} {T : Nat → Prop} {b o : Nat} {x : Value} (h : w.cell? ⟨b, o, none⟩ = some x) (ht : Turn w w' T) (hn : ¬ T b) : w'.cell? ⟨b, o, none⟩ = some x := by
  have h1 : b < w.heap.size := World.block_lt_of_cell? _ _ h
  unfold World.cell? at h ⊢
  rw [ht.block b h1 hn]
  exact h
theorem tmod_nat (a n : Nat) : (a : Int).tmod (n : Int) = ((a % n : Nat) : Int) := by
  rw [Int.tmod_eq_emod_of_nonneg (by omega)]; omega
set_option maxRecDepth 100000 in
set_option maxHeartbeats 16000000 in
theorem spoilt_any (part : Int) (wp0 : (Lit.int .i64 part).wf = true) (p : Option Addr) (ps : List Part) (cap : Nat) (p2 : Option Addr) (l2 : List UInt8) (cap2 : Nat) (fl : Int) (wf0 : (Lit.int .i64 fl).wf = true) (at0 : Int) (wa0 : (Lit.int .i64 at0).wf = true) (by0 : Int) (wb0 : (Lit.int .u8 by0).wf = true) (w : World) (hT : Tabs w) (hP : PAt w p ps) (hA : ∀ x ∈ ps, x.ok w) (hcap : ps.length ≤ cap) (hcm : cap ≤ maxLen) (hB : (Part.mk p2 l2 cap2).ok w) :
    Calls Tryz.prog 5 #[.int .i64 part, .slice p ps.length cap, .slice p2 l2.length cap2, .int .i64 fl, .int .i64 at0, .int .u8 by0] w fun e w' => e = .returned (.bool true) ∧ Below w.heap.size w w' := by
  obtain ⟨v, rfl⟩ := wf_u8 wb0
  have HT : Hid (Tabs w) := hT
  have HP : Hid (PAt w p ps) := hP
  have HA : Hid (∀ x ∈ ps, x.ok w) := hA
  have HB : Hid ((Part.mk p2 l2 cap2).ok w) := hB
  have HCM : Hid (ps.length ≤ cap ∧ cap ≤ maxLen) := ⟨hcap, hcm⟩
  have HFW := hidOf (wf_i64 wf0)
  have HAW := hidOf (wf_i64 wa0)
  have hcm' : cap ≤ 9223372036854775807 := Nat.le_trans hcm (by decide)
  have hl2 : l2.length ≤ 9223372036854775807 := Nat.le_trans hB.1 (by decide)
  obtain ⟨m, hm⟩ : ∃ m, m = ps.length := ⟨_, rfl⟩
  have HM : Hid (m = ps.length) := hm
  rw [← hm] at hcap ⊢
  clear hT hP hA hcm hm wp0 wf0 wa0 wb0 hB
  go_enter Tryz.func5, Tryz.ntmps5
  go_wp2_with fail
  refine (awake6_any w HT.out).mono ?_
  rintro e w1 ⟨rfl, h1⟩
  have H1 := hidOf h1
  clear h1
  by_cases g1 : part < 1
  · go_wp2
    go_ret
    exact ⟨rfl, H1.out⟩
  by_cases g2 : 1000 < part
  · go_wp2
    go_ret
    exact ⟨rfl, H1.out⟩
  by_cases g3 : (12 : Int) < (m : Int)
  · go_wp2
    go_ret
    exact ⟨rfl, H1.out⟩
  by_cases g4 : (200 : Int) < (l2.length : Int)
  · go_wp2
    go_ret
    exact ⟨rfl, H1.out⟩
  by_cases g5 : fl < 0
  · go_wp2
    go_ret
    exact ⟨rfl, H1.out⟩
  by_cases g6 : at0 < 0
  · go_wp2
    go_ret
    exact ⟨rfl, H1.out⟩
  obtain ⟨pn, rfl⟩ : ∃ pn : Nat, part = pn := ⟨part.toNat, by omega⟩
  obtain ⟨fn, rfl⟩ : ∃ fn : Nat, fl = fn := ⟨fl.toNat, by omega⟩
  obtain ⟨an, rfl⟩ : ∃ an : Nat, at0 = an := ⟨at0.toNat, by omega⟩
  have HPN : Hid (1 ≤ pn ∧ pn ≤ 1000) := ⟨by omega, by omega⟩
  have hfn9 : (fn : Int) ≤ 9223372036854775807 := HFW.out.2
  have han9 : (an : Int) ≤ 9223372036854775807 := HAW.out.2
  have hm12 : m ≤ 12 := by omega
  go_wp2_with fail
  refine (lx_new w w1 262144 H1.out (by decide)).mono ?_
  rintro e w2 ⟨⟨d, S2, rfl, hd2, -⟩, -⟩
  have HD2 := hidOf hd2
  clear hd2 H1
  go_wp2_with fail
  refine (lx_open w w2 d S2 0 [] [] 0 0 1 262144 pn True HD2.out HT.out (by omega) HPN.out (by simp)).mono ?_
  rintro e w3 ⟨⟨gl, rfl, hlx3, -⟩, -⟩
  have HX3 := hidOf (show LX w w3 d gl pn _ 0 [] [] 0 0 0 1 262144 True from hlx3)
  clear hlx3 HD2
  by_cases hl0 : l2.length = 0
  · have hlz : ¬ ((0 : Int) < (l2.length : Int)) := by omega
    have HL0 := hidOf hl0
    clear hl0
    go_wp2_with fail
    go_loopw [17] (fun s17 wr => ∃ (k : Nat) (S : Nat → Prop) (kk : Nat), s17 = .int .i64 k ∧ k ≤ m ∧ Hid (LX w wr d gl pn S 0 [] ((ps.map Part.l).take k) (0 + k) (0 + 2 * k) kk 1 262144 True)) (fun s17 _ => m - (intOf s17).toNat)
    case atStart => exact ⟨0, _, 0, rfl, Nat.zero_le _, HX3⟩
    case round =>
      obtain ⟨k, S, kk, rfl, hkm, HX⟩ := hrel
      by_cases hlt : k < m
      · obtain ⟨b, o, rfl, hc⟩ := HP.out (by have := HM.out; omega)
        obtain ⟨x, hx⟩ : ∃ x, ps[k]? = some x := ⟨_, List.getElem?_eq_getElem (by have := HM.out; omega)⟩
        have hck := args_cell (hc k x hx) HX.out.bel
        have HXK : Hid (x.ok w) := HA.out x (List.mem_of_getElem? hx)
        have HTK : Hid ((ps.map Part.l).take (k + 1) = (ps.map Part.l).take k ++ [x.l]) := map_take_succ hx
        have hxl : x.l.length ≤ 9223372036854775807 := Nat.le_trans HXK.out.1 (by decide)
        simp only [Part.v] at hck
        clear hc hx
        have hkz : (k : Int) < (m : Int) := by omega
        by_cases hbig : (200 : Int) < x.l.length
        · go_wp2
          go_ret
          exact ⟨rfl, HX.out.bel⟩
        go_wp2_with fail
        have HAD := hidOf (lx_add w _ d gl pn S 0 [] _ _ _ kk 1 262144 True _ [x] 1 (HX.out.below (below_new wr (.cells #[x.v] 31))) HT.out (one_stay 31 _ HXK.out HX.out.bel HX.out.new HX.out.lt) (fun y hy => by obtain rfl := List.mem_singleton.1 hy; omega) (by simp only [List.length_singleton]; omega) (by simp only [List.length_singleton]; omega) (by simp only [List.length_singleton]; omega) (by simp only [List.length_singleton, List.length_take]; omega) (Nat.le_refl _) (by decide))
        refine HAD.out.mono ?_
        clear HAD
        rintro e w6 ⟨rfl, hx6, -⟩
        have HX6 : Hid (LX w w6 d gl pn (Ext (wr.alloc (.cells #[x.v] 31)) w6 S) 0 [] ((ps.map Part.l).take (k + 1)) (0 + k + 1) (0 + 2 * k + 1 + 1) kk 1 262144 True) := by rw [HTK.out]; exact hx6
        clear hx6 HX
        go_wp2
        go_roundw
        case rel => exact ⟨k + 1, _, kk, by go_num, by omega, HX6⟩
        case measure => simp [intOf]; omega
      · obtain rfl : k = m := by omega
        go_wp2_with fail
        refine (lx_sync w _ d gl pn _ 0 [] _ _ _ _ 1 262144 True HX.out (by omega)).mono ?_
        rintro e w6 ⟨rfl, hx6, -⟩
        obtain ⟨T, s, G, hsx⟩ := hx6.sx (by omega)
        have HSX := hidOf hsx
        clear hx6 hsx HX
        have HFI := hidOf (sx_files w w6 d T s 0 G HSX.out)
        obtain ⟨F, hF⟩ : ∃ F, F = C.fs s := ⟨_, rfl⟩
        rw [← hF] at HFI
        have HF := hidOf hF
        clear hF
        go_wp2_with fail
        refine HFI.out.mono ?_
        clear HFI
        rintro e w7 ⟨⟨fp, fc, rfl, hge, hcell⟩, hb7⟩
        have HLT6 : Hid (∀ b, T b → b < w6.heap.size) := fun b hb => HSX.out.disk.lt hb
        have HSX7 := hidOf (HSX.out.below hb7)
        have HCE := hidOf hcell
        clear hcell hb7 HSX
        obtain ⟨n, hn⟩ : ∃ n, n = F.length := ⟨_, rfl⟩
        rw [← hn]
        have HN := hidOf hn
        have hn9 : n ≤ 1000 := by
          rw [hn, HF.out]
          exact Nat.le_trans (List.length_filter_le _ _) (by simp)
        clear hn
        by_cases hn0 : n = 0
        · subst hn0
          go_wp2
          go_ret
          exact ⟨rfl, HSX7.out.bel⟩
        have hnb : ((n : Int) == 0) = false := by rw [beq_eq_false_iff_ne]; omega
        have hrm := tmod_nat fn n
        obtain ⟨i, hi⟩ : ∃ i, i = fn % n := ⟨_, rfl⟩
        rw [← hi] at hrm
        have hin : i < n := by rw [hi]; exact Nat.mod_lt _ (by omega)
        clear hi
        have hinz : (i : Int) < (n : Int) := by omega
        obtain ⟨f, hf⟩ : ∃ f, F[i]? = some f := ⟨_, List.getElem?_eq_getElem (by have := HN.out; omega)⟩
        have HFF := hidOf hf
        obtain ⟨b, o, rfl, hc7⟩ := HCE.out w7 (Below.refl _ _) i f hf
        have HCF : Hid (∀ W, Below w7.heap.size w7 W → W.cell? ⟨b, o + i, none⟩ = some (.int .i64 (f : Nat))) := fun W hW => by
          obtain ⟨b', o', e, h⟩ := HCE.out W hW i f HFF.out
          cases e
          exact h
        have HNT : Hid (¬ T b) := fun hb => by
          have h1 := HLT6.out b hb
          have h2 := hge _ rfl
          simp only at h2
          omega
        clear hf HCE hge HLT6
        go_wp2_with fail
        refine (sx_read w w7 d T s 0 G HSX7.out (by rw [← HF.out]; exact HFF.out)).mono ?_
        rintro e w8 ⟨⟨bp, bc, rfl, hbl⟩, hb8⟩
        have HSX8 := hidOf (HSX7.out.below hb8)
        have hc8 := HCF.out w8 hb8
        obtain ⟨ln, hln⟩ : ∃ ln, ln = (C.dat s.ws f).length := ⟨_, rfl⟩
        rw [← hln] at hbl ⊢
        have HLN := hidOf hln
        clear hln hb8 hc7 HCF HSX7
        go_wp2_with fail
        have HC8 := hidOf hc8
        have d0 : ∀ t : HW (fun v => v.cell? ⟨b, o + i, none⟩ = some (.int .i64 (f : Nat))), t.v.cell? ⟨b, o + i, none⟩ = some (.int .i64 (f : Nat)) := fun t => t.h
        by_cases hln0 : ln = 0
        · have hlb : ((ln : Int) == 0) = true := by rw [hln0]; rfl
          have HL := hidOf hln0
          clear hln0
          have hne : Nonempty (HW (fun v => v.cell? ⟨b, o + i, none⟩ = some (.int .i64 (f : Nat)))) := ⟨⟨w8, hc8⟩⟩
          have hC : ∃ t : HW (fun v => v.cell? ⟨b, o + i, none⟩ = some (.int .i64 (f : Nat))), w8.drew = t.v := ⟨⟨w8.drew, hc8⟩, rfl⟩
          refine wp_region_held_drew (S := fun w' => ∃ t : HW (fun v => v.cell? ⟨b, o + i, none⟩ = some (.int .i64 (f : Nat))), w' = t.v) (by kernel_rfl) hC (fun _ => ?_)
          clear hc8
          refine takeList (i := 0) rfl (by kernel_rfl) (by kernel_rfl) (by kernel_rfl) (fun _ _ _ _ h => h) rfl rfl hC (fun K hK => ?_)
          go_big_quiet_op
          refine hK _ ?_
          clear hK K
          refine takeVal (i := 1) (.int .i64 (ln : Nat)) rfl (by kernel_rfl) (by kernel_rfl) (by kernel_rfl) (fun _ _ _ _ h => h) rfl hC (fun w' _ => by go_simp) ?_
          go_simp
          refine takeVal (i := 2) (.bool true) rfl (by kernel_rfl) (by kernel_rfl) (by kernel_rfl) (fun _ _ _ _ h => h) rfl hC (fun w' _ => by go_simp; try simp) ?_
          go_simp
          refine takeList (i := 3) rfl (by kernel_rfl) (by kernel_rfl) (by kernel_rfl) (fun _ _ _ _ h => h) rfl rfl hC (fun K hK => ?_)
          go_big_quiet_op
          refine hK _ ?_
          clear hK K
          refine takeSkip (i := 4) rfl (by kernel_rfl) (by kernel_rfl) (by kernel_rfl) (fun _ _ _ _ h => h) rfl hC ?_
          go_simp
          refine takeSkip (i := 5) rfl (by kernel_rfl) (by kernel_rfl) (by kernel_rfl) (fun _ _ _ _ h => h) rfl hC ?_
          go_simp
          refine takeSkip (i := 6) rfl (by kernel_rfl) (by kernel_rfl) (by kernel_rfl) (fun _ _ _ _ h => h) rfl hC ?_
          go_simp
          refine takeSkip (i := 7) rfl (by kernel_rfl) (by kernel_rfl) (by kernel_rfl) (fun _ _ _ _ h => h) rfl hC ?_
          go_simp
          refine takeSkip (i := 8) rfl (by kernel_rfl) (by kernel_rfl) (by kernel_rfl) (fun _ _ _ _ h => h) rfl hC ?_
          go_simp
          refine takeSkip (i := 9) rfl (by kernel_rfl) (by kernel_rfl) (by kernel_rfl) (fun _ _ _ _ h => h) rfl hC ?_
          go_simp
          refine takeSkip (i := 10) rfl (by kernel_rfl) (by kernel_rfl) (by kernel_rfl) (fun _ _ _ _ h => h) rfl hC ?_
          go_simp
          refine takeSkip (i := 11) rfl (by kernel_rfl) (by kernel_rfl) (by kernel_rfl) (fun _ _ _ _ h => h) rfl hC ?_
          go_simp
          refine takeSkip (i := 12) rfl (by kernel_rfl) (by kernel_rfl) (by kernel_rfl) (fun _ _ _ _ h => h) rfl hC ?_
          go_simp
          refine takeSkip (i := 13) rfl (by kernel_rfl) (by kernel_rfl) (by kernel_rfl) (fun _ _ _ _ h => h) rfl hC ?_
          go_simp
          refine takeSkip (i := 14) rfl (by kernel_rfl) (by kernel_rfl) (by kernel_rfl) (fun _ _ _ _ h => h) rfl hC ?_
          go_simp
          refine takeSkip (i := 15) rfl (by kernel_rfl) (by kernel_rfl) (by kernel_rfl) (fun _ _ _ _ h => h) rfl hC ?_
          go_simp
          refine takeSkip (i := 16) rfl (by kernel_rfl) (by kernel_rfl) (by kernel_rfl) (fun _ _ _ _ h => h) rfl hC ?_
          go_simp
          refine takeSkip (i := 17) rfl (by kernel_rfl) (by kernel_rfl) (by kernel_rfl) (fun _ _ _ _ h => h) rfl hC ?_
          go_simp
          refine takeSkip (i := 18) rfl (by kernel_rfl) (by kernel_rfl) (by kernel_rfl) (fun _ _ _ _ h => h) rfl hC ?_
          go_simp
          refine takeList (i := 19) rfl (by kernel_rfl) (by kernel_rfl) (by kernel_rfl) (fun _ _ _ _ h => h) rfl rfl hC (fun K hK => ?_)
          go_big_quiet_op
          refine hK _ ?_
          clear hK K
          refine wpAnyH_done (by kernel_rfl) ?_ _
          clear d0 hne hC
          go_wp2
          go_ret
          exact ⟨rfl, HSX8.out.bel.drew⟩
        have hlb : ((ln : Int) == 0) = false := by rw [beq_eq_false_iff_ne]; omega
        have hrn := tmod_nat an ln
        obtain ⟨j, hj⟩ : ∃ j, j = an % ln := ⟨_, rfl⟩
        rw [← hj] at hrn
        have HJ : Hid (j < (C.dat s.ws f).length) := by
          show _ < _
          rw [← HLN.out, hj]; exact Nat.mod_lt _ (by omega)
        clear hj
        by_cases hv : v.toNat = 0
        · have HV := hidOf hv
          clear hv
          have hne : Nonempty (HW (fun v => v.cell? ⟨b, o + i, none⟩ = some (.int .i64 (f : Nat)))) := ⟨⟨w8, hc8⟩⟩
          have hC : ∃ t : HW (fun v => v.cell? ⟨b, o + i, none⟩ = some (.int .i64 (f : Nat))), w8.drew = t.v := ⟨⟨w8.drew, hc8⟩, rfl⟩
          refine wp_region_held_drew (S := fun w' => ∃ t : HW (fun v => v.cell? ⟨b, o + i, none⟩ = some (.int .i64 (f : Nat))), w' = t.v) (by kernel_rfl) hC (fun _ => ?_)
          have HSXd := hidOf (HSX8.out.below (Below.drew (Below.refl _ _)))
          have HCd : Hid (w8.drew.cell? ⟨b, o + i, none⟩ = some (.int .i64 (f : Nat))) := HC8.out
          clear hc8 HSX8
          generalize hW0 : w8.drew = W0 at *
          clear hW0
          refine takeList (i := 0) rfl (by kernel_rfl) (by kernel_rfl) (by kernel_rfl) (fun _ _ _ _ h => h) rfl rfl hC (fun K hK => ?_)
          go_big_quiet_op
          refine hK _ ?_
          clear hK K
          refine takeVal (i := 1) (.int .i64 (ln : Nat)) rfl (by kernel_rfl) (by kernel_rfl) (by kernel_rfl) (fun _ _ _ _ h => h) rfl hC (fun w' _ => by go_simp) ?_
          go_simp
          refine takeVal (i := 2) (.bool false) rfl (by kernel_rfl) (by kernel_rfl) (by kernel_rfl) (fun _ _ _ _ h => h) rfl hC (fun w' _ => by go_simp; try simp) ?_
          go_simp
          refine takeList (i := 3) rfl (by kernel_rfl) (by kernel_rfl) (by kernel_rfl) (fun _ _ _ _ h => h) rfl rfl hC (fun K hK => ?_)
          go_big_quiet_op
          refine hK _ ?_
          clear hK K
          refine takeList (i := 4) rfl (by kernel_rfl) (by kernel_rfl) (by kernel_rfl) (fun _ _ _ _ h => h) rfl rfl hC (fun K hK => ?_)
          go_big_quiet_op
          refine hK _ ?_
          clear hK K
          refine takeList (i := 5) rfl (by kernel_rfl) (by kernel_rfl) (by kernel_rfl) (fun _ _ _ _ h => h) rfl rfl hC (fun K hK => ?_)
          go_big_quiet_op
          refine hK _ ?_
          clear hK K
          refine takeList (i := 6) rfl (by kernel_rfl) (by kernel_rfl) (by kernel_rfl) (fun _ _ _ _ h => h) rfl rfl hC (fun K hK => ?_)
          go_big_quiet_op
          refine hK _ ?_
          clear hK K
          refine takeList (i := 7) rfl (by kernel_rfl) (by kernel_rfl) (by kernel_rfl) (fun _ _ _ _ h => h) rfl rfl hC (fun K hK => ?_)
          go_big_quiet_op
          refine hK _ ?_
          clear hK K
          refine takeVal (i := 8) (.int .i64 (n : Nat)) rfl (by kernel_rfl) (by kernel_rfl) (by kernel_rfl) (fun _ _ _ _ h => h) rfl hC (fun w' _ => by go_simp) ?_
          go_simp
          refine takeVal (i := 9) (.int .i64 (i : Nat)) rfl (by kernel_rfl) (by kernel_rfl) (by kernel_rfl) (fun _ _ _ _ h => h) rfl hC (fun w' _ => by go_simp) ?_
          go_simp
          refine takeVal (i := 10) (.pointer (some ⟨b, o + i, none⟩)) rfl (by kernel_rfl) (by kernel_rfl) (by kernel_rfl) (fun _ _ _ _ h => h) rfl hC (fun w' _ => by go_simp) ?_
          go_simp
          refine takeList (i := 11) rfl (by kernel_rfl) (by kernel_rfl) (by kernel_rfl) (fun _ _ _ _ h => h) rfl rfl hC (fun K hK => ?_)
          go_big_quiet_op
          refine hK _ ?_
          clear hK K
          refine takeList (i := 12) rfl (by kernel_rfl) (by kernel_rfl) (by kernel_rfl) (fun _ _ _ _ h => h) rfl rfl hC (fun K hK => ?_)
          go_big_quiet_op
          refine hK _ ?_
          clear hK K
          refine takeList (i := 13) rfl (by kernel_rfl) (by kernel_rfl) (by kernel_rfl) (fun _ _ _ _ h => h) rfl rfl hC (fun K hK => ?_)
          go_big_quiet_op
          refine hK _ ?_
          clear hK K
          refine takeVal (i := 14) (.int .i64 (ln : Nat)) rfl (by kernel_rfl) (by kernel_rfl) (by kernel_rfl) (fun _ _ _ _ h => h) rfl hC (fun w' _ => by go_simp) ?_
          go_simp
          refine takeVal (i := 15) (.int .i64 (j : Nat)) rfl (by kernel_rfl) (by kernel_rfl) (by kernel_rfl) (fun _ _ _ _ h => h) rfl hC (fun w' _ => by go_simp) ?_
          go_simp
          refine takeList (i := 16) rfl (by kernel_rfl) (by kernel_rfl) (by kernel_rfl) (fun _ _ _ _ h => h) rfl rfl hC (fun K hK => ?_)
          go_big_quiet_op
          refine hK _ ?_
          clear hK K
          refine callList (i := 17) rfl (by kernel_rfl) rfl (fun K hK => ?_)
          go_simp
          refine (sx_no w W0 d T s 0 G HSXd.out f j HV.out).mono ?_
          rintro e w9 ⟨rfl, rfl⟩
          refine hK.out _ _ hC ?_
          try go_simp
          clear hK K
          refine takeList (i := 18) rfl (by kernel_rfl) (by kernel_rfl) (by kernel_rfl) (fun _ _ _ _ h => h) rfl rfl hC (fun K hK => ?_)
          go_big_quiet_op
          refine hK _ ?_
          clear hK K
          refine takeList (i := 19) rfl (by kernel_rfl) (by kernel_rfl) (by kernel_rfl) (fun _ _ _ _ h => h) rfl rfl hC (fun K hK => ?_)
          go_big_quiet_op
          refine hK _ ?_
          clear hK K
          refine wpAnyH_done (by kernel_rfl) ?_ _
          clear d0 hne hC
          go_wp2
          go_ret
          exact ⟨rfl, HSXd.out.bel⟩
        · have HV := hidOf hv
          clear hv
          have hne : Nonempty (HW (fun v => v.cell? ⟨b, o + i, none⟩ = some (.int .i64 (f : Nat)))) := ⟨⟨w8, hc8⟩⟩
          have hC : ∃ t : HW (fun v => v.cell? ⟨b, o + i, none⟩ = some (.int .i64 (f : Nat))), w8.drew = t.v := ⟨⟨w8.drew, hc8⟩, rfl⟩
          refine wp_region_held_drew (S := fun w' => ∃ t : HW (fun v => v.cell? ⟨b, o + i, none⟩ = some (.int .i64 (f : Nat))), w' = t.v) (by kernel_rfl) hC (fun _ => ?_)
          have HSXd := hidOf (HSX8.out.below (Below.drew (Below.refl _ _)))
          have HCd : Hid (w8.drew.cell? ⟨b, o + i, none⟩ = some (.int .i64 (f : Nat))) := HC8.out
          clear hc8 HSX8
          generalize hW0 : w8.drew = W0 at *
          clear hW0
          refine takeList (i := 0) rfl (by kernel_rfl) (by kernel_rfl) (by kernel_rfl) (fun _ _ _ _ h => h) rfl rfl hC (fun K hK => ?_)
          go_big_quiet_op
          refine hK _ ?_
          clear hK K
          refine takeVal (i := 1) (.int .i64 (ln : Nat)) rfl (by kernel_rfl) (by kernel_rfl) (by kernel_rfl) (fun _ _ _ _ h => h) rfl hC (fun w' _ => by go_simp) ?_
          go_simp
          refine takeVal (i := 2) (.bool false) rfl (by kernel_rfl) (by kernel_rfl) (by kernel_rfl) (fun _ _ _ _ h => h) rfl hC (fun w' _ => by go_simp; try simp) ?_
          go_simp
          refine takeList (i := 3) rfl (by kernel_rfl) (by kernel_rfl) (by kernel_rfl) (fun _ _ _ _ h => h) rfl rfl hC (fun K hK => ?_)
          go_big_quiet_op
          refine hK _ ?_
          clear hK K
          refine takeList (i := 4) rfl (by kernel_rfl) (by kernel_rfl) (by kernel_rfl) (fun _ _ _ _ h => h) rfl rfl hC (fun K hK => ?_)
          go_big_quiet_op
          refine hK _ ?_
          clear hK K
          refine takeList (i := 5) rfl (by kernel_rfl) (by kernel_rfl) (by kernel_rfl) (fun _ _ _ _ h => h) rfl rfl hC (fun K hK => ?_)
          go_big_quiet_op
          refine hK _ ?_
          clear hK K
          refine takeList (i := 6) rfl (by kernel_rfl) (by kernel_rfl) (by kernel_rfl) (fun _ _ _ _ h => h) rfl rfl hC (fun K hK => ?_)
          go_big_quiet_op
          refine hK _ ?_
          clear hK K
          refine takeList (i := 7) rfl (by kernel_rfl) (by kernel_rfl) (by kernel_rfl) (fun _ _ _ _ h => h) rfl rfl hC (fun K hK => ?_)
          go_big_quiet_op
          refine hK _ ?_
          clear hK K
          refine takeVal (i := 8) (.int .i64 (n : Nat)) rfl (by kernel_rfl) (by kernel_rfl) (by kernel_rfl) (fun _ _ _ _ h => h) rfl hC (fun w' _ => by go_simp) ?_
          go_simp
          refine takeVal (i := 9) (.int .i64 (i : Nat)) rfl (by kernel_rfl) (by kernel_rfl) (by kernel_rfl) (fun _ _ _ _ h => h) rfl hC (fun w' _ => by go_simp) ?_
          go_simp
          refine takeVal (i := 10) (.pointer (some ⟨b, o + i, none⟩)) rfl (by kernel_rfl) (by kernel_rfl) (by kernel_rfl) (fun _ _ _ _ h => h) rfl hC (fun w' _ => by go_simp) ?_
          go_simp
          refine takeList (i := 11) rfl (by kernel_rfl) (by kernel_rfl) (by kernel_rfl) (fun _ _ _ _ h => h) rfl rfl hC (fun K hK => ?_)
          go_big_quiet_op
          refine hK _ ?_
          clear hK K
          refine takeList (i := 12) rfl (by kernel_rfl) (by kernel_rfl) (by kernel_rfl) (fun _ _ _ _ h => h) rfl rfl hC (fun K hK => ?_)
          go_big_quiet_op
          refine hK _ ?_
          clear hK K
          refine takeList (i := 13) rfl (by kernel_rfl) (by kernel_rfl) (by kernel_rfl) (fun _ _ _ _ h => h) rfl rfl hC (fun K hK => ?_)
          go_big_quiet_op
          refine hK _ ?_
          clear hK K
          refine takeVal (i := 14) (.int .i64 (ln : Nat)) rfl (by kernel_rfl) (by kernel_rfl) (by kernel_rfl) (fun _ _ _ _ h => h) rfl hC (fun w' _ => by go_simp) ?_
          go_simp
          refine takeVal (i := 15) (.int .i64 (j : Nat)) rfl (by kernel_rfl) (by kernel_rfl) (by kernel_rfl) (fun _ _ _ _ h => h) rfl hC (fun w' _ => by go_simp) ?_
          go_simp
          refine takeList (i := 16) rfl (by kernel_rfl) (by kernel_rfl) (by kernel_rfl) (fun _ _ _ _ h => h) rfl rfl hC (fun K hK => ?_)
          go_big_quiet_op
          refine hK _ ?_
          clear hK K
          refine callList (i := 17) rfl (by kernel_rfl) rfl (fun K hK => ?_)
          go_simp
          refine (sx_spoil w W0 d T s 0 G HSXd.out (by rw [← HF.out]; exact HFF.out) HJ.out HV.out).mono ?_
          rintro e w9 ⟨rfl, ht9, hb9, hop⟩
          have hc9 : w9.cell? ⟨b, o + i, none⟩ = some (.int .i64 (f : Nat)) := (blk_turn HCd.out ht9 HNT.out)
          have HOP := hidOf (hop pn HPN.out HT.out)
          have HC9 := hidOf hc9
          have HB9 := hidOf hb9
          clear hop ht9 hc9 hb9
          refine hK.out _ _ ⟨⟨_, HC9.out⟩, rfl⟩ ?_
          try go_simp
          clear hK K hC
          have hC : ∃ t : HW (fun v => v.cell? ⟨b, o + i, none⟩ = some (.int .i64 (f : Nat))), w9 = t.v := ⟨⟨_, HC9.out⟩, rfl⟩
          refine takeList (i := 18) rfl (by kernel_rfl) (by kernel_rfl) (by kernel_rfl) (fun _ _ _ _ h => h) rfl rfl hC (fun K hK => ?_)
          go_big_quiet_op
          refine hK _ ?_
          clear hK K
          refine takeList (i := 19) rfl (by kernel_rfl) (by kernel_rfl) (by kernel_rfl) (fun _ _ _ _ h => h) rfl rfl hC (fun K hK => ?_)
          go_big_quiet_op
          refine hK _ ?_
          clear hK K
          refine wpAnyH_done (by kernel_rfl) ?_ _
          clear d0 hne hC
          go_wp2_with fail
          refine HOP.out.mono ?_
          rintro e w10 ⟨rfl, hb10⟩
          have HB10 := hidOf hb10
          clear hb10 HOP
          go_wp2
          go_ret
          exact ⟨rfl, HB10.out⟩
  · have hlz : (0 : Int) < (l2.length : Int) := by omega
    have HL0 := hidOf hl0
    clear hl0
    go_wp2_with fail
    refine (lx_keep w _ d gl pn _ 0 [] _ _ _ _ 1 262144 True p2 l2 cap2 HX3.out HT.out (Stay1.of HB.out HX3.out.bel HX3.out.new) (by omega) (by omega) (by omega) (by omega) (by omega)).mono ?_
    rintro e w5 ⟨rfl, hx5, -⟩
    have HX5 := hidOf (show LX w w5 d gl pn _ 1 l2 [] 1 1 0 1 262144 True from hx5)
    clear hx5 HX3
    go_wp2_with fail
    go_loopw [17] (fun s17 wr => ∃ (k : Nat) (S : Nat → Prop) (kk : Nat), s17 = .int .i64 k ∧ k ≤ m ∧ Hid (LX w wr d gl pn S 1 l2 ((ps.map Part.l).take k) (1 + k) (1 + 2 * k) kk 1 262144 True)) (fun s17 _ => m - (intOf s17).toNat)
    case atStart => exact ⟨0, _, 0, rfl, Nat.zero_le _, HX5⟩
    case round =>
      obtain ⟨k, S, kk, rfl, hkm, HX⟩ := hrel
      by_cases hlt : k < m
      · obtain ⟨b, o, rfl, hc⟩ := HP.out (by have := HM.out; omega)
        obtain ⟨x, hx⟩ : ∃ x, ps[k]? = some x := ⟨_, List.getElem?_eq_getElem (by have := HM.out; omega)⟩
        have hck := args_cell (hc k x hx) HX.out.bel
        have HXK : Hid (x.ok w) := HA.out x (List.mem_of_getElem? hx)
        have HTK : Hid ((ps.map Part.l).take (k + 1) = (ps.map Part.l).take k ++ [x.l]) := map_take_succ hx
        have hxl : x.l.length ≤ 9223372036854775807 := Nat.le_trans HXK.out.1 (by decide)
        simp only [Part.v] at hck
        clear hc hx
        have hkz : (k : Int) < (m : Int) := by omega
        by_cases hbig : (200 : Int) < x.l.length
        · go_wp2
          go_ret
          exact ⟨rfl, HX.out.bel⟩
        go_wp2_with fail
        have HAD := hidOf (lx_add w _ d gl pn S 1 l2 _ _ _ kk 1 262144 True _ [x] 1 (HX.out.below (below_new wr (.cells #[x.v] 31))) HT.out (one_stay 31 _ HXK.out HX.out.bel HX.out.new HX.out.lt) (fun y hy => by obtain rfl := List.mem_singleton.1 hy; omega) (by simp only [List.length_singleton]; omega) (by simp only [List.length_singleton]; omega) (by simp only [List.length_singleton]; omega) (by simp only [List.length_singleton, List.length_take]; omega) (Nat.le_refl _) (by decide))
        refine HAD.out.mono ?_
        clear HAD
        rintro e w6 ⟨rfl, hx6, -⟩
        have HX6 : Hid (LX w w6 d gl pn (Ext (wr.alloc (.cells #[x.v] 31)) w6 S) 1 l2 ((ps.map Part.l).take (k + 1)) (1 + k + 1) (1 + 2 * k + 1 + 1) kk 1 262144 True) := by rw [HTK.out]; exact hx6
        clear hx6 HX
        go_wp2
        go_roundw
        case rel => exact ⟨k + 1, _, kk, by go_num, by omega, HX6⟩
        case measure => simp [intOf]; omega
      · obtain rfl : k = m := by omega
        go_wp2_with fail
        refine (lx_sync w _ d gl pn _ 1 l2 _ _ _ _ 1 262144 True HX.out (by omega)).mono ?_
        rintro e w6 ⟨rfl, hx6, -⟩
        obtain ⟨T, s, G, hsx⟩ := hx6.sx (by omega)
        have HSX := hidOf hsx
        clear hx6 hsx HX
        have HFI := hidOf (sx_files w w6 d T s 1 G HSX.out)
        obtain ⟨F, hF⟩ : ∃ F, F = C.fs s := ⟨_, rfl⟩
        rw [← hF] at HFI
        have HF := hidOf hF
        clear hF
        go_wp2_with fail
        refine HFI.out.mono ?_
        clear HFI
        rintro e w7 ⟨⟨fp, fc, rfl, hge, hcell⟩, hb7⟩
        have HLT6 : Hid (∀ b, T b → b < w6.heap.size) := fun b hb => HSX.out.disk.lt hb
        have HSX7 := hidOf (HSX.out.below hb7)
        have HCE := hidOf hcell
        clear hcell hb7 HSX
        obtain ⟨n, hn⟩ : ∃ n, n = F.length := ⟨_, rfl⟩
        rw [← hn]
        have HN := hidOf hn
        have hn9 : n ≤ 1000 := by
          rw [hn, HF.out]
          exact Nat.le_trans (List.length_filter_le _ _) (by simp)
        clear hn
        by_cases hn0 : n = 0
        · subst hn0
          go_wp2
          go_ret
          exact ⟨rfl, HSX7.out.bel⟩
        have hnb : ((n : Int) == 0) = false := by rw [beq_eq_false_iff_ne]; omega
        have hrm := tmod_nat fn n
        obtain ⟨i, hi⟩ : ∃ i, i = fn % n := ⟨_, rfl⟩
        rw [← hi] at hrm
        have hin : i < n := by rw [hi]; exact Nat.mod_lt _ (by omega)
        clear hi
        have hinz : (i : Int) < (n : Int) := by omega
        obtain ⟨f, hf⟩ : ∃ f, F[i]? = some f := ⟨_, List.getElem?_eq_getElem (by have := HN.out; omega)⟩
        have HFF := hidOf hf
        obtain ⟨b, o, rfl, hc7⟩ := HCE.out w7 (Below.refl _ _) i f hf
        have HCF : Hid (∀ W, Below w7.heap.size w7 W → W.cell? ⟨b, o + i, none⟩ = some (.int .i64 (f : Nat))) := fun W hW => by
          obtain ⟨b', o', e, h⟩ := HCE.out W hW i f HFF.out
          cases e
          exact h
        have HNT : Hid (¬ T b) := fun hb => by
          have h1 := HLT6.out b hb
          have h2 := hge _ rfl
          simp only at h2
          omega
        clear hf HCE hge HLT6
        go_wp2_with fail
        refine (sx_read w w7 d T s 1 G HSX7.out (by rw [← HF.out]; exact HFF.out)).mono ?_
        rintro e w8 ⟨⟨bp, bc, rfl, hbl⟩, hb8⟩
        have HSX8 := hidOf (HSX7.out.below hb8)
        have hc8 := HCF.out w8 hb8
        obtain ⟨ln, hln⟩ : ∃ ln, ln = (C.dat s.ws f).length := ⟨_, rfl⟩
        rw [← hln] at hbl ⊢
        have HLN := hidOf hln
        clear hln hb8 hc7 HCF HSX7
        go_wp2_with fail
        have HC8 := hidOf hc8
        have d0 : ∀ t : HW (fun v => v.cell? ⟨b, o + i, none⟩ = some (.int .i64 (f : Nat))), t.v.cell? ⟨b, o + i, none⟩ = some (.int .i64 (f : Nat)) := fun t => t.h
        by_cases hln0 : ln = 0
        · have hlb : ((ln : Int) == 0) = true := by rw [hln0]; rfl
          have HL := hidOf hln0
          clear hln0
          have hne : Nonempty (HW (fun v => v.cell? ⟨b, o + i, none⟩ = some (.int .i64 (f : Nat)))) := ⟨⟨w8, hc8⟩⟩
          have hC : ∃ t : HW (fun v => v.cell? ⟨b, o + i, none⟩ = some (.int .i64 (f : Nat))), w8.drew = t.v := ⟨⟨w8.drew, hc8⟩, rfl⟩
          refine wp_region_held_drew (S := fun w' => ∃ t : HW (fun v => v.cell? ⟨b, o + i, none⟩ = some (.int .i64 (f : Nat))), w' = t.v) (by kernel_rfl) hC (fun _ => ?_)
          clear hc8
          refine takeList (i := 0) rfl (by kernel_rfl) (by kernel_rfl) (by kernel_rfl) (fun _ _ _ _ h => h) rfl rfl hC (fun K hK => ?_)
          go_big_quiet_op
          refine hK _ ?_
          clear hK K
          refine takeVal (i := 1) (.int .i64 (ln : Nat)) rfl (by kernel_rfl) (by kernel_rfl) (by kernel_rfl) (fun _ _ _ _ h => h) rfl hC (fun w' _ => by go_simp) ?_
          go_simp
          refine takeVal (i := 2) (.bool true) rfl (by kernel_rfl) (by kernel_rfl) (by kernel_rfl) (fun _ _ _ _ h => h) rfl hC (fun w' _ => by go_simp; try simp) ?_
          go_simp
          refine takeList (i := 3) rfl (by kernel_rfl) (by kernel_rfl) (by kernel_rfl) (fun _ _ _ _ h => h) rfl rfl hC (fun K hK => ?_)
          go_big_quiet_op
          refine hK _ ?_
          clear hK K
          refine takeSkip (i := 4) rfl (by kernel_rfl) (by kernel_rfl) (by kernel_rfl) (fun _ _ _ _ h => h) rfl hC ?_
          go_simp
          refine takeSkip (i := 5) rfl (by kernel_rfl) (by kernel_rfl) (by kernel_rfl) (fun _ _ _ _ h => h) rfl hC ?_
          go_simp
          refine takeSkip (i := 6) rfl (by kernel_rfl) (by kernel_rfl) (by kernel_rfl) (fun _ _ _ _ h => h) rfl hC ?_
          go_simp
          refine takeSkip (i := 7) rfl (by kernel_rfl) (by kernel_rfl) (by kernel_rfl) (fun _ _ _ _ h => h) rfl hC ?_
          go_simp
          refine takeSkip (i := 8) rfl (by kernel_rfl) (by kernel_rfl) (by kernel_rfl) (fun _ _ _ _ h => h) rfl hC ?_
          go_simp
          refine takeSkip (i := 9) rfl (by kernel_rfl) (by kernel_rfl) (by kernel_rfl) (fun _ _ _ _ h => h) rfl hC ?_
          go_simp
          refine takeSkip (i := 10) rfl (by kernel_rfl) (by kernel_rfl) (by kernel_rfl) (fun _ _ _ _ h => h) rfl hC ?_
          go_simp
          refine takeSkip (i := 11) rfl (by kernel_rfl) (by kernel_rfl) (by kernel_rfl) (fun _ _ _ _ h => h) rfl hC ?_
          go_simp
          refine takeSkip (i := 12) rfl (by kernel_rfl) (by kernel_rfl) (by kernel_rfl) (fun _ _ _ _ h => h) rfl hC ?_
          go_simp
          refine takeSkip (i := 13) rfl (by kernel_rfl) (by kernel_rfl) (by kernel_rfl) (fun _ _ _ _ h => h) rfl hC ?_
          go_simp
          refine takeSkip (i := 14) rfl (by kernel_rfl) (by kernel_rfl) (by kernel_rfl) (fun _ _ _ _ h => h) rfl hC ?_
          go_simp
          refine takeSkip (i := 15) rfl (by kernel_rfl) (by kernel_rfl) (by kernel_rfl) (fun _ _ _ _ h => h) rfl hC ?_
          go_simp
          refine takeSkip (i := 16) rfl (by kernel_rfl) (by kernel_rfl) (by kernel_rfl) (fun _ _ _ _ h => h) rfl hC ?_
          go_simp
          refine takeSkip (i := 17) rfl (by kernel_rfl) (by kernel_rfl) (by kernel_rfl) (fun _ _ _ _ h => h) rfl hC ?_
          go_simp
          refine takeSkip (i := 18) rfl (by kernel_rfl) (by kernel_rfl) (by kernel_rfl) (fun _ _ _ _ h => h) rfl hC ?_
          go_simp
          refine takeList (i := 19) rfl (by kernel_rfl) (by kernel_rfl) (by kernel_rfl) (fun _ _ _ _ h => h) rfl rfl hC (fun K hK => ?_)
          go_big_quiet_op
          refine hK _ ?_
          clear hK K
          refine wpAnyH_done (by kernel_rfl) ?_ _
          clear d0 hne hC
          go_wp2
          go_ret
          exact ⟨rfl, HSX8.out.bel.drew⟩
        have hlb : ((ln : Int) == 0) = false := by rw [beq_eq_false_iff_ne]; omega
        have hrn := tmod_nat an ln
        obtain ⟨j, hj⟩ : ∃ j, j = an % ln := ⟨_, rfl⟩
        rw [← hj] at hrn
        have HJ : Hid (j < (C.dat s.ws f).length) := by
          show _ < _
          rw [← HLN.out, hj]; exact Nat.mod_lt _ (by omega)
        clear hj
        by_cases hv : v.toNat = 0
        · have HV := hidOf hv
          clear hv
          have hne : Nonempty (HW (fun v => v.cell? ⟨b, o + i, none⟩ = some (.int .i64 (f : Nat)))) := ⟨⟨w8, hc8⟩⟩
          have hC : ∃ t : HW (fun v => v.cell? ⟨b, o + i, none⟩ = some (.int .i64 (f : Nat))), w8.drew = t.v := ⟨⟨w8.drew, hc8⟩, rfl⟩
          refine wp_region_held_drew (S := fun w' => ∃ t : HW (fun v => v.cell? ⟨b, o + i, none⟩ = some (.int .i64 (f : Nat))), w' = t.v) (by kernel_rfl) hC (fun _ => ?_)
          have HSXd := hidOf (HSX8.out.below (Below.drew (Below.refl _ _)))
          have HCd : Hid (w8.drew.cell? ⟨b, o + i, none⟩ = some (.int .i64 (f : Nat))) := HC8.out
          clear hc8 HSX8
          generalize hW0 : w8.drew = W0 at *
          clear hW0
          refine takeList (i := 0) rfl (by kernel_rfl) (by kernel_rfl) (by kernel_rfl) (fun _ _ _ _ h => h) rfl rfl hC (fun K hK => ?_)
          go_big_quiet_op
          refine hK _ ?_
          clear hK K
          refine takeVal (i := 1) (.int .i64 (ln : Nat)) rfl (by kernel_rfl) (by kernel_rfl) (by kernel_rfl) (fun _ _ _ _ h => h) rfl hC (fun w' _ => by go_simp) ?_
          go_simp
          refine takeVal (i := 2) (.bool false) rfl (by kernel_rfl) (by kernel_rfl) (by kernel_rfl) (fun _ _ _ _ h => h) rfl hC (fun w' _ => by go_simp; try simp) ?_
          go_simp
          refine takeList (i := 3) rfl (by kernel_rfl) (by kernel_rfl) (by kernel_rfl) (fun _ _ _ _ h => h) rfl rfl hC (fun K hK => ?_)
          go_big_quiet_op
          refine hK _ ?_
          clear hK K
          refine takeList (i := 4) rfl (by kernel_rfl) (by kernel_rfl) (by kernel_rfl) (fun _ _ _ _ h => h) rfl rfl hC (fun K hK => ?_)
          go_big_quiet_op
          refine hK _ ?_
          clear hK K
          refine takeList (i := 5) rfl (by kernel_rfl) (by kernel_rfl) (by kernel_rfl) (fun _ _ _ _ h => h) rfl rfl hC (fun K hK => ?_)
          go_big_quiet_op
          refine hK _ ?_
          clear hK K
          refine takeList (i := 6) rfl (by kernel_rfl) (by kernel_rfl) (by kernel_rfl) (fun _ _ _ _ h => h) rfl rfl hC (fun K hK => ?_)
          go_big_quiet_op
          refine hK _ ?_
          clear hK K
          refine takeList (i := 7) rfl (by kernel_rfl) (by kernel_rfl) (by kernel_rfl) (fun _ _ _ _ h => h) rfl rfl hC (fun K hK => ?_)
          go_big_quiet_op
          refine hK _ ?_
          clear hK K
          refine takeVal (i := 8) (.int .i64 (n : Nat)) rfl (by kernel_rfl) (by kernel_rfl) (by kernel_rfl) (fun _ _ _ _ h => h) rfl hC (fun w' _ => by go_simp) ?_
          go_simp
          refine takeVal (i := 9) (.int .i64 (i : Nat)) rfl (by kernel_rfl) (by kernel_rfl) (by kernel_rfl) (fun _ _ _ _ h => h) rfl hC (fun w' _ => by go_simp) ?_
          go_simp
          refine takeVal (i := 10) (.pointer (some ⟨b, o + i, none⟩)) rfl (by kernel_rfl) (by kernel_rfl) (by kernel_rfl) (fun _ _ _ _ h => h) rfl hC (fun w' _ => by go_simp) ?_
          go_simp
          refine takeList (i := 11) rfl (by kernel_rfl) (by kernel_rfl) (by kernel_rfl) (fun _ _ _ _ h => h) rfl rfl hC (fun K hK => ?_)
          go_big_quiet_op
          refine hK _ ?_
          clear hK K
          refine takeList (i := 12) rfl (by kernel_rfl) (by kernel_rfl) (by kernel_rfl) (fun _ _ _ _ h => h) rfl rfl hC (fun K hK => ?_)
          go_big_quiet_op
          refine hK _ ?_
          clear hK K
          refine takeList (i := 13) rfl (by kernel_rfl) (by kernel_rfl) (by kernel_rfl) (fun _ _ _ _ h => h) rfl rfl hC (fun K hK => ?_)
          go_big_quiet_op
          refine hK _ ?_
          clear hK K
          refine takeVal (i := 14) (.int .i64 (ln : Nat)) rfl (by kernel_rfl) (by kernel_rfl) (by kernel_rfl) (fun _ _ _ _ h => h) rfl hC (fun w' _ => by go_simp) ?_
          go_simp
          refine takeVal (i := 15) (.int .i64 (j : Nat)) rfl (by kernel_rfl) (by kernel_rfl) (by kernel_rfl) (fun _ _ _ _ h => h) rfl hC (fun w' _ => by go_simp) ?_
          go_simp
          refine takeList (i := 16) rfl (by kernel_rfl) (by kernel_rfl) (by kernel_rfl) (fun _ _ _ _ h => h) rfl rfl hC (fun K hK => ?_)
          go_big_quiet_op
          refine hK _ ?_
          clear hK K
          refine callList (i := 17) rfl (by kernel_rfl) rfl (fun K hK => ?_)
          go_simp
          refine (sx_no w W0 d T s 1 G HSXd.out f j HV.out).mono ?_
          rintro e w9 ⟨rfl, rfl⟩
          refine hK.out _ _ hC ?_
          try go_simp
          clear hK K
          refine takeList (i := 18) rfl (by kernel_rfl) (by kernel_rfl) (by kernel_rfl) (fun _ _ _ _ h => h) rfl rfl hC (fun K hK => ?_)
          go_big_quiet_op
          refine hK _ ?_
          clear hK K
          refine takeList (i := 19) rfl (by kernel_rfl) (by kernel_rfl) (by kernel_rfl) (fun _ _ _ _ h => h) rfl rfl hC (fun K hK => ?_)
          go_big_quiet_op
          refine hK _ ?_
          clear hK K
          refine wpAnyH_done (by kernel_rfl) ?_ _
          clear d0 hne hC
          go_wp2
          go_ret
          exact ⟨rfl, HSXd.out.bel⟩
        · have HV := hidOf hv
          clear hv
          have hne : Nonempty (HW (fun v => v.cell? ⟨b, o + i, none⟩ = some (.int .i64 (f : Nat)))) := ⟨⟨w8, hc8⟩⟩
          have hC : ∃ t : HW (fun v => v.cell? ⟨b, o + i, none⟩ = some (.int .i64 (f : Nat))), w8.drew = t.v := ⟨⟨w8.drew, hc8⟩, rfl⟩
          refine wp_region_held_drew (S := fun w' => ∃ t : HW (fun v => v.cell? ⟨b, o + i, none⟩ = some (.int .i64 (f : Nat))), w' = t.v) (by kernel_rfl) hC (fun _ => ?_)
          have HSXd := hidOf (HSX8.out.below (Below.drew (Below.refl _ _)))
          have HCd : Hid (w8.drew.cell? ⟨b, o + i, none⟩ = some (.int .i64 (f : Nat))) := HC8.out
          clear hc8 HSX8
          generalize hW0 : w8.drew = W0 at *
          clear hW0
          refine takeList (i := 0) rfl (by kernel_rfl) (by kernel_rfl) (by kernel_rfl) (fun _ _ _ _ h => h) rfl rfl hC (fun K hK => ?_)
          go_big_quiet_op
          refine hK _ ?_
          clear hK K
          refine takeVal (i := 1) (.int .i64 (ln : Nat)) rfl (by kernel_rfl) (by kernel_rfl) (by kernel_rfl) (fun _ _ _ _ h => h) rfl hC (fun w' _ => by go_simp) ?_
          go_simp
          refine takeVal (i := 2) (.bool false) rfl (by kernel_rfl) (by kernel_rfl) (by kernel_rfl) (fun _ _ _ _ h => h) rfl hC (fun w' _ => by go_simp; try simp) ?_
          go_simp
          refine takeList (i := 3) rfl (by kernel_rfl) (by kernel_rfl) (by kernel_rfl) (fun _ _ _ _ h => h) rfl rfl hC (fun K hK => ?_)
          go_big_quiet_op
          refine hK _ ?_
          clear hK K
          refine takeList (i := 4) rfl (by kernel_rfl) (by kernel_rfl) (by kernel_rfl) (fun _ _ _ _ h => h) rfl rfl hC (fun K hK => ?_)
          go_big_quiet_op
          refine hK _ ?_
          clear hK K
          refine takeList (i := 5) rfl (by kernel_rfl) (by kernel_rfl) (by kernel_rfl) (fun _ _ _ _ h => h) rfl rfl hC (fun K hK => ?_)
          go_big_quiet_op
          refine hK _ ?_
          clear hK K
          refine takeList (i := 6) rfl (by kernel_rfl) (by kernel_rfl) (by kernel_rfl) (fun _ _ _ _ h => h) rfl rfl hC (fun K hK => ?_)
          go_big_quiet_op
          refine hK _ ?_
          clear hK K
          refine takeList (i := 7) rfl (by kernel_rfl) (by kernel_rfl) (by kernel_rfl) (fun _ _ _ _ h => h) rfl rfl hC (fun K hK => ?_)
          go_big_quiet_op
          refine hK _ ?_
          clear hK K
          refine takeVal (i := 8) (.int .i64 (n : Nat)) rfl (by kernel_rfl) (by kernel_rfl) (by kernel_rfl) (fun _ _ _ _ h => h) rfl hC (fun w' _ => by go_simp) ?_
          go_simp
          refine takeVal (i := 9) (.int .i64 (i : Nat)) rfl (by kernel_rfl) (by kernel_rfl) (by kernel_rfl) (fun _ _ _ _ h => h) rfl hC (fun w' _ => by go_simp) ?_
          go_simp
          refine takeVal (i := 10) (.pointer (some ⟨b, o + i, none⟩)) rfl (by kernel_rfl) (by kernel_rfl) (by kernel_rfl) (fun _ _ _ _ h => h) rfl hC (fun w' _ => by go_simp) ?_
          go_simp
          refine takeList (i := 11) rfl (by kernel_rfl) (by kernel_rfl) (by kernel_rfl) (fun _ _ _ _ h => h) rfl rfl hC (fun K hK => ?_)
          go_big_quiet_op
          refine hK _ ?_
          clear hK K
          refine takeList (i := 12) rfl (by kernel_rfl) (by kernel_rfl) (by kernel_rfl) (fun _ _ _ _ h => h) rfl rfl hC (fun K hK => ?_)
          go_big_quiet_op
          refine hK _ ?_
          clear hK K
          refine takeList (i := 13) rfl (by kernel_rfl) (by kernel_rfl) (by kernel_rfl) (fun _ _ _ _ h => h) rfl rfl hC (fun K hK => ?_)
          go_big_quiet_op
          refine hK _ ?_
          clear hK K
          refine takeVal (i := 14) (.int .i64 (ln : Nat)) rfl (by kernel_rfl) (by kernel_rfl) (by kernel_rfl) (fun _ _ _ _ h => h) rfl hC (fun w' _ => by go_simp) ?_
          go_simp
          refine takeVal (i := 15) (.int .i64 (j : Nat)) rfl (by kernel_rfl) (by kernel_rfl) (by kernel_rfl) (fun _ _ _ _ h => h) rfl hC (fun w' _ => by go_simp) ?_
          go_simp
          refine takeList (i := 16) rfl (by kernel_rfl) (by kernel_rfl) (by kernel_rfl) (fun _ _ _ _ h => h) rfl rfl hC (fun K hK => ?_)
          go_big_quiet_op
          refine hK _ ?_
          clear hK K
          refine callList (i := 17) rfl (by kernel_rfl) rfl (fun K hK => ?_)
          go_simp
          refine (sx_spoil w W0 d T s 1 G HSXd.out (by rw [← HF.out]; exact HFF.out) HJ.out HV.out).mono ?_
          rintro e w9 ⟨rfl, ht9, hb9, hop⟩
          have hc9 : w9.cell? ⟨b, o + i, none⟩ = some (.int .i64 (f : Nat)) := (blk_turn HCd.out ht9 HNT.out)
          have HOP := hidOf (hop pn HPN.out HT.out)
          have HC9 := hidOf hc9
          have HB9 := hidOf hb9
          clear hop ht9 hc9 hb9
          refine hK.out _ _ ⟨⟨_, HC9.out⟩, rfl⟩ ?_
          try go_simp
          clear hK K hC
          have hC : ∃ t : HW (fun v => v.cell? ⟨b, o + i, none⟩ = some (.int .i64 (f : Nat))), w9 = t.v := ⟨⟨_, HC9.out⟩, rfl⟩
          refine takeList (i := 18) rfl (by kernel_rfl) (by kernel_rfl) (by kernel_rfl) (fun _ _ _ _ h => h) rfl rfl hC (fun K hK => ?_)
          go_big_quiet_op
          refine hK _ ?_
          clear hK K
          refine takeList (i := 19) rfl (by kernel_rfl) (by kernel_rfl) (by kernel_rfl) (fun _ _ _ _ h => h) rfl rfl hC (fun K hK => ?_)
          go_big_quiet_op
          refine hK _ ?_
          clear hK K
          refine wpAnyH_done (by kernel_rfl) ?_ _
          clear d0 hne hC
          go_wp2_with fail
          refine HOP.out.mono ?_
          rintro e w10 ⟨rfl, hb10⟩
          have HB10 := hidOf hb10
          clear hb10 HOP
          go_wp2
          go_ret
          exact ⟨rfl, HB10.out⟩
end Go.Proofs.YtnhplbdbgiimkaaGreatDoor
