/-
  WalPlays: any calls, any falls, parts of any size.
-/
import Derived.Test.YtnhplbdbgiimkaaGreatDoorKPl6
import Derived.Deep.CutRange
import Derived.Deep.CutBlock
namespace Go.Proofs.YtnhplbdbgiimkaaGreatDoor
open Go.RowKit Go.Lib
set_option linter.unusedVariables false

set_option maxRecDepth 100000 in
set_option maxHeartbeats 32000000 in
theorem plays_any (part : Int) (wp0 : (Lit.int .i64 part).wf = true) (p : Option Addr) (xs : List ActW) (cap : Nat) (w : World) (hT : Tabs w) (hP : AAt w p xs) (hA : ∀ x ∈ xs, x.ok w) (hcap : xs.length ≤ cap) (hcm : cap ≤ maxLen) :
    Calls Tryz.prog 4 #[.int .i64 part, .slice p xs.length cap] w fun e w' => e = .returned (.bool true) ∧ Below w.heap.size w w' := by
  have HT : Hid (Tabs w) := hT
  have HP : Hid (AAt w p xs) := hP
  have HA : Hid (∀ x ∈ xs, x.ok w) := hA
  have HCM : Hid (xs.length ≤ cap ∧ cap ≤ maxLen) := ⟨hcap, hcm⟩
  have hcm' : cap ≤ 9223372036854775807 := Nat.le_trans hcm (by decide)
  obtain ⟨m, hm⟩ : ∃ m, m = xs.length := ⟨_, rfl⟩
  have HM : Hid (m = xs.length) := hm
  rw [← hm] at hcap ⊢
  clear hT hP hA hcm hm wp0
  go_enter Tryz.func4, Tryz.ntmps4
  go_wp2_with fail
  refine (awake6_any w HT.out).mono ?_
  rintro e w1 ⟨rfl, h1⟩
  have H1 := hidOf h1
  clear h1
  by_cases g1 : part < 1
  · go_wp2
    go_ret
    exact ⟨rfl, H1.out⟩
  by_cases g2 : 1000 < part
  · go_wp2
    go_ret
    exact ⟨rfl, H1.out⟩
  obtain ⟨pn, rfl⟩ : ∃ pn : Nat, part = pn := ⟨part.toNat, by omega⟩
  have HPN : Hid (1 ≤ pn ∧ pn ≤ 1000) := ⟨by omega, by omega⟩
  have HLI : Hid (Calls Tryz.prog 21 #[.slice p m cap] w1 fun e w' => ((e = .returned (.bool true) ∧ m ≤ 40 ∧ ∀ x ∈ xs, LightA x) ∨ e = .returned (.bool false)) ∧ w' = w1) := by
    have h1 := light_any p xs cap w1 (fun hl => by
      obtain ⟨b, o, e, hc⟩ := HP.out hl
      exact ⟨b, o, e, fun i x hx j hj => by
        have h2 := hc i x hx j hj
        rw [(H1.out : Below _ _ _).cell (p := ⟨b, o + i * 5 + j, none⟩) (World.block_lt_of_cell? _ _ h2)]; exact h2⟩) (fun x hx => by
      have h2 := HA.out x hx
      exact ⟨h2.op, h2.n, h2.m, h2.b.below H1.out, h2.row.below H1.out, fun y hy => (h2.parts y hy).below H1.out, h2.lc, h2.lm⟩) HCM.out.1 HCM.out.2
    rw [← HM.out] at h1
    exact h1
  go_wp2_with fail
  refine HLI.out.mono ?_
  clear HLI
  rintro e w1' ⟨⟨rfl, hm40, hli⟩ | rfl, rfl⟩
  case inr =>
    go_wp2
    go_ret
    exact ⟨rfl, H1.out⟩
  have HLT := hidOf hli
  clear hli
  go_wp2_with fail
  refine (lx_new w _ 262144 H1.out (by decide)).mono ?_
  rintro e w2 ⟨⟨d, S2, rfl, hd2, -⟩, -⟩
  have HD2 := hidOf hd2
  clear hd2 H1
  go_wp2_with fail
  refine (lx_open w w2 d S2 0 [] [] 0 0 1 262144 pn True HD2.out HT.out (by omega) HPN.out (by simp)).mono ?_
  rintro e w3 ⟨⟨gl, rfl, hlx3, -⟩, -⟩
  have HI3 : Hid (PlI w w3 d pn gl (Ext w2 w3 S2) 0 [] [] 0 0 0 1 0 none [] 0 0) := ⟨hlx3.weak, fun W hW hl => absurd hl (Nat.lt_irrefl 0), (fun x hx => by cases hx), rfl, rfl, Nat.le_refl _, Nat.zero_le _, Nat.le_refl _, by omega, by omega, by omega, by omega, by omega⟩
  clear hlx3 HD2
  go_wp2_with fail
  go_loopw [7, 9, 10, 11, 12] (fun s7 s9 s10 s11 s12 wr => ∃ (i gl : Nat) (S : Nat → Prop) (a : Nat) (base : List UInt8) (recs : List (List UInt8)) (n M k lv : Nat) (ap : Option Addr) (aps : List Part) (ac q : Nat), s7 = .pointer (some ⟨gl, 0, none⟩) ∧ s9 = .string ⟨base.toArray⟩ ∧ s10 = .slice ap q ac ∧ s11 = .int .i64 (k : Nat) ∧ s12 = .int .i64 (i : Nat) ∧ i ≤ m ∧ Hid (PlI w wr d pn gl S a base recs n M k lv i ap aps ac q)) (fun _ _ _ _ s12 _ => m - (intOf s12).toNat)
  case atStart => exact ⟨0, gl, _, 0, [], [], 0, 0, 0, 1, none, [], 0, 0, rfl, rfl, rfl, rfl, rfl, Nat.zero_le _, HI3⟩
  case round =>
    obtain ⟨i, gl, S, a, base, recs, n, M, k, lv, ap, aps, ac, q, rfl, rfl, rfl, rfl, rfl, him, HI⟩ := hrel
    have hqb : q ≤ 240 := by have := HI.out.sq; omega
    have hkq : k ≤ q := HI.out.safe
    have hqc : q ≤ ac := HI.out.cap
    have hacm : ac ≤ 9223372036854775807 := Nat.le_trans HI.out.capm (by decide)
    by_cases hlt : i < m
    · obtain ⟨b, o, rfl, hc⟩ := HP.out (by have := HM.out; omega)
      obtain ⟨x, hx⟩ : ∃ x, xs[i]? = some x := ⟨_, List.getElem?_eq_getElem (by have := HM.out; omega)⟩
      have hcw : ∀ j, j < 5 → wr.cell? ⟨b, o + i * 5 + j, none⟩ = some (x.cell j) := fun j hj => by
        have e := hc i x hx j hj
        rw [HI.out.lx.bel.cell (p := ⟨b, o + i * 5 + j, none⟩) (World.block_lt_of_cell? _ _ e)]; exact e
      have x0 := hcw 0 (by omega)
      have x1 := hcw 1 (by omega)
      have x2 := hcw 2 (by omega)
      have x3 := hcw 3 (by omega)
      have x4 := hcw 4 (by omega)
      have HXO := hidOf (HA.out x (List.mem_of_getElem? hx))
      have HXL := hidOf (HLT.out x (List.mem_of_getElem? hx))
      obtain ⟨xo, xn, xm, ⟨bp, bl, bc⟩, lp, ls, lc⟩ := x
      simp only [ActW.cell, Part.v, Nat.add_zero] at x0 x1 x2 x3 x4
      obtain ⟨lq, hlq⟩ : ∃ lq, lq = ls.length := ⟨_, rfl⟩
      have HLQ := hidOf hlq
      rw [← hlq] at x4
      have HBO : Hid (Part.ok w ⟨bp, bl, bc⟩) := HXO.out.b
      have HLR : Hid (PAt w lp ls) := HXO.out.row
      have HLO : Hid (∀ y ∈ ls, y.ok w) := HXO.out.parts
      have HLC : Hid (ls.length ≤ lc ∧ lc ≤ maxLen) := ⟨HXO.out.lc, HXO.out.lm⟩
      have HXN := hidOf (wf_i64 HXO.out.n)
      have HXM := hidOf (wf_i64 HXO.out.m)
      have HLG : Hid (bl.length ≤ 300 ∧ ls.length ≤ 6 ∧ ∀ y ∈ ls, y.l.length ≤ 200) := HXL.out
      have hlq6 : lq ≤ 6 := by have := HLG.out.2.1; omega
      have hbl3 : bl.length ≤ 300 := HLG.out.1
      have hiz : (i : Int) < (m : Int) := by omega
      clear hc hx hcw HXO HXL hlq
      go_upto_block 2 with fail
      have hbe : (wr.alloc (.cells #[.int .i64 xo, .int .i64 xn, .int .i64 xm, .slice bp bl.length bc, .slice lp lq lc] 42)).heap[wr.heap.size]? = some (.cells #[.int .i64 xo, .int .i64 xn, .int .i64 xm, .slice bp bl.length bc, .slice lp lq lc] 42) := heap_alloc_new wr _
      refine wp_world (fun wz => wz.heap[wr.heap.size]? = some (.cells #[.int .i64 xo, .int .i64 xn, .int .i64 xm, .slice bp bl.length bc, .slice lp lq lc] 42) ∧ PlI w wz d pn gl S a base recs n M k lv i ap aps ac q) ⟨hbe, HI.out.below (below_new _ _)⟩ ?_
      rintro w1 ⟨hxb, hi1⟩
      have HXB := hidOf hxb
      have HI1 := hidOf hi1
      have HNX : Hid (¬ S wr.heap.size) := fun hs => by have := HI.out.lx.lt _ hs; omega
      clear HI hbe hxb hi1 x0 x1 x2 x3 x4
      generalize wr.heap.size = xb at HXB HNX ⊢
      go_cut [7, 9, 10, 11, 14, 15, 16] from 46 to 150 (fun s7 s9 s10 s11 s14 s15 s16 wc => ∃ (gl' : Nat) (S' : Nat → Prop) (a' : Nat) (base' : List UInt8) (recs' : List (List UInt8)) (n' M' k' lv' : Nat) (ap' : Option Addr) (aps' : List Part) (ac' q' : Nat), s7 = .pointer (some ⟨gl', 0, none⟩) ∧ s9 = .string ⟨base'.toArray⟩ ∧ s10 = .slice ap' q' ac' ∧ s11 = .int .i64 (k' : Nat) ∧ Hid (PlI w wc d pn gl' S' a' base' recs' n' M' k' lv' (i + 1) ap' aps' ac' q'))
      case first =>
        have f0 : w1.cell? ⟨xb, 0, none⟩ = some (.int .i64 xo) := (blk_cell HXB.out 0).trans rfl
        have f1 : w1.cell? ⟨xb, 1, none⟩ = some (.int .i64 xn) := (blk_cell HXB.out 1).trans rfl
        have f2 : w1.cell? ⟨xb, 2, none⟩ = some (.int .i64 xm) := (blk_cell HXB.out 2).trans rfl
        have f3 : w1.cell? ⟨xb, 3, none⟩ = some (.slice bp bl.length bc) := (blk_cell HXB.out 3).trans rfl
        have f4 : w1.cell? ⟨xb, 4, none⟩ = some (.slice lp lq lc) := (blk_cell HXB.out 4).trans rfl
        have hblm : bl.length ≤ 9223372036854775807 := by omega
        by_cases o0 : xo = 0
        · subst o0
          go_wp2_with fail
          have HAD : Hid (Calls Tryz.prog 12 #[.pointer (some ⟨gl, 0, none⟩), .slice lp lq lc] w1 fun e w' => e = .returned (.int .i64 0) ∧ LX w w' d gl pn (Ext w1 w' S) a base (recs ++ ls.map Part.l) (n + lq) (M + 1 + lq) k lv 262144 False ∧ Turn w1 w' S) := by
            have h1 := lx_add w w1 d gl pn S a base recs n M k lv 262144 False lp ls lc HI1.out.lx HT.out (args_stay HLR.out HLO.out HI1.out.lx.bel HI1.out.lx.new) (fun y hy => Nat.le_trans (HLG.out.2.2 y hy) (by omega)) (by have := HI1.out.sn; have := HLQ.out; omega) (by have := HI1.out.sn; have := HLQ.out; omega) (by have := HI1.out.sM; have := HLQ.out; omega) (by have := HI1.out.len; have := HLQ.out; omega) HLC.out.1 HLC.out.2
            rw [← HLQ.out] at h1
            exact h1
          refine HAD.out.mono ?_
          clear HAD f0 f1 f2 f3 f4
          rintro e w2 ⟨rfl, hx2, ht2⟩
          have HX2 := hidOf hx2
          have HT2 := hidOf ht2
          have hxlt : xb < w1.heap.size := (Array.getElem?_eq_some_iff.1 HXB.out).1
          have HXB2 : Hid (w2.heap[xb]? = some (.cells #[.int .i64 0, .int .i64 xn, .int .i64 xm, .slice bp bl.length bc, .slice lp lq lc] 42)) := (ht2.block xb hxlt HNX.out).trans HXB.out
          clear hx2 ht2 hxlt
          go_wp2_with fail
          have hne : Nonempty (NewW w2) := ⟨NewW.start w2⟩
          have hB : Below w2.heap.size w2 w2.drew := (Below.refl _ _).drew
          have hC : ∃ n : NewW w2, w2.drew = n.v := ⟨⟨_, hB⟩, rfl⟩
          refine wp_region_held_drew (S := fun w' => ∃ n : NewW w2, w' = n.v) (by kernel_rfl) hC (fun _ => ?_)
          have z4 : ∀ t : NewW w2, t.v.cell? ⟨xb, 4, none⟩ = some (.slice lp lq lc) := fun t => (blk_cell ((t.h.block xb (Array.getElem?_eq_some_iff.1 HXB2.out).1).trans HXB2.out) 4).trans rfl
          have HXd := hidOf (HX2.out.below hB)
          have HTd : Hid (Turn w1 w2.drew S) := HT2.out.drew
          have HLTd : Hid (∀ b, Ext w1 w2 S b → b < w2.drew.heap.size) := fun b hb => HX2.out.lt b hb
          have HQ : Hid (q = aps.length) := HI1.out.q_
          generalize hW0 : w2.drew = W0 at *
          clear hW0
          have HSR : Hid (SrcAt (W0.alloc (.cells #[] 31)) 1 (.slice ap q ac) q (aps.map Part.v)) := by
            have h1 := pat_src ac (HI1.out.row (W0.alloc (.cells #[] 31)) (HTd.out.alloc _))
            rw [← HQ.out] at h1
            exact h1
          have HN1 : Hid (0 + q ≤ maxLen) := by show _ ≤ _; unfold maxLen; omega
          have HN2 : Hid ((0 + q) * 24 ≤ 140737488355328) := by show _ ≤ _; omega
          have HN3 : Hid (0 + q + lq ≤ maxLen) := by show _ ≤ _; unfold maxLen; omega
          have HN4 : Hid ((0 + q + lq) * 24 ≤ 140737488355328) := by show _ ≤ _; omega
          refine takeList (i := 1) rfl (by kernel_rfl) (by kernel_rfl) (by kernel_rfl) (fun _ _ _ _ h => h) rfl rfl hC (fun K hK => ?_)
          go_big_quiet_op
          refine hK _ ?_
          clear hK K
          refine takeList (i := 3) rfl (by kernel_rfl) (by kernel_rfl) (by kernel_rfl) (fun _ _ _ _ h => h) rfl rfl hC (fun K hK => ?_)
          go_big_quiet_op
          refine hK _ ?_
          clear hK K
          refine takeList (i := 4) rfl (by kernel_rfl) (by kernel_rfl) (by kernel_rfl) (fun _ _ _ _ h => h) rfl rfl hC (fun K hK => ?_)
          go_big_quiet_op
          refine hK _ ?_
          clear hK K
          refine callList (i := 0) rfl (by kernel_rfl) rfl (fun K hK => ?_)
          go_simp
          refine hK.out _ _ ⟨⟨_, bt hB (below_new _ _)⟩, rfl⟩ ?_
          try go_simp
          clear hK K
          refine callList (i := 2) rfl (by kernel_rfl) rfl (fun K hK => ?_)
          refine oper_append_src Tryz.underlying32 info_bytes rfl (by decide) _ _ rfl rfl (row_empty6 W0) rfl HSR.out (parts_one _) HN1.out HN2.out ?_
          intro va W2 hra hga hla
          have HF1 := hidOf (app_first (va := va) hga hla)
          refine hK.out _ _ ⟨⟨_, bt hB HF1.out.1⟩, rfl⟩ ?_
          try go_simp
          clear hK K
          have HSR2 : Hid (SrcAt W2 1 (.slice lp lq lc) lq (ls.map Part.v)) := by
            have h1 := pat_src lc (HLR.out.below (bt HXd.out.bel HF1.out.1))
            rw [← HLQ.out] at h1
            exact h1
          refine callList (i := 5) rfl (by kernel_rfl) rfl (fun K hK => ?_)
          refine oper_append_src Tryz.underlying32 info_bytes rfl (by decide) _ _ rfl rfl hra rfl HSR2.out (parts_one _) HN3.out HN4.out ?_
          intro vb W6 hrb hgb hlb
          obtain ⟨hb6, pv, cv, rfl, hpv, hcv, hcvm⟩ := app_two (S := Ext w1 w2 S) HLTd.out HQ.out HLQ.out hra hga hla hrb hgb hlb
          have HB6 := hidOf hb6
          have HPV := hidOf hpv
          have HCV : Hid (q + lq ≤ cv ∧ cv ≤ maxLen) := ⟨hcv, hcvm⟩
          refine hK.out _ _ ⟨⟨_, bt hB HB6.out⟩, rfl⟩ ?_
          try go_simp
          clear hK K hra hga hla hrb hgb hlb hb6 hpv hcv hcvm hC
          have hC : ∃ t : NewW w2, W6 = t.v := ⟨⟨_, bt hB HB6.out⟩, rfl⟩
          refine takeList (i := 6) rfl (by kernel_rfl) (by kernel_rfl) (by kernel_rfl) (fun _ _ _ _ h => h) rfl rfl hC (fun K hK => ?_)
          go_big_quiet_op
          refine hK _ ?_
          clear hK K
          refine wpAnyH_done (by kernel_rfl) ?_ _
          have HX6 := hidOf (HXd.out.below HB6.out)
          clear hC hB hne z4
          go_wp2_with fail
          go_meet
          case rel => exact ⟨gl, _, a, base, _, _, _, k, lv, pv, aps ++ ls, cv, q + lq, rfl, rfl, rfl, rfl, ⟨HX6.out, HPV.out, fun y hy => (List.mem_append.1 hy).elim (HI1.out.oks y) (HLO.out y), by rw [List.map_append, HI1.out.is], by rw [List.length_append, ← HQ.out, ← HLQ.out], HCV.out.1, HCV.out.2, by omega, by have := HI1.out.sn; omega, by have := HI1.out.sM; omega, by have := HI1.out.sa; omega, by have := HI1.out.sl; omega, by have := HI1.out.sq; omega⟩⟩
        by_cases o1 : xo = 1
        · subst o1
          go_wp2_with fail
          refine (lx_sync w w1 d gl pn S a base recs n M k lv 262144 False HI1.out.lx (by have := HI1.out.sM; omega)).mono ?_
          rintro e w2 ⟨rfl, hx2, ht2⟩
          rw [HI1.out.len] at hx2
          have HX2 := hidOf hx2
          have HT2 := hidOf ht2
          clear hx2 ht2 f0 f1 f2 f3 f4
          go_wp2_with fail
          go_meet
          case rel => exact ⟨gl, S, a, base, recs, n, M, q, lv, ap, aps, ac, q, rfl, rfl, rfl, rfl, ⟨HX2.out, fun W hW => HI1.out.row W (HT2.out.trans hW fun x hx => Or.inl hx), HI1.out.oks, HI1.out.is, HI1.out.q_, HI1.out.cap, HI1.out.capm, Nat.le_refl _, by have := HI1.out.sn; omega, by have := HI1.out.sM; omega, by have := HI1.out.sa; omega, by have := HI1.out.sl; omega, by have := HI1.out.sq; omega⟩⟩
        by_cases o2 : xo = 2
        · subst o2
          go_wp2_with fail
          refine (lx_keep w w1 d gl pn S a base recs n M k lv 262144 False bp bl bc HI1.out.lx HT.out (Stay1.of HBO.out HI1.out.lx.bel HI1.out.lx.new) (by omega) (by have := HI1.out.sn; omega) (by have := HI1.out.sn; omega) (by have := HI1.out.sM; omega) (by have := HI1.out.sa; omega)).mono ?_
          rintro e w2 ⟨rfl, hx2, ht2⟩
          have HX2 := hidOf hx2.weak
          have hxlt : xb < w1.heap.size := (Array.getElem?_eq_some_iff.1 HXB.out).1
          have hxb2 : w2.heap[xb]? = some (.cells #[.int .i64 2, .int .i64 xn, .int .i64 xm, .slice bp bl.length bc, .slice lp lq lc] 42) := (ht2.block xb hxlt HNX.out).trans HXB.out
          have g3 : w2.cell? ⟨xb, 3, none⟩ = some (.slice bp bl.length bc) := (blk_cell hxb2 3).trans rfl
          have hcv := conv_at (Part.ok.below HBO.out hx2.bel) rfl
          clear hx2 ht2 hxlt hxb2 f0 f1 f2 f3 f4
          go_wp2_with fail
          go_meet
          case rel => exact ⟨gl, _, a + 1, bl, [], n + 1, M + 1, 0, lv, none, [], 0, 0, rfl, rfl, rfl, rfl, ⟨HX2.out, fun W hW hl => absurd hl (Nat.lt_irrefl 0), (fun y hy => by cases hy), rfl, rfl, Nat.le_refl _, Nat.zero_le _, Nat.le_refl _, by have := HI1.out.sn; omega, by have := HI1.out.sM; omega, by have := HI1.out.sa; omega, by have := HI1.out.sl; omega, by omega⟩⟩
        have p0 : (xo == 0) = false := by simpa using o0
        have p1 : (xo == 1) = false := by simpa using o1
        have p2 : (xo == 2) = false := by simpa using o2
        go_wp2_with fail
        refine (lx_crash w w1 d gl pn S a base recs n M k lv 262144 False xn xm HI1.out.lx (by have := HI1.out.sM; omega) HXN.out.1 HXN.out.2 HXM.out.1 HXM.out.2).mono ?_
        rintro e w3 ⟨rfl, ⟨j, T, hd3, hj1, hj2, -, -, -, hT3⟩, ht3⟩
        rw [HI1.out.len] at hj2
        have HD3 := hidOf hd3
        have HR3 : Hid (∀ W, Turn w3 W T → PAt W ap aps) := fun W hW => HI1.out.row W (ht3.ext (hW.mono hT3))
        clear hd3 hT3 ht3 f0 f1 f2 f3 f4
        go_wp2_with fail
        refine (lx_on w w3 d T _ a base _ n M lv 262144 _ HD3.out (by have := HI1.out.sl; omega)).mono ?_
        rintro e w4 ⟨rfl, hd4, ht4⟩
        have HD4 := hidOf hd4
        have HR4 : Hid (∀ W, Turn w4 W T → PAt W ap aps) := fun W hW => HR3.out W (ht4.trans hW fun x hx => Or.inl hx)
        clear hd4 ht4 HD3 HR3
        have HRJ : Hid ((recs.take j).length = j) := by show _ = _; rw [List.length_take, HI1.out.len]; omega
        go_wp2_with fail
        refine (lx_open w w4 d T a base _ n M _ 262144 pn _ HD4.out HT.out (by have := HI1.out.sM; omega) HPN.out (by rw [HRJ.out]; omega)).mono ?_
        rintro e w5 ⟨⟨g5, rfl, hx5, -⟩, ht5⟩
        rw [HRJ.out] at hx5
        have HX5 := hidOf hx5
        have HR5 : Hid (∀ W, Turn w5 W (Ext w4 w5 T) → PAt W ap aps) := fun W hW => HR4.out W (ht5.ext hW)
        clear hx5 ht5 HD4 HR4
        go_wp2_with fail
        refine (lx_all w w5 d g5 pn _ a base _ n M _ _ 262144 _ HX5.out (by rw [HRJ.out]; omega)).mono ?_
        rintro e w6 ⟨⟨zp, zc, rfl, -, -⟩, hb6⟩
        rw [HRJ.out]
        have HX6 := hidOf (HX5.out.below hb6)
        have HR6 : Hid (∀ W, Turn w6 W (Ext w4 w5 T) → PAt W ap aps) := fun W hW => HR5.out W ((Turn.of_below hb6).trans hW fun x hx => Or.inl hx)
        clear hb6 HX5 HR5
        have hjk : decide ((j : Int) < (k : Int)) = false := decide_eq_false (by omega)
        have hjq : decide ((q : Int) < (j : Int)) = false := decide_eq_false (by omega)
        have hjac : j ≤ ac := by omega
        go_wp2_with fail
        have hne : Nonempty (NewW w6) := ⟨NewW.start w6⟩
        have hB : Below w6.heap.size w6 w6.drew := (Below.refl _ _).drew
        have hC : ∃ n : NewW w6, w6.drew = n.v := ⟨⟨_, hB⟩, rfl⟩
        refine wp_region_held_drew (S := fun w' => ∃ n : NewW w6, w' = n.v) (by kernel_rfl) hC (fun _ => ?_)
        have HXd := hidOf (HX6.out.below hB)
        have HRd : Hid (∀ W, Turn w6.drew W (Ext w4 w5 T) → PAt W ap aps) := fun W hW => HR6.out W ((Turn.of_below hB).trans hW fun x hx => Or.inl hx)
        clear HX6 HR6
        generalize hW0 : w6.drew = W0 at *
        clear hW0
        refine takeList (i := 0) rfl (by kernel_rfl) (by kernel_rfl) (by kernel_rfl) (fun _ _ _ _ h => h) rfl rfl hC (fun K hK => ?_)
        go_big_quiet_op
        refine hK _ ?_
        clear hK K
        refine takeList (i := 1) rfl (by kernel_rfl) (by kernel_rfl) (by kernel_rfl) (fun _ _ _ _ h => h) rfl rfl hC (fun K hK => ?_)
        go_big_quiet_op
        refine hK _ ?_
        clear hK K
        refine takeVal (i := 2) (.bool false) rfl (by kernel_rfl) (by kernel_rfl) (by kernel_rfl) (fun _ _ _ _ h => h) rfl hC (fun w' _ => by go_simp; try simp; try omega) ?_
        go_simp
        refine takeList (i := 3) rfl (by kernel_rfl) (by kernel_rfl) (by kernel_rfl) (fun _ _ _ _ h => h) rfl rfl hC (fun K hK => ?_)
        go_big_quiet_op
        refine hK _ ?_
        clear hK K
        refine takeList (i := 4) rfl (by kernel_rfl) (by kernel_rfl) (by kernel_rfl) (fun _ _ _ _ h => h) rfl rfl hC (fun K hK => ?_)
        go_big_quiet_op
        refine hK _ ?_
        clear hK K
        refine takeList (i := 5) rfl (by kernel_rfl) (by kernel_rfl) (by kernel_rfl) (fun _ _ _ _ h => h) rfl rfl hC (fun K hK => ?_)
        go_big_quiet_op
        refine hK _ ?_
        clear hK K
        refine takeVal (i := 6) (.int .i64 (q : Nat)) rfl (by kernel_rfl) (by kernel_rfl) (by kernel_rfl) (fun _ _ _ _ h => h) rfl hC (fun w' _ => by go_simp) ?_
        go_simp
        refine takeVal (i := 7) (.bool false) rfl (by kernel_rfl) (by kernel_rfl) (by kernel_rfl) (fun _ _ _ _ h => h) rfl hC (fun w' _ => by go_simp; try simp; try omega) ?_
        go_simp
        refine takeList (i := 8) rfl (by kernel_rfl) (by kernel_rfl) (by kernel_rfl) (fun _ _ _ _ h => h) rfl rfl hC (fun K hK => ?_)
        go_big_quiet_op
        refine hK _ ?_
        clear hK K
        refine takeList (i := 9) rfl (by kernel_rfl) (by kernel_rfl) (by kernel_rfl) (fun _ _ _ _ h => h) rfl rfl hC (fun K hK => ?_)
        go_big_quiet_op
        refine hK _ ?_
        clear hK K
        refine takeList (i := 10) rfl (by kernel_rfl) (by kernel_rfl) (by kernel_rfl) (fun _ _ _ _ h => h) rfl rfl hC (fun K hK => ?_)
        go_big_quiet_op
        refine hK _ ?_
        clear hK K
        refine takeList (i := 12) rfl (by kernel_rfl) (by kernel_rfl) (by kernel_rfl) (fun _ _ _ _ h => h) rfl rfl hC (fun K hK => ?_)
        go_big_quiet_op
        refine hK _ ?_
        clear hK K
        refine takeList (i := 13) rfl (by kernel_rfl) (by kernel_rfl) (by kernel_rfl) (fun _ _ _ _ h => h) rfl rfl hC (fun K hK => ?_)
        go_big_quiet_op
        refine hK _ ?_
        clear hK K
        refine takeVal (i := 14) (.slice ap j ac) rfl (by kernel_rfl) (by kernel_rfl) (by kernel_rfl) (fun _ _ _ _ h => h) rfl hC (fun w' _ => by go_simp; try (intro h; omega)) ?_
        go_simp
        refine callList (i := 11) rfl (by kernel_rfl) rfl (fun K hK => ?_)
        go_simp
        refine Calls.mono (lx_all w W0 d g5 pn _ a base _ n M _ _ 262144 _ HXd.out (by rw [HRJ.out]; omega)) ?_
        rintro e w7 ⟨⟨yp, yc, rfl, -, hyr⟩, hb7⟩
        rw [HRJ.out] at hyr ⊢
        refine hK.out _ _ ⟨⟨_, bt hB hb7⟩, rfl⟩ ?_
        try go_simp
        refine wpAnyH_strengthen (S' := fun w' => ∃ n : NewW w7, w' = n.v) (fun w' ⟨n, hn⟩ => ⟨⟨w', by rw [hn]; exact bt (bt hB hb7) n.h⟩, rfl⟩) _ _ _ _ ?_
        clear hK K hC hne
        replace hB : Below w7.heap.size w7 w7 := Below.refl _ _
        have hC : ∃ n : NewW w7, w7 = n.v := ⟨⟨_, hB⟩, rfl⟩
        have hne : Nonempty (NewW w7) := ⟨NewW.start w7⟩
        have HX7 := hidOf (HXd.out.below hb7)
        have HYR := hidOf hyr.now
        have HR7 : Hid (∀ W, Turn w7 W (Ext w4 w5 T) → PAt W ap aps) := fun W hW => HRd.out W ((Turn.of_below hb7).trans hW fun x hx => Or.inl hx)
        have HAR : Hid (Rows w7 (.slice ap j ac) (recs.take j)) := by
          have h1 : Rows w7 (.slice ap q ac) recs := ⟨ap, aps, ac, by rw [HI1.out.q_], HR7.out w7 (Turn.refl _ _), fun y hy => (HI1.out.oks y hy).below HX7.out.bel, HI1.out.is, by rw [← HI1.out.q_]; exact HI1.out.cap, HI1.out.capm⟩
          exact h1.take j hj2
        clear hb7 hyr HXd HRd
        refine callList (i := 15) rfl (by kernel_rfl) rfl (fun K hK => ?_)
        go_simp
        refine Calls.mono (same_any _ _ (recs.take j) (recs.take j) w7 HYR.out HAR.out) ?_
        rintro e w8 ⟨he, hb8⟩
        rw [decide_eq_true rfl] at he
        subst he
        refine hK.out _ _ ⟨⟨_, bt hB hb8⟩, rfl⟩ ?_
        try go_simp
        refine wpAnyH_strengthen (S' := fun w' => ∃ n : NewW w8, w' = n.v) (fun w' ⟨n, hn⟩ => ⟨⟨w', by rw [hn]; exact bt (bt hB hb8) n.h⟩, rfl⟩) _ _ _ _ ?_
        clear hK K hC hne
        replace hB : Below w8.heap.size w8 w8 := Below.refl _ _
        have hC : ∃ n : NewW w8, w8 = n.v := ⟨⟨_, hB⟩, rfl⟩
        have hne : Nonempty (NewW w8) := ⟨NewW.start w8⟩
        have HX8 := hidOf (HX7.out.below hb8)
        have HR8 : Hid (∀ W, Turn w8 W (Ext w4 w5 T) → PAt W ap aps) := fun W hW => HR7.out W ((Turn.of_below hb8).trans hW fun x hx => Or.inl hx)
        clear hb8 HX7 HYR HR7 HAR
        refine takeList (i := 16) rfl (by kernel_rfl) (by kernel_rfl) (by kernel_rfl) (fun _ _ _ _ h => h) rfl rfl hC (fun K hK => ?_)
        go_big_quiet_op
        refine hK _ ?_
        clear hK K
        refine takeList (i := 17) rfl (by kernel_rfl) (by kernel_rfl) (by kernel_rfl) (fun _ _ _ _ h => h) rfl rfl hC (fun K hK => ?_)
        go_big_quiet_op
        refine hK _ ?_
        clear hK K
        refine wpAnyH_done (by kernel_rfl) ?_ _
        clear hB hC hne
        go_wp2_with fail
        have hne : Nonempty (NewW w8) := ⟨NewW.start w8⟩
        have hB : Below w8.heap.size w8 w8.drew := (Below.refl _ _).drew
        have hC : ∃ n : NewW w8, w8.drew = n.v := ⟨⟨_, hB⟩, rfl⟩
        refine wp_region_held_drew (S := fun w' => ∃ n : NewW w8, w' = n.v) (by kernel_rfl) hC (fun _ => ?_)
        have HX9 := hidOf (HX8.out.below hB)
        have HR9 : Hid (∀ W, Turn w8.drew W (Ext w4 w5 T) → PAt W ap aps) := fun W hW => HR8.out W ((Turn.of_below hB).trans hW fun x hx => Or.inl hx)
        clear HX8 HR8
        generalize hW1 : w8.drew = W1 at *
        clear hW1
        refine takeList (i := 0) rfl (by kernel_rfl) (by kernel_rfl) (by kernel_rfl) (fun _ _ _ _ h => h) rfl rfl hC (fun K hK => ?_)
        go_big_quiet_op
        refine hK _ ?_
        clear hK K
        refine takeList (i := 1) rfl (by kernel_rfl) (by kernel_rfl) (by kernel_rfl) (fun _ _ _ _ h => h) rfl rfl hC (fun K hK => ?_)
        go_big_quiet_op
        refine hK _ ?_
        clear hK K
        refine takeList (i := 2) rfl (by kernel_rfl) (by kernel_rfl) (by kernel_rfl) (fun _ _ _ _ h => h) rfl rfl hC (fun K hK => ?_)
        go_big_quiet_op
        refine hK _ ?_
        clear hK K
        refine takeList (i := 3) rfl (by kernel_rfl) (by kernel_rfl) (by kernel_rfl) (fun _ _ _ _ h => h) rfl rfl hC (fun K hK => ?_)
        go_big_quiet_op
        refine hK _ ?_
        clear hK K
        refine takeVal (i := 4) (.slice ap j j) rfl (by kernel_rfl) (by kernel_rfl) (by kernel_rfl) (fun _ _ _ _ h => h) rfl hC (fun w' _ => by go_simp; try (intro h; omega)) ?_
        go_simp
        refine takeList (i := 5) rfl (by kernel_rfl) (by kernel_rfl) (by kernel_rfl) (fun _ _ _ _ h => h) rfl rfl hC (fun K hK => ?_)
        go_big_quiet_op
        refine hK _ ?_
        clear hK K
        refine takeList (i := 6) rfl (by kernel_rfl) (by kernel_rfl) (by kernel_rfl) (fun _ _ _ _ h => h) rfl rfl hC (fun K hK => ?_)
        go_big_quiet_op
        refine hK _ ?_
        clear hK K
        refine takeList (i := 7) rfl (by kernel_rfl) (by kernel_rfl) (by kernel_rfl) (fun _ _ _ _ h => h) rfl rfl hC (fun K hK => ?_)
        go_big_quiet_op
        refine hK _ ?_
        clear hK K
        refine takeList (i := 8) rfl (by kernel_rfl) (by kernel_rfl) (by kernel_rfl) (fun _ _ _ _ h => h) rfl rfl hC (fun K hK => ?_)
        go_big_quiet_op
        refine hK _ ?_
        clear hK K
        refine wpAnyH_done (by kernel_rfl) ?_ _
        clear hB hC hne
        go_wp2_with fail
        go_meet
        case rel => exact ⟨g5, _, a, base, recs.take j, n, M, j, lv + 1, ap, aps.take j, j, j, rfl, rfl, rfl, rfl, ⟨HX9.out.weak, fun W hW => (HR9.out W hW).take j, fun y hy => HI1.out.oks y (List.mem_of_mem_take hy), by rw [List.map_take, HI1.out.is], by rw [List.length_take, ← HI1.out.q_]; omega, Nat.le_refl _, Nat.le_trans (by omega) HI1.out.capm, Nat.le_refl _, by have := HI1.out.sn; omega, by have := HI1.out.sM; omega, by have := HI1.out.sa; omega, by have := HI1.out.sl; omega, by have := HI1.out.sq; omega⟩⟩
      case rest =>
        obtain ⟨gl', S', a', base', recs', n', M', k', lv', ap', aps', ac', q', rfl, rfl, rfl, rfl, HI2⟩ := hcut
        have hq2 : q' ≤ 246 := by have := HI2.out.sq; omega
        clear HI1 HXB HNX
        go_wp2_with fail
        refine (lx_base w wc d gl' pn S' a' base' recs' n' M' k' lv' 262144 False HI2.out.lx).mono ?_
        rintro e w4 ⟨⟨bp4, bc4, rfl, hbp⟩, hb4⟩
        have HI4 := hidOf (HI2.out.below hb4)
        have hcv := conv_at hbp rfl
        clear hbp hb4 HI2
        go_wp2_with fail
        refine (lx_all w w4 d gl' pn S' a' base' recs' n' M' k' lv' 262144 False HI4.out.lx (by rw [HI4.out.len]; omega)).mono ?_
        rintro e w5 ⟨⟨zp, zc, rfl, -, hzr⟩, hb5⟩
        have HI5 := hidOf (HI4.out.below hb5)
        have HZR := hidOf hzr.now
        clear hb5 hzr HI4 hcv
        rw [HI5.out.len] at HZR ⊢
        go_wp2_with fail
        refine (same_any _ _ recs' recs' w5 HZR.out HI5.out.rows).mono ?_
        rintro e w6 ⟨he, hb6⟩
        rw [decide_eq_true rfl] at he
        subst he
        have HI6 := hidOf (HI5.out.below hb6)
        clear hb6 HI5 HZR
        go_wp2_with fail
        refine (lx_done w w6 d gl' pn S' a' base' recs' n' M' k' lv' 262144 False HI6.out.lx).mono ?_
        rintro e w7 ⟨rfl, hb7⟩
        have HI7 := hidOf (HI6.out.below hb7)
        clear hb7 HI6
        go_wp2
        go_roundw
        case rel => exact ⟨i + 1, gl', S', a', base', recs', n', M', k', lv', ap', aps', ac', q', rfl, rfl, rfl, rfl, by go_num, by omega, HI7⟩
        case measure => simp [intOf]; omega
    · obtain rfl : i = m := by omega
      go_wp2
      go_ret
      exact ⟨rfl, HI.out.lx.bel⟩
end Go.Proofs.YtnhplbdbgiimkaaGreatDoor
