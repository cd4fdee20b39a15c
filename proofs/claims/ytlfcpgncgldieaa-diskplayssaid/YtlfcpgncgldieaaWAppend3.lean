/-
  disk.Disk: Append, where it is taken: the walk.
-/
import Derived.Test.YtlfcpgncgldieaaWAppend2
import Derived.Deep.RegionLaw
namespace Go.Proofs.Ytlfcpgncgldieaa
open Go.RowKit Go.Lib Go.Maps
open C (upd upd_same upd_other)
set_option linter.unusedVariables false

theorem row_one (w : World) (a b c : Nat) : SrcAt (w.alloc (.cells #[.int .i64 (a : Nat), .int .i64 (b : Nat), .int .i64 (c : Nat)] 60)) 3 (.slice (some ⟨w.heap.size, 0, none⟩) 1 1) 1 [.int .i64 (a : Nat), .int .i64 (b : Nat), .int .i64 (c : Nat)] := by
  refine ⟨_, _, rfl, rfl, (fun e => by cases e), fun ad ha j u hj => ?_⟩
  cases ha
  rw [WideShapes.add_plain, World.cell?_alloc_mark]
  simpa using hj
theorem ptrV_pointer (o : Option Nat) : ∃ q, ptrV o = .pointer q := by cases o <;> exact ⟨_, rfl⟩
set_option maxRecDepth 100000 in
set_option maxHeartbeats 4000000 in
theorem append_ok (w : World) (g : Nat) (S : Nat → Prop) (s : C.St) (f : Nat) (p : Option Addr) (l : List UInt8) (cap : Nat) (h : Disk w g S s) (hx : Part.ok w ⟨p, l, cap⟩) (hr : refE s f = 0) (hu : C.used s.ws + l.length ≤ s.room) (hm : s.made ≤ 1000000) :
    Calls Try.prog 10 #[.pointer (some ⟨g, 0, none⟩), .int .i64 (f : Nat), .slice p l.length cap] w fun e w' => e = .returned (.int .i64 0) ∧ Disk w' g (Ext w w' S) (C.appS s f l) ∧ Turn w w' S := by
  have HC : Hid _ := refusal_at w g S s f 0 h hr
  have h0 := refE_zero hr
  have hf9 : f < 1000 := by omega
  obtain ⟨L, rfl, his, M, hF, hS, hok⟩ := h
  have HOK : Hid _ := C.appS_ok hok hf9 hu
  have HS : Hid (∀ b, S b → b < w.heap.size) := hS
  have c0 := blk_cell M.blk 0
  have c1 := blk_cell M.blk 1
  have c2 := blk_cell M.blk 2
  simp only [Head.cells, headOf, List.getElem?_toArray, List.getElem?_cons_succ, List.getElem?_cons_zero] at c0 c1 c2
  have hroom := hok.room
  have hlook : ∀ n, (Instr.lookup 52 (.map (some L.mb)) (.int .i64 (f : Int)) false).run Try.prog (w.drewN n) = .ok (ptrV (L.at f)) (w.drewN n) := fun n =>
    IMap.look (M.map.same (w' := w.drewN n) rfl) u_map (z_ptr _) (f : Int) (wf_small h0.2.1 (by omega))
  have hst : ∀ (w1 : World), w1.heap[L.mb]? = w.heap[L.mb]? → IMap w1 L.mb s.made L.at := fun w1 h => M.map.same h
  have hwf : (Lit.int .i64 (f : Int)).wf = true := wf_small h0.2.1 (by omega)
  have HX : Hid (Part.ok w ⟨p, l, cap⟩) := hx
  have HM : Hid _ := M
  have HST : Hid _ := hst
  have HLK : Hid _ := hlook
  have hll : l.length ≤ 1048576 := by omega
  have HMB : Hid (L.mb < w.heap.size) := M.map.lt
  clear hx M hst hlook
  generalize hu0 : C.used s.ws = u at *
  have HU0 : Hid _ := hu0
  clear hu0
  obtain ⟨r, hr0⟩ : ∃ r, r = s.room := ⟨_, rfl⟩
  rw [← hr0] at c0 hu hroom
  have hd : ((l.length : Nat) : Int) ≤ (r : Int) - (u : Int) := by omega
  clear hr hS hr0
  obtain ⟨mb, hmb⟩ : ∃ mb, mb = L.mb := ⟨_, rfl⟩
  rw [← hmb] at c2 HLK HST HMB
  have HMBE : Hid _ := hmb
  obtain ⟨gg, hgg⟩ : ∃ gg, gg = L.g := ⟨_, rfl⟩
  rw [← hgg] at c0 c1 c2 HC ⊢
  have HGG : Hid _ := hgg
  clear hmb hgg
  go_enter Try.func10, Try.ntmps10
  go_wp2_with fail
  refine Calls.mono HC.out ?_
  rintro e w1 ⟨rfl, hw⟩
  subst w1
  go_wp2
  go_quiet (fail)
  have hlk := HLK.out nq
  obtain ⟨q, hq⟩ := ptrV_pointer (L.at (f : Int))
  rw [hq] at hlk
  have HQ : Hid _ := hq
  clear hq
  go_upto_if 34 with fail
  go_cut [8] from 9 (fun s8 wc => ∃ cb, s8 = .pointer (some ⟨cb, 0, none⟩) ∧ Mid w gg S s f cb (C.dat s.ws) (C.pof s.ws) wc ∧ Part.ok wc ⟨p, l, cap⟩)
  case first =>
    cases hsf : s.is f with
    | true =>
      have h1 := HQ.out
      rw [Lay.at_some (by omega) (by rw [his]; simpa using hsf)] at h1
      simp only [ptrV, Value.pointer.injEq] at h1
      subst h1
      go_wp2
      go_meet
      case rel =>
        rw [Int.toNat_natCast, HGG.out]
        exact ⟨_, rfl, mid_old his HM.out hF hsf, Part.ok.same HX.out (fun _ _ _ _ _ => rfl)⟩
    | false =>
      have h1 := HQ.out
      rw [Lay.at_none (by rw [his]; simpa using hsf)] at h1
      simp only [ptrV, Value.pointer.injEq] at h1
      subst h1
      have c2a : ∀ ob, ((w.drewN nq).alloc ob).cell? ⟨gg, 2, none⟩ = some (.map (some mb)) := fun ob => by
        have hlt := World.block_lt_of_cell? _ _ c2
        rw [← c2]
        exact World.cell?_of_block (Below.heap_alloc (w.drewN nq) ob gg hlt)
      have HB1 : Hid (Below w.heap.size w ((w.drewN nq).alloc (.cells #[.slice none 0 0, .int .i64 0, .slice none 0 0] 58))) := by
        have hd0 : Below w.heap.size w (w.drewN nq) := ⟨rfl, rfl, rfl, Nat.le_refl _, fun _ _ => rfl⟩
        exact hd0.alloc (Nat.le_refl _) _
      have HMA : Hid (IMap ((w.drewN nq).alloc (.cells #[.slice none 0 0, .int .i64 0, .slice none 0 0] 58)) mb s.made L.at) := HST.out _ (HB1.out.block mb HMB.out)
      have hmx : s.made < maxLen := by unfold maxLen; omega
      go_wp2_with (at_mapUpdate; go_must (refine wpList_store_imap rfl _ _ _ _ _ rfl u_map HMA.out hmx (f : Int) hwf w.heap.size rfl rfl rfl ?_); intro wc hm hg)
      go_meet
      case rel =>
        rw [HGG.out]
        rw [HMBE.out] at hm hg
        refine ⟨_, rfl, mid_new his HM.out hF hok hsf HB1.out ?_ hm hg, ?_⟩
        · exact heap_alloc_new (w.drewN nq) _
        · refine Part.ok.same (Part.ok.below HX.out HB1.out) (grown_cells (HMBE.out ▸ HMA.out) hg)
  case rest =>
    obtain ⟨cb, rfl, ⟨L1, hg1, his1, hc1, M1, hF1, ht1⟩, hxc⟩ := hcut
    have hk1 : L1.is f = true := by rw [his1]; simp
    have hcb := M1.cont f hk1
    rw [hc1] at hcb
    have ho1 := M1.dat f hk1
    obtain ⟨pd, cd, hv1, _⟩ := Own.part ho1
    have hdb : ∀ b, (Value.slice pd (C.dat s.ws f).length cd).ownBlock = some b → b ≠ cb := fun b hb => by rw [← hc1]; exact M1.d_c hk1 hk1 (by rw [hv1]; exact hb)
    have a0 := blk_cell hcb 0
    have af0 := blk_free hcb 0
    simp only [List.getElem?_toArray, List.getElem?_cons_zero] at a0
    have hv2 := hv1
    rw [hv1] at a0 ho1
    have hdl := C.dat_le s.ws f
    rw [HU0.out] at hdl
    have HN : Hid ((C.dat s.ws f).length + l.length ≤ maxLen) := by show _ ≤ _; unfold maxLen; omega
    have HN2 : Hid (((C.dat s.ws f).length + l.length) * 1 ≤ 140737488355328) := by show _ ≤ _; omega
    have HXC : Hid (Part.ok wc ⟨p, l, cap⟩) := hxc
    have HCB : Hid _ := hcb
    have HV : Hid _ := hv2
    have HDB : Hid _ := hdb
    obtain ⟨nd, hnd⟩ : ∃ nd, nd = (C.dat s.ws f).length := ⟨_, rfl⟩
    rw [← hnd] at a0 HV HDB
    have HOW : Hid (wc.ownsRow 0 5 1 (.slice pd nd cd) (C.dat s.ws f).length (bytesV (C.dat s.ws f))) := by rw [hnd]; exact ho1
    have HND : Hid _ := hnd
    clear ho1 hxc hcb hv1 hv2 hdb hdl hnd
    go_upto_region 10 with fail
    go_cut [] from 9 (fun wd => Mid w gg S s f cb (upd (C.dat s.ws) f (C.dat s.ws f ++ l)) (C.pof s.ws) wd)
    case first =>
      go_wp2_with (at_builtin; go_must (refine wpList_append_src Try.underlying28 info_u8 rfl (by decide) rfl _ _ rfl rfl HOW.out rfl (Part.src HXC.out) (one_bytes _) HN.out HN2.out ?_); intro va wa hra hga hla; have hoa := own_of_row hra; obtain ⟨pa, na, ca, rfl, _⟩ := Own.is hoa; have b0 := blk_cell ((hga.block cb (Array.getElem?_eq_some_iff.1 HCB.out).1 (fun e => HDB.out _ e.symm rfl)).trans HCB.out) 0; have bf0 := blk_free ((hga.block cb (Array.getElem?_eq_some_iff.1 HCB.out).1 (fun e => HDB.out _ e.symm rfl)).trans HCB.out) 0; simp only [List.getElem?_toArray, List.getElem?_cons_zero] at b0)
      go_meet
      case rel =>
        refine mid_data hg1 his1 hc1 M1 hF1 ht1 hoa ?_ ?_
        · rw [HV.out]; exact hga
        · rw [HV.out]; exact hla
    case rest =>
      clear HN HN2 HND HDB HV HCB HXC HOW a0 af0 hk1 hF1 ht1 M1 hc1 his1 hg1
      obtain ⟨L2, hg2, his2, hc2, M2, hF2, ht2⟩ := hcut
      have hk2 : L2.is f = true := by rw [his2]; simp
      have hcb2 := M2.cont f hk2
      rw [hc2] at hcb2
      have ho2 := M2.wr f hk2
      obtain ⟨pw, cw, hv2⟩ := OwnW.shape ho2
      have a2 := blk_cell hcb2 2
      have hgb := M2.blk
      rw [hg2] at hgb
      have c3 := blk_cell hgb 3
      simp only [Head.cells, headOf, List.getElem?_toArray, List.getElem?_cons_zero, List.getElem?_cons_succ] at a2 c3
      have hwb : ∀ b, (L2.w f).ownBlock = some b → b ≠ cb ∧ b ≠ gg := fun b hb => by rw [← hc2, ← hg2]; exact ⟨M2.w_c hk2 hk2 hb, M2.w_g hk2 hb⟩
      rw [hv2] at a2 hwb
      obtain ⟨nw, hnw⟩ : ∃ nw, nw = (C.pof s.ws f).length := ⟨_, rfl⟩
      rw [← hnw] at a2 hwb
      have hcl : cb < wc.heap.size := (Array.getElem?_eq_some_iff.1 hcb2).1
      have hgl : gg < wc.heap.size := (Array.getElem?_eq_some_iff.1 hgb).1
      have hpl : (C.pof s.ws f).length ≤ 1000000 := Nat.le_trans (C.pof_le hok f) hm
      have hb1 : Below wc.heap.size wc (wc.drew.alloc (.cells #[.int .i64 (s.made : Nat), .int .i64 (f : Nat), .int .i64 (l.length : Nat)] 60)) := (Below.refl _ wc).drew.alloc (by simp) _
      have HB1 : Hid _ := hb1
      have HOW : Hid ((wc.drew.alloc (.cells #[.int .i64 (s.made : Nat), .int .i64 (f : Nat), .int .i64 (l.length : Nat)] 60)).ownsRow 0 60 3 (.slice pw nw cw) (C.pof s.ws f).length (rowW (C.pof s.ws f))) := by
        rw [hv2] at ho2
        rw [hnw]
        exact row_same ho2 fun b hb => hb1.block b (row_lt ho2 hb)
      have HR1 : Hid (SrcAt (wc.drew.alloc (.cells #[.int .i64 (s.made : Nat), .int .i64 (f : Nat), .int .i64 (l.length : Nat)] 60)) 3 (.slice (some ⟨wc.heap.size, 0, none⟩) 1 1) 1 (rowW [⟨s.made, f, l, false⟩])) := row_one wc.drew _ _ _
      have HN1 : Hid ((C.pof s.ws f).length + 1 ≤ maxLen) := by show _ ≤ _; unfold maxLen; omega
      have HN2 : Hid (((C.pof s.ws f).length + 1) * 24 ≤ 140737488355328) := by show _ ≤ _; omega
      have HV : Hid (L2.w f = .slice pw nw cw) := by rw [hnw]; exact hv2
      have HCB : Hid _ := hcb2
      have HWB : Hid _ := hwb
      have HK : Hid (∀ w', Below wc.heap.size wc w' → w'.cell? ⟨cb, 2, none⟩ = some (.slice pw nw cw) ∧ w'.cell? ⟨gg, 3, none⟩ = some (.int .i64 (s.made : Nat))) := fun w' hb => ⟨(hb.cell (p := ⟨cb, 2, none⟩) hcl).trans a2, (hb.cell (p := ⟨gg, 3, none⟩) hgl).trans c3⟩
      have HW3 : Hid (∀ wb, (wc.drew.alloc (.cells #[.int .i64 (s.made : Nat), .int .i64 (f : Nat), .int .i64 (l.length : Nat)] 60)).grownBy wb (Value.slice pw nw cw).ownBlock → (wb.cell? ⟨cb, 2, none⟩ = some (.slice pw nw cw) ∧ wb.cell? ⟨gg, 3, none⟩ = some (.int .i64 (s.made : Nat))) ∧ wb.frozen? ⟨cb, 2, none⟩ = false) := fun wb hg => by
        have e1 : wb.heap[cb]? = wc.heap[cb]? := (hg.block cb (Nat.lt_of_lt_of_le hcl hb1.size) (fun e => (hwb _ e.symm).1 rfl)).trans (hb1.block cb hcl)
        have e2 : wb.heap[gg]? = wc.heap[gg]? := (hg.block gg (Nat.lt_of_lt_of_le hgl hb1.size) (fun e => (hwb _ e.symm).2 rfl)).trans (hb1.block gg hgl)
        exact ⟨⟨(World.cell?_of_block (a := ⟨cb, 2, none⟩) e1).trans a2, (World.cell?_of_block (a := ⟨gg, 3, none⟩) e2).trans c3⟩, blk_free (e1.trans hcb2) 2⟩
      have a2a : ∀ ob, (wc.alloc ob).cell? ⟨cb, 2, none⟩ = some (.slice pw nw cw) := fun ob => (World.cell?_of_block (a := ⟨cb, 2, none⟩) (Below.heap_alloc wc ob cb hcl)).trans a2
      have c3a : ∀ ob, (wc.alloc ob).cell? ⟨gg, 3, none⟩ = some (.int .i64 (s.made : Nat)) := fun ob => (World.cell?_of_block (a := ⟨gg, 3, none⟩) (Below.heap_alloc wc ob gg hgl)).trans c3
      clear hb1 ho2 hcb2 hv2 hwb hnw hgb hcl hgl hpl
      go_upto_region 11 with fail
      go_cut [] from 9 (fun wd => Mid w gg S s f cb (upd (C.dat s.ws) f (C.dat s.ws f ++ l)) (upd (C.pof s.ws) f (C.pof s.ws f ++ [⟨s.made, f, l, false⟩])) wd)
      case first =>
        go_region_law
          ((refine step_append_src Try.underlying56 info_wr rfl (by decide) (by rfl) _ _ (by rfl) (by rfl) HOW.out (by rfl) HR1.out (rowW_one _) HN1.out HN2.out ?_; intro vb wb hrb hgb hlb; obtain ⟨⟨hS3, hS4⟩, hf3⟩ := HW3.out wb hgb; obtain ⟨pb, nb, cb2, rfl⟩ : ∃ p n c, vb = .slice p n c := by (obtain ⟨p1, c1, e1⟩ := OwnW.shape (ownW_of_row hrb); exact ⟨_, _, _, e1⟩)))
        all_goals
          go_wp2_with fail
          go_meet
          case rel =>
            refine mid_wr hg2 his2 hc2 M2 hF2 ht2 HB1.out (ownW_of_row hrb) ?_ ?_
            · rw [HV.out]; exact hgb
            · rw [HV.out]; exact hlb
      case rest =>
        clear a2a c3a HW3 HK HWB HCB HV HN2 HN1 HR1 HOW HB1 c3 a2 hk2 ht2 hF2 M2 hc2 his2 hg2
        have hE := mid_end (l := l) hcut HS.out HOK.out
        obtain ⟨L3, hg3, his3, hc3, M3, hF3, ht3⟩ := hcut
        have hgb := M3.blk
        rw [hg3] at hgb
        have c3 := blk_cell hgb 3
        have c1' := blk_cell hgb 1
        have f3 := blk_free hgb 3
        have f1 := blk_free hgb 1
        simp only [Head.cells, headOf, List.getElem?_toArray, List.getElem?_cons_zero, List.getElem?_cons_succ] at c3 c1'
        rw [HU0.out] at hE c1'
        have HE : Hid _ := hE
        clear hE hgb M3 hF3 ht3 hc3 his3 hg3
        go_wp2
        go_ret
        exact ⟨rfl, HE.out.1, HE.out.2⟩
end Go.Proofs.Ytlfcpgncgldieaa
