/-
  Several texts in one: WAppend2, WAppend3, LayW.
-/
import Derived.Test.YtnhplbdbgiimkaaGreatDoorZ8
import Derived.Deep.RegionLaw
import Derived.Shelf.SlSortCmp.NoneTotal
import Derived.Shelf.SlicesG.Cmp
import Derived.Test.YtnhplbdbgiimkaaGreatDoorProg
namespace Go.Proofs.YtnhplbdbgiimkaaGreatDoor
open Go.RowKit Go.Lib Go.Maps
open C (upd upd_same upd_other)
set_option linter.unusedVariables false

/-- Behind f.data = append(f.data, b...). -/
theorem mid_data {w wc wa : World} {g cb : Nat} {S : Nat → Prop} {s : C.St} {f : Nat} {da : Nat → List UInt8} {pn : Nat → List C.Wr} {L : Lay} (hg : L.g = g) (his : L.is = (fun k => s.is k || k == f)) (hc : L.c f = cb) (M : DMem wc L (s.made + 1) (headOf s) (C.saf s.ws) da pn) (hF : ∀ b, L.foot b → S b ∨ w.heap.size ≤ b) (ht : Turn w wc S)
    {v : Value} {l : List UInt8} (ho : Own wa 0 v l) (hgr : wc.grownBy wa (L.d f).ownBlock) (hl : v.ownBlock = (L.d f).ownBlock ∨ v.ownBlock = some wc.heap.size) :
    Mid w g S s f cb (upd da f l) pn (wa.setCell ⟨cb, 0, none⟩ v) := by
  subst hc hg
  have hk : L.is f = true := by rw [his]; simp
  have hcb := M.cont f hk
  have hcl : L.c f < wc.heap.size := (Array.getElem?_eq_some_iff.1 hcb).1
  have hca : wa.heap[L.c f]? = wc.heap[L.c f]? := hgr.block _ hcl (fun e => M.d_c hk hk e.symm rfl)
  have l1 : v.ownBlock = (L.d f).ownBlock ∨ ∀ b, v.ownBlock = some b → wc.heap.size ≤ b := hl.imp id (fun e b hb => by rw [e] at hb; cases hb; exact Nat.le_refl _)
  have hne : ∀ b, v.ownBlock = some b → b ≠ L.c f := fun b hb e => by
    rcases l1 with h | h
    · exact M.d_c hk hk (h ▸ hb) e
    · have := h b hb; omega
  refine ⟨L.file f v (L.w f), rfl, his, rfl, ?_, ?_, ?_⟩
  · have := M.file hk v (L.w f) (C.saf s.ws f) l (pn f) (w' := wa.setCell ⟨L.c f, 0, none⟩ v) (fun b hb h1 h2 h3 => by
      rw [set_other h1]; exact hgr.block b (M.foot_lt hb) (fun e => h2 e.symm))
      (by rw [set_block (hca.trans hcb)]; simp) (ho.same fun b hb => set_other (hne b hb))
      (row_same (M.wr f hk) fun b hb => by
        rw [set_other (M.w_c hk hk hb)]; exact hgr.block b (row_lt (M.wr f hk) hb) (fun e => M.w_d hk hk hb e.symm rfl)) l1 (Or.inl rfl)
    refine this.congr (fun k _ => ?_) (fun k _ => rfl) (fun k _ => ?_)
    all_goals
      by_cases e : k = f
      · subst e; rw [upd_same]
      · rw [upd_other _ _ e]
  · intro b hb
    rcases Lay.file_foot hk l1 (Or.inl rfl) b hb with h | h
    · exact hF b h
    · exact Or.inr (Nat.le_trans ht.size h)
  · have t1 : Turn wc (wa.setCell ⟨L.c f, 0, none⟩ v) (fun b => L.foot b) :=
      (Turn.of_grown hgr (fun b e => Or.inr (Or.inr ⟨f, hk, Or.inr (Or.inl e)⟩))).setCell (Or.inr (Or.inr ⟨f, hk, Or.inl rfl⟩)) _
    exact ht.trans t1 hF
/-- Behind f.writes = append(f.writes, write{..}). -/
theorem mid_wr {w wc wa : World} {g cb : Nat} {S : Nat → Prop} {s : C.St} {f : Nat} {da : Nat → List UInt8} {pn : Nat → List C.Wr} {L : Lay} (hg : L.g = g) (his : L.is = (fun k => s.is k || k == f)) (hc : L.c f = cb) (M : DMem wc L (s.made + 1) (headOf s) (C.saf s.ws) da pn) (hF : ∀ b, L.foot b → S b ∨ w.heap.size ≤ b) (ht : Turn w wc S)
    {w1 : World} (hb1 : Below wc.heap.size wc w1) {v : Value} {l : List C.Wr} (ho : OwnW wa v l) (hgr : w1.grownBy wa (L.w f).ownBlock) (hl : v.ownBlock = (L.w f).ownBlock ∨ v.ownBlock = some w1.heap.size) :
    Mid w g S s f cb da (upd pn f l) (wa.setCell ⟨cb, 2, none⟩ v) := by
  subst hc hg
  have hk : L.is f = true := by rw [his]; simp
  have hcb := M.cont f hk
  have hcl : L.c f < wc.heap.size := (Array.getElem?_eq_some_iff.1 hcb).1
  have hold : ∀ b, b < wc.heap.size → (L.w f).ownBlock ≠ some b → wa.heap[b]? = wc.heap[b]? := fun b hb hn => (hgr.block b (Nat.lt_of_lt_of_le hb hb1.size) (fun e => hn e.symm)).trans (hb1.block b hb)
  have hca : wa.heap[L.c f]? = wc.heap[L.c f]? := hold _ hcl (fun e => M.w_c hk hk e rfl)
  have l1 : v.ownBlock = (L.w f).ownBlock ∨ ∀ b, v.ownBlock = some b → wc.heap.size ≤ b := hl.imp id (fun e b hb => by rw [e] at hb; cases hb; exact hb1.size)
  have hne : ∀ b, v.ownBlock = some b → b ≠ L.c f := fun b hb e => by
    rcases l1 with h | h
    · exact M.w_c hk hk (h ▸ hb) e
    · have := h b hb; omega
  refine ⟨L.file f (L.d f) v, rfl, his, rfl, ?_, ?_, ?_⟩
  · have := M.file hk (L.d f) v (C.saf s.ws f) (da f) l (w' := wa.setCell ⟨L.c f, 2, none⟩ v) (fun b hb h1 h2 h3 => by
      rw [set_other h1]; exact hold b (M.foot_lt hb) h3)
      (by rw [set_block (hca.trans hcb)]; simp)
      (row_same (M.dat f hk) fun b hb => by
        rw [set_other (M.d_c hk hk hb)]; exact hold b (row_lt (M.dat f hk) hb) (fun e => M.w_d hk hk e hb rfl))
      (row_same ho fun b hb => set_other (hne b hb)) (Or.inl rfl) l1
    refine this.congr (fun k _ => ?_) (fun k _ => ?_) (fun k _ => rfl)
    all_goals
      by_cases e : k = f
      · subst e; rw [upd_same]
      · rw [upd_other _ _ e]
  · intro b hb
    rcases Lay.file_foot hk (Or.inl rfl) l1 b hb with h | h
    · exact hF b h
    · exact Or.inr (Nat.le_trans ht.size h)
  · have t1 : Turn wc (wa.setCell ⟨L.c f, 2, none⟩ v) (fun b => L.foot b) := by
      refine Turn.setCell ?_ (Or.inr (Or.inr ⟨f, hk, Or.inl rfl⟩)) _
      refine Turn.trans (Turn.of_below hb1) (Turn.of_grown (S := fun b => (L.w f).ownBlock = some b) hgr (fun b e => e)) (fun x hx => Or.inl (Or.inr (Or.inr ⟨f, hk, Or.inr (Or.inr hx)⟩)))
    exact ht.trans t1 hF
/-- Behind made and used. -/
theorem mid_end {w wc : World} {g cb : Nat} {S : Nat → Prop} {s : C.St} {f : Nat} {l : List UInt8} (h : Mid w g S s f cb (upd (C.dat s.ws) f (C.dat s.ws f ++ l)) (upd (C.pof s.ws) f (C.pof s.ws f ++ [⟨s.made, f, l, false⟩])) wc) (hS : ∀ b, S b → b < w.heap.size) (hok : (C.appS s f l).Ok) :
    Disk ((wc.setCell ⟨g, 3, none⟩ (.int .i64 ((s.made : Nat) + 1))).setCell ⟨g, 1, none⟩ (.int .i64 ((C.used s.ws : Nat) + (l.length : Nat)))) g (Ext w ((wc.setCell ⟨g, 3, none⟩ (.int .i64 ((s.made : Nat) + 1))).setCell ⟨g, 1, none⟩ (.int .i64 ((C.used s.ws : Nat) + (l.length : Nat)))) S) (C.appS s f l) ∧
      Turn w ((wc.setCell ⟨g, 3, none⟩ (.int .i64 ((s.made : Nat) + 1))).setCell ⟨g, 1, none⟩ (.int .i64 ((C.used s.ws : Nat) + (l.length : Nat)))) S := by
  obtain ⟨L, rfl, his, hc, M, hF, ht⟩ := h
  have ht2 : Turn w ((wc.setCell ⟨L.g, 3, none⟩ (.int .i64 ((s.made : Nat) + 1))).setCell ⟨L.g, 1, none⟩ (.int .i64 ((C.used s.ws : Nat) + (l.length : Nat)))) S :=
    ht.trans (((Turn.refl wc (fun b => L.foot b)).setCell (Or.inl rfl) _).setCell (Or.inl rfl) _) hF
  refine ⟨⟨L, rfl, his, ?_, ?_, ?_, hok⟩, ht2⟩
  · have M' := M.head (headOf (C.appS s f l)) (w' := (wc.setCell ⟨L.g, 3, none⟩ (.int .i64 ((s.made : Nat) + 1))).setCell ⟨L.g, 1, none⟩ (.int .i64 ((C.used s.ws : Nat) + (l.length : Nat)))) (by
      rw [set_block (set_block M.blk)]
      simp [Head.cells, headOf, C.appS, C.used_append, C.used]) (fun b _ hne => by rw [set_other hne, set_other hne])
    refine M'.congr (fun k _ => ?_) (fun k _ => ?_) (fun k _ => ?_)
    · simp [C.appS, C.saf_append, C.saf]
    · by_cases e : k = f
      · subst e; rw [upd_same]; simp [C.appS, C.dat_append, C.dat]
      · rw [upd_other _ _ e]; simp [C.appS, C.dat_append, C.dat, Ne.symm e]
    · by_cases e : k = f
      · subst e; rw [upd_same]; simp [C.appS, C.pof]
      · rw [upd_other _ _ e]
        have : (f == k) = false := by simpa using Ne.symm e
        simp [C.appS, C.pof, this]
  · intro b hb
    rcases hF b hb with h | h
    · exact Or.inl h
    · refine Or.inr ⟨h, ?_⟩
      have := M.foot_lt hb
      simpa [World.setCell] using this
  · intro b hb
    rcases hb with h | h
    · exact Nat.lt_of_lt_of_le (hS b h) ht2.size
    · exact h.2
end Go.Proofs.YtnhplbdbgiimkaaGreatDoor

namespace Go.Proofs.YtnhplbdbgiimkaaGreatDoor
open Go.RowKit Go.Lib Go.Maps
open C (upd upd_same upd_other)
set_option linter.unusedVariables false

theorem row_one (w : World) (a b c : Nat) : SrcAt (w.alloc (.cells #[.int .i64 (a : Nat), .int .i64 (b : Nat), .int .i64 (c : Nat)] 81)) 3 (.slice (some ⟨w.heap.size, 0, none⟩) 1 1) 1 [.int .i64 (a : Nat), .int .i64 (b : Nat), .int .i64 (c : Nat)] := by
  refine ⟨_, _, rfl, rfl, (fun e => by cases e), fun ad ha j u hj => ?_⟩
  cases ha
  rw [WideShapes.add_plain, World.cell?_alloc_mark]
  simpa using hj
theorem ptrV_pointer (o : Option Nat) : ∃ q, ptrV o = .pointer q := by cases o <;> exact ⟨_, rfl⟩
set_option maxRecDepth 100000 in
set_option maxHeartbeats 4000000 in
theorem append_ok (w : World) (g : Nat) (S : Nat → Prop) (s : C.St) (f : Nat) (p : Option Addr) (l : List UInt8) (cap : Nat) (h : Disk w g S s) (hx : Part.ok w ⟨p, l, cap⟩) (hr : refE s f = 0) (hu : C.used s.ws + l.length ≤ s.room) (hm : s.made ≤ 1000000) :
    Calls Tryz.prog 39 #[.pointer (some ⟨g, 0, none⟩), .int .i64 (f : Nat), .slice p l.length cap] w fun e w' => e = .returned (.int .i64 0) ∧ Disk w' g (Ext w w' S) (C.appS s f l) ∧ Turn w w' S := by
  have HC : Hid _ := refusal_at w g S s f 0 h hr
  have h0 := refE_zero hr
  have hf9 : f < 1000 := by omega
  obtain ⟨L, rfl, his, M, hF, hS, hok⟩ := h
  have HOK : Hid _ := C.appS_ok hok hf9 hu
  have HS : Hid (∀ b, S b → b < w.heap.size) := hS
  have c0 := blk_cell M.blk 0
  have c1 := blk_cell M.blk 1
  have c2 := blk_cell M.blk 2
  simp only [Head.cells, headOf, List.getElem?_toArray, List.getElem?_cons_succ, List.getElem?_cons_zero] at c0 c1 c2
  have hroom := hok.room
  have hlook : ∀ n, (Instr.lookup 53 (.map (some L.mb)) (.int .i64 (f : Int)) false).run Tryz.prog (w.drewN n) = .ok (ptrV (L.at f)) (w.drewN n) := fun n =>
    IMap.look (M.map.same (w' := w.drewN n) rfl) u_map (z_ptr _) (f : Int) (wf_small h0.2.1 (by omega))
  have hst : ∀ (w1 : World), w1.heap[L.mb]? = w.heap[L.mb]? → IMap w1 L.mb s.made L.at := fun w1 h => M.map.same h
  have hwf : (Lit.int .i64 (f : Int)).wf = true := wf_small h0.2.1 (by omega)
  have HX : Hid (Part.ok w ⟨p, l, cap⟩) := hx
  have HM : Hid _ := M
  have HST : Hid _ := hst
  have HLK : Hid _ := hlook
  have hll : l.length ≤ 1048576 := by omega
  have HMB : Hid (L.mb < w.heap.size) := M.map.lt
  clear hx M hst hlook
  generalize hu0 : C.used s.ws = u at *
  have HU0 : Hid _ := hu0
  clear hu0
  obtain ⟨r, hr0⟩ : ∃ r, r = s.room := ⟨_, rfl⟩
  rw [← hr0] at c0 hu hroom
  have hd : ((l.length : Nat) : Int) ≤ (r : Int) - (u : Int) := by omega
  clear hr hS hr0
  obtain ⟨mb, hmb⟩ : ∃ mb, mb = L.mb := ⟨_, rfl⟩
  rw [← hmb] at c2 HLK HST HMB
  have HMBE : Hid _ := hmb
  obtain ⟨gg, hgg⟩ : ∃ gg, gg = L.g := ⟨_, rfl⟩
  rw [← hgg] at c0 c1 c2 HC ⊢
  have HGG : Hid _ := hgg
  clear hmb hgg
  go_enter Tryz.func39, Tryz.ntmps39
  go_wp2_with fail
  refine Calls.mono HC.out ?_
  rintro e w1 ⟨rfl, hw⟩
  subst w1
  go_wp2
  go_quiet (fail)
  have hlk := HLK.out nq
  obtain ⟨q, hq⟩ := ptrV_pointer (L.at (f : Int))
  rw [hq] at hlk
  have HQ : Hid _ := hq
  clear hq
  go_upto_if 34 with fail
  go_cut [8] from 9 (fun s8 wc => ∃ cb, s8 = .pointer (some ⟨cb, 0, none⟩) ∧ Mid w gg S s f cb (C.dat s.ws) (C.pof s.ws) wc ∧ Part.ok wc ⟨p, l, cap⟩)
  case first =>
    cases hsf : s.is f with
    | true =>
      have h1 := HQ.out
      rw [Lay.at_some (by omega) (by rw [his]; simpa using hsf)] at h1
      simp only [ptrV, Value.pointer.injEq] at h1
      subst h1
      go_wp2
      go_meet
      case rel =>
        rw [Int.toNat_natCast, HGG.out]
        exact ⟨_, rfl, mid_old his HM.out hF hsf, Part.ok.same HX.out (fun _ _ _ _ _ => rfl)⟩
    | false =>
      have h1 := HQ.out
      rw [Lay.at_none (by rw [his]; simpa using hsf)] at h1
      simp only [ptrV, Value.pointer.injEq] at h1
      subst h1
      have c2a : ∀ ob, ((w.drewN nq).alloc ob).cell? ⟨gg, 2, none⟩ = some (.map (some mb)) := fun ob => by
        have hlt := World.block_lt_of_cell? _ _ c2
        rw [← c2]
        exact World.cell?_of_block (Below.heap_alloc (w.drewN nq) ob gg hlt)
      have HB1 : Hid (Below w.heap.size w ((w.drewN nq).alloc (.cells #[.slice none 0 0, .int .i64 0, .slice none 0 0] 83))) := by
        have hd0 : Below w.heap.size w (w.drewN nq) := ⟨rfl, rfl, rfl, Nat.le_refl _, fun _ _ => rfl⟩
        exact hd0.alloc (Nat.le_refl _) _
      have HMA : Hid (IMap ((w.drewN nq).alloc (.cells #[.slice none 0 0, .int .i64 0, .slice none 0 0] 83)) mb s.made L.at) := HST.out _ (HB1.out.block mb HMB.out)
      have hmx : s.made < maxLen := by unfold maxLen; omega
      go_wp2_with (at_mapUpdate; go_must (refine wpList_store_imap rfl _ _ _ _ _ rfl u_map HMA.out hmx (f : Int) hwf w.heap.size rfl rfl rfl ?_); intro wc hm hg)
      go_meet
      case rel =>
        rw [HGG.out]
        rw [HMBE.out] at hm hg
        refine ⟨_, rfl, mid_new his HM.out hF hok hsf HB1.out ?_ hm hg, ?_⟩
        · exact heap_alloc_new (w.drewN nq) _
        · refine Part.ok.same (Part.ok.below HX.out HB1.out) (grown_cells (HMBE.out ▸ HMA.out) hg)
  case rest =>
    obtain ⟨cb, rfl, ⟨L1, hg1, his1, hc1, M1, hF1, ht1⟩, hxc⟩ := hcut
    have hk1 : L1.is f = true := by rw [his1]; simp
    have hcb := M1.cont f hk1
    rw [hc1] at hcb
    have ho1 := M1.dat f hk1
    obtain ⟨pd, cd, hv1, _⟩ := Own.part ho1
    have hdb : ∀ b, (Value.slice pd (C.dat s.ws f).length cd).ownBlock = some b → b ≠ cb := fun b hb => by rw [← hc1]; exact M1.d_c hk1 hk1 (by rw [hv1]; exact hb)
    have a0 := blk_cell hcb 0
    have af0 := blk_free hcb 0
    simp only [List.getElem?_toArray, List.getElem?_cons_zero] at a0
    have hv2 := hv1
    rw [hv1] at a0 ho1
    have hdl := C.dat_le s.ws f
    rw [HU0.out] at hdl
    have HN : Hid ((C.dat s.ws f).length + l.length ≤ maxLen) := by show _ ≤ _; unfold maxLen; omega
    have HN2 : Hid (((C.dat s.ws f).length + l.length) * 1 ≤ 140737488355328) := by show _ ≤ _; omega
    have HXC : Hid (Part.ok wc ⟨p, l, cap⟩) := hxc
    have HCB : Hid _ := hcb
    have HV : Hid _ := hv2
    have HDB : Hid _ := hdb
    obtain ⟨nd, hnd⟩ : ∃ nd, nd = (C.dat s.ws f).length := ⟨_, rfl⟩
    rw [← hnd] at a0 HV HDB
    have HOW : Hid (wc.ownsRow 0 5 1 (.slice pd nd cd) (C.dat s.ws f).length (bytesV (C.dat s.ws f))) := by rw [hnd]; exact ho1
    have HND : Hid _ := hnd
    clear ho1 hxc hcb hv1 hv2 hdb hdl hnd
    go_upto_region 10 with fail
    go_cut [] from 9 (fun wd => Mid w gg S s f cb (upd (C.dat s.ws) f (C.dat s.ws f ++ l)) (C.pof s.ws) wd)
    case first =>
      go_wp2_with (at_builtin; go_must (refine wpList_append_src Tryz.underlying31 info_u8 rfl (by decide) rfl _ _ rfl rfl HOW.out rfl (Part.src HXC.out) (one_bytes _) HN.out HN2.out ?_); intro va wa hra hga hla; have hoa := own_of_row hra; obtain ⟨pa, na, ca, rfl, _⟩ := Own.is hoa; have b0 := blk_cell ((hga.block cb (Array.getElem?_eq_some_iff.1 HCB.out).1 (fun e => HDB.out _ e.symm rfl)).trans HCB.out) 0; have bf0 := blk_free ((hga.block cb (Array.getElem?_eq_some_iff.1 HCB.out).1 (fun e => HDB.out _ e.symm rfl)).trans HCB.out) 0; simp only [List.getElem?_toArray, List.getElem?_cons_zero] at b0)
      go_meet
      case rel =>
        refine mid_data hg1 his1 hc1 M1 hF1 ht1 hoa ?_ ?_
        · rw [HV.out]; exact hga
        · rw [HV.out]; exact hla
    case rest =>
      clear HN HN2 HND HDB HV HCB HXC HOW a0 af0 hk1 hF1 ht1 M1 hc1 his1 hg1
      obtain ⟨L2, hg2, his2, hc2, M2, hF2, ht2⟩ := hcut
      have hk2 : L2.is f = true := by rw [his2]; simp
      have hcb2 := M2.cont f hk2
      rw [hc2] at hcb2
      have ho2 := M2.wr f hk2
      obtain ⟨pw, cw, hv2⟩ := OwnW.shape ho2
      have a2 := blk_cell hcb2 2
      have hgb := M2.blk
      rw [hg2] at hgb
      have c3 := blk_cell hgb 3
      simp only [Head.cells, headOf, List.getElem?_toArray, List.getElem?_cons_zero, List.getElem?_cons_succ] at a2 c3
      have hwb : ∀ b, (L2.w f).ownBlock = some b → b ≠ cb ∧ b ≠ gg := fun b hb => by rw [← hc2, ← hg2]; exact ⟨M2.w_c hk2 hk2 hb, M2.w_g hk2 hb⟩
      rw [hv2] at a2 hwb
      obtain ⟨nw, hnw⟩ : ∃ nw, nw = (C.pof s.ws f).length := ⟨_, rfl⟩
      rw [← hnw] at a2 hwb
      have hcl : cb < wc.heap.size := (Array.getElem?_eq_some_iff.1 hcb2).1
      have hgl : gg < wc.heap.size := (Array.getElem?_eq_some_iff.1 hgb).1
      have hpl : (C.pof s.ws f).length ≤ 1000000 := Nat.le_trans (C.pof_le hok f) hm
      have hb1 : Below wc.heap.size wc (wc.drew.alloc (.cells #[.int .i64 (s.made : Nat), .int .i64 (f : Nat), .int .i64 (l.length : Nat)] 81)) := (Below.refl _ wc).drew.alloc (by simp) _
      have HB1 : Hid _ := hb1
      have HOW : Hid ((wc.drew.alloc (.cells #[.int .i64 (s.made : Nat), .int .i64 (f : Nat), .int .i64 (l.length : Nat)] 81)).ownsRow 0 81 3 (.slice pw nw cw) (C.pof s.ws f).length (rowW (C.pof s.ws f))) := by
        rw [hv2] at ho2
        rw [hnw]
        exact row_same ho2 fun b hb => hb1.block b (row_lt ho2 hb)
      have HR1 : Hid (SrcAt (wc.drew.alloc (.cells #[.int .i64 (s.made : Nat), .int .i64 (f : Nat), .int .i64 (l.length : Nat)] 81)) 3 (.slice (some ⟨wc.heap.size, 0, none⟩) 1 1) 1 (rowW [⟨s.made, f, l, false⟩])) := row_one wc.drew _ _ _
      have HN1 : Hid ((C.pof s.ws f).length + 1 ≤ maxLen) := by show _ ≤ _; unfold maxLen; omega
      have HN2 : Hid (((C.pof s.ws f).length + 1) * 24 ≤ 140737488355328) := by show _ ≤ _; omega
      have HV : Hid (L2.w f = .slice pw nw cw) := by rw [hnw]; exact hv2
      have HCB : Hid _ := hcb2
      have HWB : Hid _ := hwb
      have HK : Hid (∀ w', Below wc.heap.size wc w' → w'.cell? ⟨cb, 2, none⟩ = some (.slice pw nw cw) ∧ w'.cell? ⟨gg, 3, none⟩ = some (.int .i64 (s.made : Nat))) := fun w' hb => ⟨(hb.cell (p := ⟨cb, 2, none⟩) hcl).trans a2, (hb.cell (p := ⟨gg, 3, none⟩) hgl).trans c3⟩
      have HW3 : Hid (∀ wb, (wc.drew.alloc (.cells #[.int .i64 (s.made : Nat), .int .i64 (f : Nat), .int .i64 (l.length : Nat)] 81)).grownBy wb (Value.slice pw nw cw).ownBlock → (wb.cell? ⟨cb, 2, none⟩ = some (.slice pw nw cw) ∧ wb.cell? ⟨gg, 3, none⟩ = some (.int .i64 (s.made : Nat))) ∧ wb.frozen? ⟨cb, 2, none⟩ = false) := fun wb hg => by
        have e1 : wb.heap[cb]? = wc.heap[cb]? := (hg.block cb (Nat.lt_of_lt_of_le hcl hb1.size) (fun e => (hwb _ e.symm).1 rfl)).trans (hb1.block cb hcl)
        have e2 : wb.heap[gg]? = wc.heap[gg]? := (hg.block gg (Nat.lt_of_lt_of_le hgl hb1.size) (fun e => (hwb _ e.symm).2 rfl)).trans (hb1.block gg hgl)
        exact ⟨⟨(World.cell?_of_block (a := ⟨cb, 2, none⟩) e1).trans a2, (World.cell?_of_block (a := ⟨gg, 3, none⟩) e2).trans c3⟩, blk_free (e1.trans hcb2) 2⟩
      have a2a : ∀ ob, (wc.alloc ob).cell? ⟨cb, 2, none⟩ = some (.slice pw nw cw) := fun ob => (World.cell?_of_block (a := ⟨cb, 2, none⟩) (Below.heap_alloc wc ob cb hcl)).trans a2
      have c3a : ∀ ob, (wc.alloc ob).cell? ⟨gg, 3, none⟩ = some (.int .i64 (s.made : Nat)) := fun ob => (World.cell?_of_block (a := ⟨gg, 3, none⟩) (Below.heap_alloc wc ob gg hgl)).trans c3
      clear hb1 ho2 hcb2 hv2 hwb hnw hgb hcl hgl hpl
      go_upto_region 11 with fail
      go_cut [] from 9 (fun wd => Mid w gg S s f cb (upd (C.dat s.ws) f (C.dat s.ws f ++ l)) (upd (C.pof s.ws) f (C.pof s.ws f ++ [⟨s.made, f, l, false⟩])) wd)
      case first =>
        go_region_law
          ((refine step_append_src Tryz.underlying78 info_wr rfl (by decide) (by rfl) _ _ (by rfl) (by rfl) HOW.out (by rfl) HR1.out (rowW_one _) HN1.out HN2.out ?_; intro vb wb hrb hgb hlb; obtain ⟨⟨hS3, hS4⟩, hf3⟩ := HW3.out wb hgb; obtain ⟨pb, nb, cb2, rfl⟩ : ∃ p n c, vb = .slice p n c := by (obtain ⟨p1, c1, e1⟩ := OwnW.shape (ownW_of_row hrb); exact ⟨_, _, _, e1⟩)))
        all_goals
          go_wp2_with fail
          go_meet
          case rel =>
            refine mid_wr hg2 his2 hc2 M2 hF2 ht2 HB1.out (ownW_of_row hrb) ?_ ?_
            · rw [HV.out]; exact hgb
            · rw [HV.out]; exact hlb
      case rest =>
        clear a2a c3a HW3 HK HWB HCB HV HN2 HN1 HR1 HOW HB1 c3 a2 hk2 ht2 hF2 M2 hc2 his2 hg2
        have hE := mid_end (l := l) hcut HS.out HOK.out
        obtain ⟨L3, hg3, his3, hc3, M3, hF3, ht3⟩ := hcut
        have hgb := M3.blk
        rw [hg3] at hgb
        have c3 := blk_cell hgb 3
        have c1' := blk_cell hgb 1
        have f3 := blk_free hgb 3
        have f1 := blk_free hgb 1
        simp only [Head.cells, headOf, List.getElem?_toArray, List.getElem?_cons_zero, List.getElem?_cons_succ] at c3 c1'
        rw [HU0.out] at hE c1'
        have HE : Hid _ := hE
        clear hE hgb M3 hF3 ht3 hc3 his3 hg3
        go_wp2
        go_ret
        exact ⟨rfl, HE.out.1, HE.out.2⟩
end Go.Proofs.YtnhplbdbgiimkaaGreatDoor

namespace Go.Proofs
open Go.Shelf
def Tryz.sortW_ren : Go.Shelf.Ren := ⟨fun | 6 => 62 | 15 => 70 | 14 => 76 | 28 => 89 | 29 => 90 | 20 => 93 | 21 => 94 | 22 => 95 | 23 => 96 | 24 => 97 | 25 => 98 | 26 => 99 | 27 => 100 | 46 => 117 | 47 => 113 | 48 => 114 | 49 => 118 | 50 => 119 | 57 => 125 | n => n, fun | 22 => 78 | 24 => 81 | 25 => 106 | 3 => 3 | 39 => 116 | 0 => 0 | 53 => 119 | 55 => 139 | 4 => 4 | 46 => 131 | 45 => 130 | 50 => 135 | 5 => 5 | 9 => 9 | 66 => 156 | 70 => 160 | 76 => 168 | 77 => 74 | n => n, fun | n => n⟩
theorem Tryz.sortW : Go.Proofs.SlLaysF0.n6 Tryz.prog Tryz.sortW_ren := {
  mixed := by kernel_rfl
  f6 := ⟨Tryz.f62.name, by decide, Tryz.func62.trans (congrArg some (by kernel_rfl))⟩
  f14 := ⟨Tryz.f76.name, by decide, Tryz.func76.trans (congrArg some (by kernel_rfl))⟩
  f15 := Tryz.func70.trans (congrArg some (by kernel_rfl))
  f20 := ⟨Tryz.f93.name, by decide, Tryz.func93.trans (congrArg some (by kernel_rfl))⟩
  f21 := ⟨Tryz.f94.name, by decide, Tryz.func94.trans (congrArg some (by kernel_rfl))⟩
  f22 := ⟨Tryz.f95.name, by decide, Tryz.func95.trans (congrArg some (by kernel_rfl))⟩
  f23 := ⟨Tryz.f96.name, by decide, Tryz.func96.trans (congrArg some (by kernel_rfl))⟩
  f24 := ⟨Tryz.f97.name, by decide, Tryz.func97.trans (congrArg some (by kernel_rfl))⟩
  f25 := ⟨Tryz.f98.name, by decide, Tryz.func98.trans (congrArg some (by kernel_rfl))⟩
  f26 := ⟨Tryz.f99.name, by decide, Tryz.func99.trans (congrArg some (by kernel_rfl))⟩
  f27 := ⟨Tryz.f100.name, by decide, Tryz.func100.trans (congrArg some (by kernel_rfl))⟩
  f28 := Tryz.func89.trans (congrArg some (by kernel_rfl))
  f29 := Tryz.func90.trans (congrArg some (by kernel_rfl))
  f46 := ⟨Tryz.f117.name, by decide, Tryz.func117.trans (congrArg some (by kernel_rfl))⟩
  f47 := Tryz.func113.trans (congrArg some (by kernel_rfl))
  f48 := Tryz.func114.trans (congrArg some (by kernel_rfl))
  f49 := ⟨Tryz.f118.name, by decide, Tryz.func118.trans (congrArg some (by kernel_rfl))⟩
  f50 := ⟨Tryz.f119.name, by decide, Tryz.func119.trans (congrArg some (by kernel_rfl))⟩
  f57 := ⟨Tryz.f125.name, by decide, Tryz.func125.trans (congrArg some (by kernel_rfl))⟩
  t0 := Tryz.underlying0
  a0 := Tryz.isAgg0
  z0 := Tryz.sizeOf0
  v0 := Tryz.zeroValue0
  t3 := Tryz.underlying3
  a3 := Tryz.isAgg3
  z3 := Tryz.sizeOf3
  v3 := Tryz.zeroValue3
  t4 := Tryz.underlying4
  a4 := Tryz.isAgg4
  z4 := Tryz.sizeOf4
  v4 := Tryz.zeroValue4
  t5 := Tryz.underlying5
  a5 := Tryz.isAgg5
  z5 := Tryz.sizeOf5
  v5 := Tryz.zeroValue5
  t9 := Tryz.underlying9
  a9 := Tryz.isAgg9
  z9 := Tryz.sizeOf9
  v9 := Tryz.zeroValue9
  t22 := Tryz.underlying78
  a22 := Tryz.isAgg78
  z22 := Tryz.sizeOf78
  v22 := Tryz.zeroValue78
  t25 := Tryz.underlying106
  a25 := Tryz.isAgg106
  z25 := Tryz.sizeOf106
  v25 := Tryz.zeroValue106
  t39 := Tryz.underlying116
  a39 := Tryz.isAgg116
  z39 := Tryz.sizeOf116
  v39 := Tryz.zeroValue116
  t45 := Tryz.underlying130
  a45 := Tryz.isAgg130
  z45 := Tryz.sizeOf130
  v45 := Tryz.zeroValue130
  t46 := Tryz.underlying131
  a46 := Tryz.isAgg131
  z46 := Tryz.sizeOf131
  v46 := Tryz.zeroValue131
  t50 := Tryz.underlying135
  a50 := Tryz.isAgg135
  z50 := Tryz.sizeOf135
  v50 := Tryz.zeroValue135
  t53 := Tryz.underlying119
  a53 := Tryz.isAgg119
  z53 := Tryz.sizeOf119
  v53 := Tryz.zeroValue119
  t55 := Tryz.underlying139
  a55 := Tryz.isAgg139
  z55 := Tryz.sizeOf139
  v55 := Tryz.zeroValue139
  t66 := Tryz.underlying156
  a66 := Tryz.isAgg156
  z66 := Tryz.sizeOf156
  v66 := Tryz.zeroValue156
  t70 := Tryz.underlying160
  a70 := Tryz.isAgg160
  z70 := Tryz.sizeOf160
  v70 := Tryz.zeroValue160
  t76 := Tryz.underlying168
  a76 := Tryz.isAgg168
  z76 := Tryz.sizeOf168
  v76 := Tryz.zeroValue168
  t77 := Tryz.underlying74
  a77 := Tryz.isAgg74
  z77 := Tryz.sizeOf74
  v77 := Tryz.zeroValue74 }
def Tryz.sortP_ren : Go.Shelf.Ren := ⟨fun | 6 => 49 | 15 => 70 | 14 => 69 | 28 => 89 | 29 => 90 | 20 => 81 | 21 => 82 | 22 => 83 | 23 => 84 | 24 => 85 | 25 => 86 | 26 => 87 | 27 => 88 | 46 => 112 | 47 => 113 | 48 => 114 | 49 => 115 | 50 => 116 | 57 => 124 | n => n, fun | 22 => 56 | 24 => 66 | 25 => 98 | 3 => 3 | 39 => 116 | 0 => 0 | 53 => 119 | 55 => 139 | 4 => 4 | 46 => 131 | 45 => 130 | 50 => 135 | 5 => 5 | 9 => 9 | 66 => 156 | 70 => 160 | 76 => 168 | 77 => 74 | n => n, fun | n => n⟩
theorem Tryz.sortP : Go.Proofs.SlLaysF0.n6 Tryz.prog Tryz.sortP_ren := {
  mixed := by kernel_rfl
  f6 := ⟨Tryz.f49.name, by decide, Tryz.func49.trans (congrArg some (by kernel_rfl))⟩
  f14 := ⟨Tryz.f69.name, by decide, Tryz.func69.trans (congrArg some (by kernel_rfl))⟩
  f15 := Tryz.func70.trans (congrArg some (by kernel_rfl))
  f20 := ⟨Tryz.f81.name, by decide, Tryz.func81.trans (congrArg some (by kernel_rfl))⟩
  f21 := ⟨Tryz.f82.name, by decide, Tryz.func82.trans (congrArg some (by kernel_rfl))⟩
  f22 := ⟨Tryz.f83.name, by decide, Tryz.func83.trans (congrArg some (by kernel_rfl))⟩
  f23 := ⟨Tryz.f84.name, by decide, Tryz.func84.trans (congrArg some (by kernel_rfl))⟩
  f24 := ⟨Tryz.f85.name, by decide, Tryz.func85.trans (congrArg some (by kernel_rfl))⟩
  f25 := ⟨Tryz.f86.name, by decide, Tryz.func86.trans (congrArg some (by kernel_rfl))⟩
  f26 := ⟨Tryz.f87.name, by decide, Tryz.func87.trans (congrArg some (by kernel_rfl))⟩
  f27 := ⟨Tryz.f88.name, by decide, Tryz.func88.trans (congrArg some (by kernel_rfl))⟩
  f28 := Tryz.func89.trans (congrArg some (by kernel_rfl))
  f29 := Tryz.func90.trans (congrArg some (by kernel_rfl))
  f46 := ⟨Tryz.f112.name, by decide, Tryz.func112.trans (congrArg some (by kernel_rfl))⟩
  f47 := Tryz.func113.trans (congrArg some (by kernel_rfl))
  f48 := Tryz.func114.trans (congrArg some (by kernel_rfl))
  f49 := ⟨Tryz.f115.name, by decide, Tryz.func115.trans (congrArg some (by kernel_rfl))⟩
  f50 := ⟨Tryz.f116.name, by decide, Tryz.func116.trans (congrArg some (by kernel_rfl))⟩
  f57 := ⟨Tryz.f124.name, by decide, Tryz.func124.trans (congrArg some (by kernel_rfl))⟩
  t0 := Tryz.underlying0
  a0 := Tryz.isAgg0
  z0 := Tryz.sizeOf0
  v0 := Tryz.zeroValue0
  t3 := Tryz.underlying3
  a3 := Tryz.isAgg3
  z3 := Tryz.sizeOf3
  v3 := Tryz.zeroValue3
  t4 := Tryz.underlying4
  a4 := Tryz.isAgg4
  z4 := Tryz.sizeOf4
  v4 := Tryz.zeroValue4
  t5 := Tryz.underlying5
  a5 := Tryz.isAgg5
  z5 := Tryz.sizeOf5
  v5 := Tryz.zeroValue5
  t9 := Tryz.underlying9
  a9 := Tryz.isAgg9
  z9 := Tryz.sizeOf9
  v9 := Tryz.zeroValue9
  t22 := Tryz.underlying56
  a22 := Tryz.isAgg56
  z22 := Tryz.sizeOf56
  v22 := Tryz.zeroValue56
  t25 := Tryz.underlying98
  a25 := Tryz.isAgg98
  z25 := Tryz.sizeOf98
  v25 := Tryz.zeroValue98
  t39 := Tryz.underlying116
  a39 := Tryz.isAgg116
  z39 := Tryz.sizeOf116
  v39 := Tryz.zeroValue116
  t45 := Tryz.underlying130
  a45 := Tryz.isAgg130
  z45 := Tryz.sizeOf130
  v45 := Tryz.zeroValue130
  t46 := Tryz.underlying131
  a46 := Tryz.isAgg131
  z46 := Tryz.sizeOf131
  v46 := Tryz.zeroValue131
  t50 := Tryz.underlying135
  a50 := Tryz.isAgg135
  z50 := Tryz.sizeOf135
  v50 := Tryz.zeroValue135
  t53 := Tryz.underlying119
  a53 := Tryz.isAgg119
  z53 := Tryz.sizeOf119
  v53 := Tryz.zeroValue119
  t55 := Tryz.underlying139
  a55 := Tryz.isAgg139
  z55 := Tryz.sizeOf139
  v55 := Tryz.zeroValue139
  t66 := Tryz.underlying156
  a66 := Tryz.isAgg156
  z66 := Tryz.sizeOf156
  v66 := Tryz.zeroValue156
  t70 := Tryz.underlying160
  a70 := Tryz.isAgg160
  z70 := Tryz.sizeOf160
  v70 := Tryz.zeroValue160
  t76 := Tryz.underlying168
  a76 := Tryz.isAgg168
  z76 := Tryz.sizeOf168
  v76 := Tryz.zeroValue168
  t77 := Tryz.underlying74
  a77 := Tryz.isAgg74
  z77 := Tryz.sizeOf74
  v77 := Tryz.zeroValue74 }
def Tryz.cmpI_ren : Go.Shelf.Ren := ⟨fun | 5 => 52 | 7 => 71 | n => n, fun | 22 => 3 | 3 => 3 | 4 => 4 | n => n, fun | n => n⟩
theorem Tryz.cmpI : Go.Proofs.SlLaysC2.n5 Tryz.prog Tryz.cmpI_ren := {
  mixed := by kernel_rfl
  f5 := ⟨Tryz.f52.name, by decide, Tryz.func52.trans (congrArg some (by kernel_rfl))⟩
  f7 := ⟨Tryz.f71.name, by decide, Tryz.func71.trans (congrArg some (by kernel_rfl))⟩
  t3 := Tryz.underlying3
  a3 := Tryz.isAgg3
  z3 := Tryz.sizeOf3
  v3 := Tryz.zeroValue3
  t4 := Tryz.underlying4
  a4 := Tryz.isAgg4
  z4 := Tryz.sizeOf4
  v4 := Tryz.zeroValue4
  t22 := Tryz.underlying3
  a22 := Tryz.isAgg3
  z22 := Tryz.sizeOf3
  v22 := Tryz.zeroValue3 }
end Go.Proofs
