/-
  Several texts in one: WOpen2, LFall, WMend.
-/
import Derived.Test.YtnhplbdbgiimkaaGreatDoorZ25
namespace Go.Proofs.YtnhplbdbgiimkaaGreatDoor
open Go.RowKit Go.Lib
set_option linter.unusedVariables false

set_option maxRecDepth 100000 in
set_option maxHeartbeats 8000000 in
theorem open_ok (w : World) (d : Nat) (Sd : Nat → Prop) (s : C.St) (part a : Nat) (G : List C.Gr) (base : List UInt8) (recs : List (List UInt8)) (hd : Disk w d Sd s) (hT : Tabs w) (hm : s.made ≤ 1000000) (hoff : s.off = false) (hp : 1 ≤ part ∧ part ≤ 1000) (hG : C.LogW s a G) (hb : a = 0 → base = []) (hr : C.recsL (C.flat G) = C.whole a base recs) (hlen : recs.length ≤ 1000000) :
    Calls Tryz.prog 11 #[.pointer (some ⟨d, 0, none⟩), .int .i64 (part : Nat)] w fun e w' => ∃ gl c, e = .returned (.tuple #[.pointer (some ⟨gl, 0, none⟩), .int .i64 0]) ∧ (c.d = d ∧ c.lives = s.lives ∧ c.full = false ∧ c.part = part ∧ c.age = a) ∧ TailOf c (C.rowG a G) ∧ LMem w' gl c (fun b => w.heap.size ≤ b ∧ b < w'.heap.size) base recs [] ∧ Disk w' d Sd (C.openS s a G) ∧ Turn w w' Sd := by
  have HD : Hid (Disk w d Sd s) := hd
  have HT : Hid (Tabs w) := hT
  have HM : Hid (s.made ≤ 1000000) := hm
  have HOFF : Hid (s.off = false) := hoff
  have HG : Hid (C.LogW s a G) := hG
  have HPC : Hid (PcsOk s (C.pcG a G)) := fun k hk hi => by
    obtain ⟨p, _, h2, h3, h4, h5, _⟩ := hG.pieces hi
    rw [h3]; exact ⟨h4, h5, h2⟩
  have HGAP : Hid (¬ ∃ k ∈ C.fs s, C.rdE (C.pcG a G k).tl = C.badR) := fun ⟨k, hk, e⟩ => by
    obtain ⟨p, _, _, h3, _, _, h6⟩ := hG.pieces (C.fs_mem hk).2
    rw [h3, h6] at e
    exact C.bad_gap e.symm
  have HRR : Hid ((C.rowG a G).flatMap C.Pc.recs = C.whole a base recs) := by show _ = _; rw [C.rowG_recs]; exact hr
  have HR0 : Hid (C.rowG a G = [] → a = 0) := fun e => by
    have h1 := HRR.out
    rw [e] at h1
    by_cases ha : a = 0
    · exact ha
    · simp [C.whole, ha] at h1
  have HWH : Hid (C.basL [] (C.rowG a G) = base ∧ C.resL (C.rowG a G) = recs) := C.row_whole C.rowG_chain C.rowG_has HR0.out hb HRR.out
  have HFEW : Hid (C.st a + ((C.rowG a G).flatMap C.Pc.recs).length ≤ 4294967296) := by show _ ≤ _; rw [C.rowG_recs]; exact hG.few
  have HPL : Hid (((C.rowG a G).flatMap C.Pc.recs).length ≤ 1000001) := by
    show _ ≤ _
    rw [HRR.out]
    unfold C.whole
    split
    · omega
    · rw [List.length_cons]; omega
  have hp1 : decide (((part : Nat) : Int) < 1) = false := decide_eq_false (by omega)
  have hp2 : decide ((1000 : Int) < (part : Nat)) = false := decide_eq_false (by omega)
  have hoffn : (!s.off) = true := by rw [hoff]; rfl
  have HPW : Hid _ := power_any w d Sd s hd
  rw [hoffn] at HPW
  clear hd hT hm hoff hp hG hb hr hlen hoffn
  go_enter Tryz.func11, Tryz.ntmps11
  go_wp2_with fail
  refine Calls.mono HPW.out ?_
  rintro e w1 ⟨rfl, hw⟩
  rw [hw]
  clear hw HPW w1
  go_wp2_with fail
  refine (pieces_any w d Sd s (C.pcG a G) HD.out HT.out HM.out HOFF.out HPC.out).mono ?_
  rintro e w1 ⟨hret, hb1⟩
  obtain ⟨-, v1, l1, rfl, hom1, hrm1, hl1⟩ : (∀ k ∈ C.fs s, C.rdE (C.pcG a G k).tl = C.gapR) ∧ ∃ v l, e = .returned (.tuple #[v, .int .i64 0]) ∧ OwnM w1 w.heap.size v l ∧ RecsM w1 w.heap.size l ∧ l.map Pm.c = ((C.fs s).map (C.pcG a G)).filter C.has := by
    rcases hret with h | h
    · exact h
    · exact absurd h.1 HGAP.out
  obtain ⟨q, hq⟩ := toQ l1 hrm1
  obtain ⟨p1, c1, hv1, -, -⟩ := OwnM.len hom1
  have hql : l1.length = q.length := by rw [← hq, List.length_map]
  rw [hql] at hv1
  subst hv1
  have HQL : Hid (q.length ≤ 1000) := by
    show _ ≤ _
    have h1 := congrArg List.length hl1
    rw [List.length_map, hql] at h1
    rw [h1]
    refine Nat.le_trans (List.length_filter_le _ _) ?_
    rw [List.length_map]
    exact Nat.le_trans (List.length_filter_le _ _) (by simp)
  rw [← hq] at hom1 hrm1 hl1
  have HO1 : Hid (OwnM w1 w.heap.size (.slice p1 q.length c1) (q.map Pq.m)) := hom1
  have HR1 : Hid (RecsM w1 w.heap.size (q.map Pq.m)) := hrm1
  have HB1 : Hid (Below w.heap.size w w1) := hb1
  have HPM : Hid ((q.map Pq.c).Perm (C.rowG a G)) := by
    have h1 := HG.out.perm HD.out.ok.files
    rw [← hl1, List.map_map] at h1
    exact h1
  obtain ⟨qn, hqn⟩ : ∃ qn, qn = q.length := ⟨_, rfl⟩
  have HQN : Hid (qn = q.length) := hqn
  have hqb : qn ≤ 1000 := by rw [hqn]; exact HQL.out
  rw [← hqn]
  clear hret hom1 hrm1 hl1 hb1 hq hql hqn HGAP HPC
  go_wp2_with fail
  have HNW : Hid _ := newest_any w w1 p1 c1 q (C.rowG a G) a HB1.out HO1.out HR1.out HPM.out C.rowG_chain C.rowG_has C.rowG_age HR0.out HQL.out HFEW.out
  rw [← HQN.out] at HNW
  refine Calls.mono HNW.out ?_
  rintro e w2 ⟨⟨v2, l2, rfl, ho2, hr2, hl2⟩, hb2⟩
  obtain ⟨p2, c2, hv2, hc2m, hp2b⟩ := OwnM.len ho2
  have HLR : Hid (l2.map Pm.c = C.rowG a G) := hl2
  have HB2 : Hid (Below w.heap.size w w2) := hb2
  have HD2 : Hid (Disk w2 d Sd s) := HD.out.below hb2
  have HO2 : Hid (OwnM w2 w.heap.size v2 l2) := ho2
  have HR2 : Hid (RecsM w2 w.heap.size l2) := hr2
  obtain ⟨n, hn⟩ : ∃ n, n = l2.length := ⟨_, rfl⟩
  have HN : Hid (n = l2.length) := hn
  have HNR : Hid (n = (C.rowG a G).length) := by show _ = _; rw [hn, ← hl2, List.length_map]
  rw [← hn] at hv2
  subst hv2
  have hnb : n ≤ 1000 := by
    have h1 := congrArg List.length hl2
    rw [List.length_map] at h1
    have h2 := HPM.out.length_eq
    rw [List.length_map] at h2
    have := HQL.out
    omega
  clear ho2 hr2 hl2 hb2 hn hc2m hp2b HO1 HR1 HPM HNW HQN hqb HB1
  go_wp2_with fail
  refine (lives_any w2 d Sd s HD2.out).mono ?_
  rintro e w3 ⟨rfl, hw⟩
  rw [hw]
  clear hw w3
  go_wp2_with fail
  obtain ⟨gl, hgl⟩ : ∃ gl, gl = w2.heap.size := ⟨_, rfl⟩
  have HGL : Hid (gl = w2.heap.size) := hgl
  have HLG : Hid (LgAt (w2.alloc (.cells #[.pointer (some ⟨d, 0, none⟩), .int .i64 (s.lives : Nat), .bool false, .int .i64 (part : Nat), .int .i64 0, .slice none 0 0, .slice none 0 0, .int .i64 0, .int .i64 0, .int .i64 0, .bool false, .slice none 0 0] 64)) gl ⟨d, s.lives, false, part, 0, .slice none 0 0, .slice none 0 0, 0, 0, 0, false, .slice none 0 0⟩) := by
    show _ = _
    rw [hgl]
    exact heap_alloc_new w2 _
  have HBA : Hid (Below w2.heap.size w2 (w2.alloc (.cells #[.pointer (some ⟨d, 0, none⟩), .int .i64 (s.lives : Nat), .bool false, .int .i64 (part : Nat), .int .i64 0, .slice none 0 0, .slice none 0 0, .int .i64 0, .int .i64 0, .int .i64 0, .bool false, .slice none 0 0] 64))) := below_new _ _
  have HSZ : Hid (w2.heap.size < (w2.alloc (.cells #[.pointer (some ⟨d, 0, none⟩), .int .i64 (s.lives : Nat), .bool false, .int .i64 (part : Nat), .int .i64 0, .slice none 0 0, .slice none 0 0, .int .i64 0, .int .i64 0, .int .i64 0, .bool false, .slice none 0 0] 64)).heap.size) := by simp [Hid]
  rw [← hgl]
  clear hgl
  generalize w2.alloc (.cells #[.pointer (some ⟨d, 0, none⟩), .int .i64 (s.lives : Nat), .bool false, .int .i64 (part : Nat), .int .i64 0, .slice none 0 0, .slice none 0 0, .int .i64 0, .int .i64 0, .int .i64 0, .bool false, .slice none 0 0] 64) = w4 at *
  have HINV : Hid (OpInv w w2 w4 d Sd s part gl (C.rowG a G) 0 (.slice none 0 0) ⟨d, s.lives, false, part, 0, .slice none 0 0, .slice none 0 0, 0, 0, 0, false, .slice none 0 0⟩) :=
    ⟨rfl, rfl, rfl, rfl, Or.inl ⟨rfl, rfl, rfl, rfl, rfl, rfl⟩, ⟨HLG.out, ⟨by rw [HGL.out]; exact HB2.out.size, by rw [HGL.out]; exact HSZ.out⟩, World.ownsRow_nil _ _ _ _, fun b hb => (by cases hb), RecsIn.nil _ _, OwnI.nil _, fun b hb => (by cases hb), fun b hb => hb.2⟩, fun b hb => (by cases hb), HD2.out.below HBA.out, OwnI.nil _, fun b hb => (by cases hb), rfl, Turn.of_below HBA.out⟩
  clear HLG HBA HSZ
  go_loopw [10, 46] (fun s10 s46 wr => ∃ (k : Nat) (c : LgC), s46 = .int .i64 k ∧ k ≤ n ∧ Hid (OpInv w w2 wr d Sd s part gl (C.rowG a G) k s10 c)) (fun _ s46 _ => n - (intOf s46).toNat)
  case atStart => exact ⟨0, _, rfl, Nat.zero_le _, HINV.out⟩
  case round =>
    clear HINV
    obtain ⟨k, c, rfl, hkn, HI⟩ := hrel
    obtain ⟨fp, fc, hv10, -⟩ := HI.out.files.shape
    rw [List.length_map, List.length_take, ← HNR.out, Nat.min_eq_left hkn] at hv10
    subst hv10
    by_cases hlt : k < n
    · obtain ⟨x, hx⟩ : ∃ x, l2[k]? = some x := ⟨_, List.getElem?_eq_getElem (by have := HN.out; omega)⟩
      obtain ⟨gr, hp2, hcell⟩ := (OwnM.at HO2.out) (by have := HN.out; omega)
      subst hp2
      have hgr : w.heap.size ≤ gr := OwnM.ge HO2.out gr rfl
      have hgs : ¬ Sd gr := fun hs => by have := HD.out.lt hs; omega
      have HXR : Hid (RecsOwn w2 w.heap.size x.rv x.c.recs) := HR2.out x (List.mem_of_getElem? hx)
      have HRK : Hid ((C.rowG a G)[k]? = some x.c) := by show _ = _; rw [← HLR.out, List.getElem?_map, hx]; rfl
      have hy : ∀ j u, (encP x)[j]? = some u → wr.cell? ⟨gr, k * 6 + j, none⟩ = some u := fun j u hu => cell_turn HI.out.turn (hcell k x hx j u hu) hgs
      obtain ⟨P, rv⟩ := x
      obtain ⟨rp, rc, hrv⟩ : ∃ rp rc, rv = .slice rp P.recs.length rc := by
        obtain ⟨rp, rc, h1, _⟩ := (RecsIn.of_own HXR.out).len
        exact ⟨rp, rc, h1⟩
      obtain ⟨rn, hrn⟩ : ∃ rn, rn = P.recs.length := ⟨_, rfl⟩
      have HRN : Hid (rn = P.recs.length) := hrn
      rw [← hrn] at hrv
      subst hrv
      obtain ⟨y0, y1, y2, y3, y4, y5⟩ : wr.cell? ⟨gr, k * 6, none⟩ = some (.int .i64 (P.file : Nat)) ∧ wr.cell? ⟨gr, k * 6 + 1, none⟩ = some (.int .i64 (P.age : Nat)) ∧ wr.cell? ⟨gr, k * 6 + 2, none⟩ = some (.int .i64 (P.first : Nat)) ∧ wr.cell? ⟨gr, k * 6 + 3, none⟩ = some (.slice rp rn rc) ∧ wr.cell? ⟨gr, k * 6 + 4, none⟩ = some (.int .i64 (P.fin : Nat)) ∧ wr.cell? ⟨gr, k * 6 + 5, none⟩ = some (.bool P.torn) := ⟨hy 0 _ rfl, hy 1 _ rfl, hy 2 _ rfl, hy 3 _ rfl, hy 4 _ rfl, hy 5 _ rfl⟩
      have hkz : (k : Int) < (n : Int) := by omega
      clear hx hcell hgr hgs hy hrn
      go_wp2_with fail
      obtain ⟨gb, hgb⟩ : ∃ gb, gb = wr.heap.size := ⟨_, rfl⟩
      have HGB : Hid (gb = wr.heap.size) := hgb
      have HBX : Hid ((wr.alloc (.cells #[.int .i64 (P.file : Nat), .int .i64 (P.age : Nat), .int .i64 (P.first : Nat), .slice rp rn rc, .int .i64 (P.fin : Nat), .bool P.torn] 66)).heap[gb]? = some (.cells #[.int .i64 (P.file : Nat), .int .i64 (P.age : Nat), .int .i64 (P.first : Nat), .slice rp rn rc, .int .i64 (P.fin : Nat), .bool P.torn] 66)) := by
        show _ = _
        rw [hgb]
        exact heap_alloc_new wr _
      have HBA : Hid (Below wr.heap.size wr (wr.alloc (.cells #[.int .i64 (P.file : Nat), .int .i64 (P.age : Nat), .int .i64 (P.first : Nat), .slice rp rn rc, .int .i64 (P.fin : Nat), .bool P.torn] 66))) := below_new _ _
      have HSZ : Hid (wr.heap.size < (wr.alloc (.cells #[.int .i64 (P.file : Nat), .int .i64 (P.age : Nat), .int .i64 (P.first : Nat), .slice rp rn rc, .int .i64 (P.fin : Nat), .bool P.torn] 66)).heap.size) := by simp [Hid]
      rw [← hgb]
      clear hgb
      generalize wr.alloc (.cells #[.int .i64 (P.file : Nat), .int .i64 (P.age : Nat), .int .i64 (P.first : Nat), .slice rp rn rc, .int .i64 (P.fin : Nat), .bool P.torn] 66) = wa at *
      clear y0 y1 y2 y3 y4 y5
      have HTK : Hid _ := take_any wa gl c (fun b => w.heap.size ≤ b ∧ b < wr.heap.size) (fun b => w.heap.size ≤ b ∧ b < w2.heap.size) _ _ [] P (.slice rp rn rc) (HI.out.mem.below HBA.out) ((RecsIn.of_own HXR.out).same fun b hb => (HBA.out.block b (Nat.lt_of_lt_of_le hb.2 HI.out.turn.size)).trans (HI.out.turn.block b hb.2 fun hs => by have := HD.out.lt hs; omega)) (fun b hb => Nat.lt_of_lt_of_le (Nat.lt_of_lt_of_le hb.2 HI.out.turn.size) HBA.out.size) (by
        have h1 := row_bound HRK.out
        have := HPL.out
        omega) (fun b hb hs => by have := HI.out.rows b hb; omega) (has_ne (C.rowG_has _ (List.mem_of_getElem? HRK.out)))
      simp only [encP] at HTK
      refine Calls.mono HTK.out ?_
      rintro e w5 ⟨rfl, bv, rv', hlm, hrv, htn⟩
      have hno : ∀ x, (x = gl ∨ c.recs.ownBlock = some x) → w2.heap.size ≤ x ∧ x < wr.heap.size := by
        rintro x (rfl | hx)
        · exact ⟨by rw [HGL.out]; exact Nat.le_refl _, HI.out.mem.lt _ HI.out.mem.mem⟩
        · obtain ⟨_, _, h2, _⟩ := HI.out.mem.recs
          exact ⟨HI.out.rows x hx, HI.out.mem.lt _ (h2 x hx)⟩
      have hz2 : w.heap.size ≤ w2.heap.size := HB2.out.size
      have HLM : Hid (LMem w5 gl (c.take P bv rv' P.rest.length) (fun b => w.heap.size ≤ b ∧ b < w5.heap.size) (P.bas (C.basL [] ((C.rowG a G).take k))) (C.resL ((C.rowG a G).take k) ++ P.rest) []) := hlm.mono (fun b hb => by
        have h1 := htn.size
        have h2 := HSZ.out
        have h3 := HI.out.turn.size
        rcases hb with h | h | h
        · exact ⟨h.1, by omega⟩
        · exact ⟨h.1, by omega⟩
        · exact ⟨by omega, h.2⟩) (fun b hb => hb.2)
      have HRV : Hid (∀ b, rv'.ownBlock = some b → w2.heap.size ≤ b) := fun b hb => by
        rcases hrv b hb with h | h
        · exact HI.out.rows b h
        · have h2 := HSZ.out
          have h3 := HI.out.turn.size
          omega
      have HT5 : Hid (Turn w2 w5 Sd) := (HI.out.turn.trans (T := fun _ => False) (Turn.of_below HBA.out) fun _ h => h.elim).trans htn fun x hx => Or.inr (hno x hx).1
      have HD5 : Hid (Disk w5 d Sd (C.syncs (((C.rowG a G).take k).map C.Pc.file) s)) := (HI.out.disk.below HBA.out).turn htn fun b hb hx => by
        have h1 := HD.out.lt hb
        have h2 := (hno b hx).1
        omega
      have hb5 : w5.heap[gb]? = wa.heap[gb]? := htn.block gb (by rw [HGB.out]; exact HSZ.out) fun hx => by
        have := (hno gb hx).2
        rw [HGB.out] at this
        omega
      have HBX5 : Hid (w5.heap[gb]? = some (.cells #[.int .i64 (P.file : Nat), .int .i64 (P.age : Nat), .int .i64 (P.first : Nat), .slice rp rn rc, .int .i64 (P.fin : Nat), .bool P.torn] 66)) := hb5.trans HBX.out
      have HF5 : Hid (OwnI w5 (.slice fp k fc) (((C.rowG a G).take k).map C.Pc.file)) := row_same HI.out.files fun b hb => by
        have hlt := row_lt HI.out.files hb
        obtain ⟨cur, hc⟩ := row_type HI.out.files hb
        refine (htn.block b (Nat.lt_of_lt_of_le hlt HBA.out.size) ?_).trans (HBA.out.block b hlt)
        rintro (rfl | e)
        · exact cells_ne hc HI.out.mem.at_ (by decide) rfl
        · obtain ⟨_, h1, _⟩ := HI.out.mem.recs
          obtain ⟨cur2, hc2⟩ := row_type h1 e
          exact cells_ne hc hc2 (by decide) rfl
      have HFI : Hid (s.is P.file = true) := C.rowF_is HG.out _ (List.mem_map_of_mem (List.mem_of_getElem? HRK.out))
      have hfb : P.file < 1000 := HD.out.ok.files _ HFI.out
      have x0 : w5.cell? ⟨gb, 0, none⟩ = some (.int .i64 (P.file : Nat)) := (blk_cell HBX5.out 0).trans rfl
      have HSN : Hid (C.syncs (((C.rowG a G).take (k + 1)).map C.Pc.file) s = C.syncS (C.syncs (((C.rowG a G).take k).map C.Pc.file) s) P.file) := by
        show _ = _
        rw [row_take HRK.out, List.map_append]
        exact C.syncs_snoc _ _ s
      have HSY : Hid _ := sync_ok w5 d Sd (C.syncs (((C.rowG a G).take k).map C.Pc.file) s) P.file HD5.out (by
        unfold refE
        rw [if_neg (by rw [(C.syncs_is _ s).2.1, HOFF.out]; decide), if_neg (by omega)]) (by rw [(C.syncs_is _ s).1]; exact HFI.out)
      clear hlm hrv htn HTK hno hb5 HBX HBA HSZ
      go_wp2_with fail
      refine Calls.mono HSY.out ?_
      rintro e w6 ⟨rfl, hd6, ht6⟩
      have HD6 : Hid (Disk w6 d Sd (C.syncs (((C.rowG a G).take (k + 1)).map C.Pc.file) s)) := by show Disk _ _ _ _; rw [HSN.out]; exact hd6
      have HT6 : Hid (Turn w2 w6 Sd) := HT5.out.trans ht6 fun x hx => Or.inl hx
      have HT56 : Hid (Turn w5 w6 Sd) := ht6
      have HLM6 : Hid (LMem w6 gl (c.take P bv rv' P.rest.length) (fun b => w.heap.size ≤ b ∧ b < w5.heap.size) (P.bas (C.basL [] ((C.rowG a G).take k))) (C.resL ((C.rowG a G).take k) ++ P.rest) []) := HLM.out.turn ht6 fun b hb hs => by have := HD.out.lt hs; omega
      have HBX6 : Hid (w6.heap[gb]? = some (.cells #[.int .i64 (P.file : Nat), .int .i64 (P.age : Nat), .int .i64 (P.first : Nat), .slice rp rn rc, .int .i64 (P.fin : Nat), .bool P.torn] 66)) := (ht6.block gb (Array.getElem?_eq_some_iff.1 HBX5.out).1 fun hs => by
        have h1 := HD.out.lt hs
        have h2 := HI.out.turn.size
        have h3 := HGB.out
        omega).trans HBX5.out
      have HF6 : Hid (OwnI w6 (.slice fp k fc) (((C.rowG a G).take k).map C.Pc.file)) := row_same HF5.out fun b hb => ht6.block b (row_lt HF5.out hb) fun hs => by
        have h1 := HD.out.lt hs
        have h2 := HI.out.fnew b hb
        omega
      clear x0 hd6 ht6 HSY
      have x0 : w6.cell? ⟨gb, 0, none⟩ = some (.int .i64 (P.file : Nat)) := (blk_cell HBX6.out 0).trans rfl
      have HFL : Hid ((((C.rowG a G).take k).map C.Pc.file).length = k) := by
        show _ = _
        rw [List.length_map, List.length_take, ← HNR.out, Nat.min_eq_left hkn]
      have HOA : Hid ((w6.alloc (.cells #[.int .i64 (P.file : Nat)] 3)).ownsRow 0 3 1 (.slice fp k fc) k (intsV (((C.rowG a G).take k).map C.Pc.file))) := by
        have h1 : OwnI (w6.alloc (.cells #[.int .i64 (P.file : Nat)] 3)) (.slice fp k fc) (((C.rowG a G).take k).map C.Pc.file) := row_same HF6.out fun b hb => (below_new w6 _).block b (row_lt HF6.out hb)
        unfold OwnI at h1
        rw [HFL.out] at h1
        exact h1
      have HSA : Hid (SrcAt (w6.alloc (.cells #[.int .i64 (P.file : Nat)] 3)) 1 (.slice (some ⟨w6.heap.size, 0, none⟩) 1 1) 1 (intsV [P.file])) := by
        refine ⟨some ⟨w6.heap.size, 0, none⟩, 1, rfl, rfl, (fun e => by cases e), fun a ha j u hj => ?_⟩
        cases ha
        have hj0 : j = 0 := by have := (List.getElem?_eq_some_iff.1 hj).1; simp [intsV] at this; omega
        subst hj0
        have hu : u = .int .i64 (P.file : Nat) := by simp [intsV] at hj; exact hj.symm
        subst hu
        rw [WideShapes.add_plain]
        exact (blk_cell (heap_alloc_new w6 (.cells #[.int .i64 (P.file : Nat)] 3)) 0).trans rfl
      have HGR : Hid (∀ w7 v7, (w6.alloc (.cells #[.int .i64 (P.file : Nat)] 3)).grownBy w7 (Value.slice fp k fc).ownBlock → w7.ownsRow 0 3 1 v7 (k + 1) (intsV (((C.rowG a G).take k).map C.Pc.file) ++ intsV [P.file]) → (v7.ownBlock = (Value.slice fp k fc).ownBlock ∨ v7.ownBlock = some (w6.alloc (.cells #[.int .i64 (P.file : Nat)] 3)).heap.size) → Hid (OpInv w w2 w7 d Sd s part gl (C.rowG a G) (k + 1) v7 (c.take P bv rv' P.rest.length)) ∧ ∃ p7 c7, v7 = .slice p7 (k + 1) c7) := fun w7 v7 hg hr hb => by
        have hfo : OwnI w7 v7 (((C.rowG a G).take (k + 1)).map C.Pc.file) := by
          rw [row_take HRK.out, List.map_append]
          unfold OwnI
          rw [List.length_append, HFL.out]
          have e : intsV (((C.rowG a G).take k).map C.Pc.file ++ [P].map C.Pc.file) = intsV (((C.rowG a G).take k).map C.Pc.file) ++ intsV [P.file] := by simp [intsV]
          rw [e]
          exact hr
        have htt : Turn w6 w7 (fun x => (Value.slice fp k fc).ownBlock = some x) := (Turn.of_below (below_new w6 _)).trans (Turn.of_grown (S := fun x => (Value.slice fp k fc).ownBlock = some x) hg fun b hb => hb) fun x hx => Or.inl hx
        refine ⟨⟨HI.out.cd_, HI.out.cl, HI.out.cf, HI.out.cp, Or.inr ⟨_, P, row_take HRK.out, rfl, rfl, rfl, rfl, rfl⟩, ?_, HRV.out, ?_, hfo, fun b hb7 => ?_, HI.out.dnil, HT6.out.trans htt fun x hx => Or.inr (HI.out.fnew x hx)⟩, ?_⟩
        · rw [row_take HRK.out, C.basL_snoc, C.resL_snoc]
          refine (HLM6.out.ints htt (fun x hx _ => ?_) fun b hb => ?_).mono (fun b hb => ⟨hb.1, ?_⟩) fun b hb => hb.2
          · obtain ⟨cur, hc⟩ := row_type HF6.out hx
            exact ⟨cur, _, hc⟩
          · rw [show (c.take P bv rv' P.rest.length).dirty = .slice none 0 0 from HI.out.dnil] at hb
            cases hb
          · have h1 := HT56.out.size
            have h2 := htt.size
            omega
        · refine HD6.out.turn htt fun b hb hx => ?_
          have h1 := HD.out.lt hb
          have h2 := HI.out.fnew b hx
          omega
        · rcases hb with h | h
          · exact HI.out.fnew b (h.symm.trans hb7)
          · have h2 := h.symm.trans hb7
            have h3 : b = (w6.alloc (.cells #[.int .i64 (P.file : Nat)] 3)).heap.size := (Option.some.inj h2).symm
            have h4 := HT6.out.size
            rw [h3]
            simp
            omega
        · obtain ⟨p7, c7, hv7, -⟩ := hfo.shape
          rw [List.length_map, List.length_take, ← HNR.out, Nat.min_eq_left (show k + 1 ≤ n by omega)] at hv7
          exact ⟨p7, c7, hv7⟩
      have HN1 : Hid (k + 1 ≤ maxLen) := by show _ ≤ _; unfold maxLen; omega
      have HN2 : Hid ((k + 1) * 8 ≤ 140737488355328) := by show _ ≤ _; omega
      go_wp2_with (at_builtin; go_must ((refine wpList_append_src Tryz.underlying44 info_ints rfl (by decide) rfl _ _ rfl rfl HOA.out rfl HSA.out (intsV_one _) HN1.out HN2.out ?_; intro v7 w7 hr7 hg7 hb7; obtain ⟨HI7, p7, c7, hv7⟩ := HGR.out w7 v7 hg7 hr7 hb7; subst hv7; clear hr7 hg7 hb7)))
      refine ⟨⟨k + 1, _, by go_num, by omega, HI7.out⟩, ?_⟩
      simp [intOf]; omega
    · have hkk : k = n := by omega
      have HTA : Hid ((C.rowG a G).take k = C.rowG a G) := by show _ = _; rw [hkk, HNR.out]; exact List.take_length
      have HKL : Hid (k = ((C.rowF a G).map fun k : Nat => (k : Int)).length) := by show _ = _; rw [hkk, HNR.out]; simp [C.rowF]
      have HDK : Hid (Disk wr c.d Sd (C.syncs (C.rowF a G) s)) := by
        have h1 := HI.out.disk
        rw [HTA.out] at h1
        rw [show c.d = d from HI.out.cd_]
        exact h1
      have HZ : Hid (ZAt wr fp ((C.rowF a G).map fun k : Nat => (k : Int))) := fun hl0 => by
        obtain ⟨p', c', hv', hc'⟩ := HI.out.files.shape
        rw [HTA.out] at hc' hv'
        simp only [Value.slice.injEq] at hv'
        rw [← hv'.1] at hc'
        obtain ⟨b, hb, hc⟩ := hc' (by rw [List.length_map] at hl0; exact hl0)
        refine ⟨b, 0, hb, fun i hi => ?_⟩
        obtain ⟨f, hf⟩ : ∃ f, (C.rowF a G)[i]? = some f := ⟨_, List.getElem?_eq_getElem (by rw [List.length_map] at hi; exact hi)⟩
        have h1 := hc i f hf
        rw [Nat.zero_add, List.getD_eq_getElem?_getD, List.getElem?_map, hf]
        exact h1
      have HPF : Hid (∀ x, fp = some x → ¬ Sd x.block) := fun x hx hs => by
        subst hx
        have h1 := HI.out.fnew x.block rfl
        have h2 := HD2.out.lt hs
        omega
      have HDR : Hid _ := dropb_any wr gl c Sd (C.syncs (C.rowF a G) s) fp _ fc HI.out.mem.at_ HDK.out (by rw [(C.syncs_is _ s).2.2.2.1]; exact HM.out) (by rw [(C.syncs_is _ s).2.1]; exact HOFF.out) (fun hs => by
        have h1 := HD.out.lt hs
        have h2 := HGL.out
        have h3 := HB2.out.size
        omega) HZ.out HPF.out (by rw [← HKL.out]; omega)
      rw [← HKL.out] at HDR
      subst hkk
      go_wp2_with fail
      refine Calls.mono HDR.out ?_
      rintro e w7 ⟨rfl, hd7, ht7⟩
      go_wp2_with fail
      have hcd : c.d = d := HI.out.cd_
      rw [hcd] at hd7
      have hsd : ∀ b, w.heap.size ≤ b → ¬ Sd b := fun b hb hs => by have := HD.out.lt hs; omega
      refine bodyPost_ret (v := .tuple #[.pointer (some ⟨gl, 0, none⟩), .int .i64 0]) (by simp [results, Tryz.results11, go_sem, *]) rfl ⟨gl, c, rfl, ⟨hcd, HI.out.cl, HI.out.cf, HI.out.cp, ?_⟩, ?_, ?_, hd7, ?_⟩
      · rcases HI.out.tail with ⟨h1, _, _, _, _, h2⟩ | ⟨L', P, h1, _, _, _, _, h2⟩
        · rw [HTA.out] at h1
          rw [h2, HR0.out h1]
        · rw [HTA.out] at h1
          rw [h2]
          exact C.rowG_age P (by rw [h1]; simp)
      · have h1 := HI.out.tail
        rw [HTA.out] at h1
        exact h1
      · have h1 := HI.out.mem
        rw [HTA.out, HWH.out.1, HWH.out.2] at h1
        exact (h1.turn ht7 fun b hb => hsd b hb.1).mono (fun b hb => ⟨hb.1, Nat.lt_of_lt_of_le hb.2 ht7.size⟩) fun b hb => hb.2
      · exact ((Turn.of_below (S := Sd) HB2.out).trans HI.out.turn fun x hx => Or.inl hx).trans ht7 fun x hx => Or.inl hx
end Go.Proofs.YtnhplbdbgiimkaaGreatDoor

namespace Go.Proofs.YtnhplbdbgiimkaaGreatDoor
open Go.RowKit Go.Lib
set_option linter.unusedVariables false

namespace C
theorem crash_eq {k t k' t' : Int} (h : ∀ n size, stay k t n size = stay k' t' n size) : ∀ (ws : List Wr) (n : Nat), crashL k t n ws = crashL k' t' n ws
  | [], _ => rfl
  | x :: ws, n => by
    rw [crashL, crashL]
    split
    · rw [crash_eq h ws n]
    · rw [crash_eq h ws (n + 1)]
      unfold cutW
      rw [h n]
theorem stay_zero {torn : Int} (ht : torn ≤ 0) (n size : Nat) : stay 0 torn n size = stay (-1) 0 n size := by
  unfold stay
  have h1 : ¬ ((n : Int) < 0) := by omega
  have h2 : ¬ ((n : Int) < -1) := by omega
  have h3 : ¬ ((n : Int) = -1) := by omega
  have h4 : torn.toNat = 0 := by omega
  rw [if_neg h1, if_neg h2, if_neg h3, h4]
  split <;> simp
theorem LogW.safe_one {s : St} {a : Nat} {G : List Gr} (h : LogW s a G) (ha : 0 < a) : 1 ≤ safeN (flat G) := by
  obtain ⟨c, L, e, hs, hr⟩ := h.base ha
  unfold safeN
  rw [e, List.filter_cons_of_pos hs]
  show 1 ≤ (c.recs ++ recsL _).length
  rw [List.length_append]
  have : 0 < c.recs.length := List.length_pos_iff.2 hr
  omega
/-- A fall: of the records behind the base a beginning, at least what was safe. -/
theorem LogW.fall {s : St} {a : Nat} {G : List Gr} (h : LogW s a G) {base : List UInt8} {recs : List (List UInt8)} (hd : recsL (flat G) = whole a base recs) (keep torn : Int) : ∃ G' j, LogW (crashS s keep torn) a G' ∧ (∀ c ∈ flat G', c.safe = true) ∧ recsL (flat G') = whole a base (recs.take j) ∧ j ≤ recs.length ∧ safeN (flat G) + st a ≤ j + 1 ∧ ((keep < 0 ∨ keep = 0 ∧ torn ≤ 0) → safeN (flat G) + st a = j + 1) := by
  have key : ∃ G' q, LogW (crashS s keep torn) a G' ∧ (∀ c ∈ flat G', c.safe = true) ∧ safeN (flat G) ≤ q ∧ q ≤ (recsL (flat G)).length ∧ recsL (flat G') = (recsL (flat G)).take q ∧ ((keep < 0 ∨ keep = 0 ∧ torn ≤ 0) → q = safeN (flat G)) := by
    by_cases hz : keep = 0 ∧ torn ≤ 0
    · obtain ⟨hk, ht⟩ := hz
      subst hk
      obtain ⟨G', q, h1, h2, h3, h4, h5, h6⟩ := h.crash (-1) 0
      have e : crashS s (-1) 0 = crashS s 0 torn := by
        unfold crashS
        rw [crash_eq (stay_zero ht) s.ws 0]
      rw [e] at h1
      exact ⟨G', q, h1, h2, h3, h4, h5, fun _ => h6 (by omega)⟩
    · obtain ⟨G', q, h1, h2, h3, h4, h5, h6⟩ := h.crash keep torn
      exact ⟨G', q, h1, h2, h3, h4, h5, fun hk => h6 (by rcases hk with hk | hk; exact hk; exact absurd hk hz)⟩
  obtain ⟨G', q, h1, h2, h3, h4, h5, h6⟩ := key
  rw [hd] at h4 h5
  by_cases ha : a = 0
  · have e1 : whole a base recs = recs := if_pos ha
    have e2 : whole a base (recs.take q) = recs.take q := if_pos ha
    have e3 : st a = 1 := if_pos ha
    rw [e1] at h4 h5
    exact ⟨G', q, h1, h2, by rw [e2]; exact h5, h4, by omega, fun hk => by have := h6 hk; omega⟩
  · have e1 : whole a base recs = base :: recs := if_neg ha
    have e2 : ∀ l, whole a base l = base :: l := fun l => if_neg ha
    have e3 : st a = 0 := if_neg ha
    have h7 := h.safe_one (by omega)
    rw [e1] at h4 h5
    rw [List.length_cons] at h4
    obtain ⟨j, rfl⟩ : ∃ j, q = j + 1 := ⟨q - 1, by omega⟩
    exact ⟨G', j, h1, h2, by rw [e2]; exact h5, by omega, by omega, fun hk => by have := h6 hk; omega⟩
theorem safeN_all {L : List Ch} (h : ∀ c ∈ L, c.safe = true) : safeN L = (recsL L).length := by
  unfold safeN
  rw [List.filter_eq_self.2 h]
end C
/-- A disk that holds a log. -/
structure DLog (w : World) (d : Nat) (S : Nat → Prop) (s : C.St) (a : Nat) (G : List C.Gr) (base : List UInt8) (recs : List (List UInt8)) (n M : Nat) : Prop where
  disk : ∃ Sd, Disk w d Sd s ∧ ∀ b, Sd b → S b
  lt : ∀ b, S b → b < w.heap.size
  log : C.LogW s a G
  hold : C.recsL (C.flat G) = C.whole a base recs
  base0 : a = 0 → base = []
  bud : C.Bud s n M
section
variable {w w' : World} {gl d : Nat} {c : LgC} {S T : Nat → Prop} {s : C.St} {a : Nat} {G : List C.Gr} {base : List UInt8} {recs drecs : List (List UInt8)} {n M : Nat}
theorem LogM.dlog (h : LogM w gl c S s a G base recs drecs n M) : DLog w c.d S s a G base drecs n M := by
  obtain ⟨Sl, Sd, dl, h1, h2, h3, h4, h5⟩ := h.sets
  exact ⟨⟨Sd, h2, h4⟩, h.lt, h.log, h.hold, h.base0, h.bud⟩
theorem DLog.turn (h : DLog w d S s a G base recs n M) (ht : Turn w w' T) (hn : ∀ b, S b → ¬ T b) : DLog w' d S s a G base recs n M := by
  obtain ⟨Sd, h1, h2⟩ := h.disk
  exact ⟨⟨Sd, h1.turn ht fun b hb => hn b (h2 b hb), h2⟩, fun b hb => Nat.lt_of_lt_of_le (h.lt b hb) ht.size, h.log, h.hold, h.base0, h.bud⟩
theorem DLog.below (h : DLog w d S s a G base recs n M) (hb : Below w.heap.size w w') : DLog w' d S s a G base recs n M := h.turn (T := fun _ => False) (Turn.of_below hb) fun _ _ h => h
theorem DLog.new {room : Nat} {Sd : Nat → Prop} (h : Disk w d Sd (C.newS room)) : DLog w d Sd (C.newS room) 0 [] [] [] 0 0 :=
  ⟨⟨Sd, h, fun b hb => hb⟩, fun b hb => h.lt hb, C.LogW.none rfl fun k => rfl, rfl, fun _ => rfl, C.Bud.new room⟩
end
theorem ext_lt {w w' : World} {S T : Nat → Prop} (h : ∀ b, S b → b < w.heap.size) (ht : Turn w w' T) : ∀ b, Ext w w' S b → b < w'.heap.size := fun b hb => by
  rcases hb with hb | hb
  · exact Nat.lt_of_lt_of_le (h b hb) ht.size
  · exact hb.2
theorem ext_mono {w w' : World} {S T : Nat → Prop} (h : ∀ b, S b → T b) : ∀ b, Ext w w' S b → Ext w w' T b := fun b hb => hb.imp (h b) id
theorem dlog_crash (w : World) (d : Nat) (S : Nat → Prop) (s : C.St) (a : Nat) (G : List C.Gr) (base : List UInt8) (recs : List (List UInt8)) (n M : Nat) (keep torn : Int) (h : DLog w d S s a G base recs n M) (hM : M ≤ 1000000) (hk1 : -9223372036854775808 ≤ keep) (hk2 : keep ≤ 9223372036854775807) (ht1 : -9223372036854775808 ≤ torn) (ht2 : torn ≤ 9223372036854775807) :
    Calls Tryz.prog 16 #[.pointer (some ⟨d, 0, none⟩), .int .i64 keep, .int .i64 torn] w fun e w' => e = .returned (.tuple #[]) ∧ (∃ s' G' j, DLog w' d (Ext w w' S) s' a G' base (recs.take j) n M ∧ s'.off = true ∧ s'.lives = s.lives ∧ s'.room = s.room ∧ (∀ x ∈ C.flat G', x.safe = true) ∧ j ≤ recs.length ∧ C.safeN (C.flat G) + C.st a ≤ j + 1 ∧ ((keep < 0 ∨ keep = 0 ∧ torn ≤ 0) → C.safeN (C.flat G) + C.st a = j + 1)) ∧ Turn w w' S := by
  obtain ⟨Sd, hd, hs⟩ := h.disk
  refine (crash_any w d Sd s keep torn hd (Nat.le_trans h.bud.made hM) hk1 hk2 ht1 ht2).mono ?_
  rintro e w' ⟨rfl, hd', ht'⟩
  obtain ⟨G', j, g1, g2, g3, g4, g5, g6⟩ := h.log.fall h.hold keep torn
  exact ⟨rfl, ⟨_, G', j, ⟨⟨_, hd', ext_mono hs⟩, ext_lt h.lt ht', g1, g3, h.base0, h.bud.crash keep torn⟩, rfl, rfl, rfl, g2, g4, g5, g6⟩, ht'.mono hs⟩
theorem dlog_on (w : World) (d : Nat) (S : Nat → Prop) (s : C.St) (a : Nat) (G : List C.Gr) (base : List UInt8) (recs : List (List UInt8)) (n M : Nat) (h : DLog w d S s a G base recs n M) (hl : s.lives ≤ 1000000) :
    Calls Tryz.prog 17 #[.pointer (some ⟨d, 0, none⟩)] w fun e w' => e = .returned (.tuple #[]) ∧ DLog w' d S (C.onS s) a G base recs n M ∧ Turn w w' S := by
  obtain ⟨Sd, hd, hs⟩ := h.disk
  refine (on_any w d Sd s hd hl).mono ?_
  rintro e w' ⟨rfl, hd', ht'⟩
  exact ⟨rfl, ⟨⟨Sd, hd', hs⟩, fun b hb => Nat.lt_of_lt_of_le (h.lt b hb) ht'.size, h.log.congr rfl rfl, h.hold, h.base0, h.bud.on⟩, ht'.mono hs⟩
theorem tail_of {a : Nat} {G : List C.Gr} {c : LgC} (h : TailOf c (C.rowG a G)) : TailG c (C.openG G) := by
  have hlen : (C.rowG a G).length = (G.filter C.hasG).length := by
    have := congrArg List.length (C.rowG_files a G (C.st a))
    rw [List.length_map, List.length_map] at this
    exact this
  rcases h with ⟨e, h1, h2, h3, h4, h5⟩ | ⟨L', P, e, h1, h2, h3, h4, h5⟩
  · refine Or.inl ⟨?_, h1⟩
    rw [e] at hlen
    unfold C.openG
    rw [List.eq_nil_of_length_eq_zero hlen.symm]
    rfl
  · have hg : (C.rowG a G)[L'.length]? = some P := by rw [e]; simp
    obtain ⟨g, g1, g2, g3, g4⟩ := C.rowG_get a G (C.st a) _ P hg
    rw [e, List.length_append, List.length_singleton] at hlen
    have hsp : G.filter C.hasG = (G.filter C.hasG).take L'.length ++ [g] := by
      obtain ⟨hk, hgk⟩ := List.getElem?_eq_some_iff.1 g1
      conv => lhs; rw [← List.take_append_drop L'.length (G.filter C.hasG), List.drop_eq_getElem_cons hk, List.drop_eq_nil_of_le (by omega), hgk]
    refine Or.inr ⟨((G.filter C.hasG).take L'.length).map C.Gr.sf, g.sf, ?_, by rw [h1, g2]; rfl, fun htt x hx => ?_⟩
    · unfold C.openG
      conv => lhs; rw [hsp]
      rw [List.map_append]; rfl
    · rw [h4] at htt
      have h6 : P.tl = [] := by simpa [C.Pc.torn] using htt
      rw [g3] at h6
      obtain ⟨y, hy, rfl⟩ := List.mem_map.1 hx
      exact List.flatMap_eq_nil_iff.1 h6 y hy
theorem dlog_open (w : World) (d : Nat) (S : Nat → Prop) (s : C.St) (a : Nat) (G : List C.Gr) (base : List UInt8) (recs : List (List UInt8)) (n M part : Nat) (h : DLog w d S s a G base recs n M) (hT : Tabs w) (hM : M ≤ 1000000) (hoff : s.off = false) (hp : 1 ≤ part ∧ part ≤ 1000) (hlen : recs.length ≤ 1000000) :
    Calls Tryz.prog 11 #[.pointer (some ⟨d, 0, none⟩), .int .i64 (part : Nat)] w fun e w' => (∃ gl c s' G', e = .returned (.tuple #[.pointer (some ⟨gl, 0, none⟩), .int .i64 0]) ∧ c.d = d ∧ c.part = part ∧ w.heap.size ≤ gl ∧ LogM w' gl c (Ext w w' S) s' a G' base recs recs n M ∧ s'.lives = s.lives ∧ s'.room = s.room ∧ (∀ x ∈ C.flat G', x.safe = true) ∧ (C.Clean G → C.Clean G')) ∧ Turn w w' S := by
  obtain ⟨Sd, hd, hs⟩ := h.disk
  refine (open_ok w d Sd s part a G base recs hd hT (Nat.le_trans h.bud.made hM) hoff hp h.log h.base0 h.hold hlen).mono ?_
  rintro e w' ⟨gl, c, rfl, ⟨c1, c2, c3, c4, c5⟩, ht, hmem, hdk, htu⟩
  obtain ⟨g1, g2, g3⟩ := h.log.open_ hd.ok
  obtain ⟨k1, k2, k3, k4⟩ := C.openS_keeps s a G
  have hR0 : C.rowG a G = [] → a = 0 := fun e => by
    have h1 := h.hold
    rw [← C.rowG_recs, e] at h1
    by_cases ha : a = 0
    · exact ha
    · simp [C.whole, ha] at h1
  have hRR : (C.rowG a G).flatMap C.Pc.recs = C.whole a base recs := by rw [C.rowG_recs]; exact h.hold
  have hres := (C.row_whole C.rowG_chain C.rowG_has hR0 h.base0 hRR).2
  have htc : c.tc ≤ recs.length := by
    rcases ht with ⟨_, _, h2, _⟩ | ⟨L', P, e, _, h2, _⟩
    · rw [h2]; exact Nat.zero_le _
    · rw [h2, ← hres, e, C.resL_snoc, List.length_append]; omega
  refine ⟨⟨gl, c, C.openS s a G, C.openG G, rfl, c1, c4, hmem.mem.1, ⟨⟨_, Sd, [], hmem, by rw [c1]; exact hdk, fun b hb => Or.inr hb, fun b hb => Or.inl (hs b hb), fun b hb hb2 => ?_, fun x hx hxs => ?_, fun f hf => (by cases hf), Nat.zero_le _⟩, ext_lt h.lt htu, g1, by rw [g2]; exact h.hold, h.base0, tail_of ht, htc, k1.trans hoff, c2.trans k2.symm, c3, c5, by rw [c4]; exact hp, h.bud.open_ a G⟩, k2, k4, g3, fun hcl => (hcl.filter _).sf⟩, htu.mono hs⟩
  · have := h.lt b (hs b hb2)
    omega
  · have := g3 x hx
    rw [hxs] at this; cases this
end Go.Proofs.YtnhplbdbgiimkaaGreatDoor

namespace Go.Proofs.YtnhplbdbgiimkaaGreatDoor
open Go.RowKit Go.Lib
set_option linter.unusedVariables false

set_option maxRecDepth 100000 in
set_option maxHeartbeats 4000000 in
theorem mend_any (w : World) (g : Nat) (c : LgC) (S : Nat → Prop) (s : C.St) (h : LgAt w g c) (hd : Disk w c.d S s) (hm : s.made ≤ 1000000) (hoff : s.off = false) (hfew : (C.fs s).length < 999) :
    Calls Tryz.prog 34 #[.pointer (some ⟨g, 0, none⟩)] w fun e w' => e = .returned (.bool true) ∧ Below w.heap.size w w' := by
  have HFR : Hid _ := free_any w g c S s h hd hm hoff
  have c10 : w.cell? ⟨g, 10, none⟩ = some (.bool c.tt) := (h.cell 10).trans rfl
  have hone : (1 : Int) < 1000 - ((C.fs s).length : Int) := by omega
  generalize C.fs s = F at HFR hone
  clear h hd hm hoff hfew
  cases htt : c.tt with
  | false =>
    rw [htt] at c10
    clear htt HFR hone
    go_enter Tryz.func34, Tryz.ntmps34
    go_wp2
    go_ret
    exact ⟨rfl, Below.refl _ _⟩
  | true =>
    rw [htt] at c10
    clear htt
    go_enter Tryz.func34, Tryz.ntmps34
    go_wp2_with fail
    refine Calls.mono HFR.out ?_
    rintro e w5 ⟨⟨f, rfl, hf1, hf2⟩, hb5⟩
    have HB5 : Hid (Below w.heap.size w w5) := hb5
    clear hb5 hf1 hf2 HFR c10
    go_wp2
    go_ret
    exact ⟨rfl, HB5.out⟩
end Go.Proofs.YtnhplbdbgiimkaaGreatDoor
