/-
  disk.Disk.Crash: the walk.
-/
import Derived.Test.YtlfcpgncgldieaaWCrash
namespace Go.Proofs.Ytlfcpgncgldieaa
open Go.RowKit Go.Lib Go.Maps
open C (upd upd_same upd_other)
set_option linter.unusedVariables false

set_option maxRecDepth 100000 in
set_option maxHeartbeats 8000000 in
theorem crash_any (w : World) (g : Nat) (S : Nat → Prop) (s : C.St) (keep torn : Int) (h : Disk w g S s) (hm : s.made ≤ 1000000) (hk1 : -9223372036854775808 ≤ keep) (hk2 : keep ≤ 9223372036854775807) (ht1 : -9223372036854775808 ≤ torn) (ht2 : torn ≤ 9223372036854775807) :
    Calls Try.prog 15 #[.pointer (some ⟨g, 0, none⟩), .int .i64 keep, .int .i64 torn] w fun e w' => e = .returned (.tuple #[]) ∧ Disk w' g (Ext w w' S) (C.crashS s keep torn) ∧ Turn w w' S := by
  obtain ⟨L, hg, his, M, hF, hS, hok⟩ := h
  have hlen := C.ws_le hok
  have hgb := M.blk
  have c4 := blk_cell hgb 4
  have f4 := blk_free hgb 4
  simp only [Head.cells, headOf, List.getElem?_toArray, List.getElem?_cons_succ, List.getElem?_cons_zero] at c4
  have M1 : DMem (w.setCell ⟨L.g, 4, none⟩ (.bool false)) L s.made ⟨s.room, C.used s.ws, s.made, false, s.lives⟩ (C.saf s.ws) (C.dat s.ws) (C.pof s.ws) := M.head _ (by rw [set_block hgb]; simp [Head.cells, headOf]) (fun b _ hne => set_other hne)
  have T1 : Turn w (w.setCell ⟨L.g, 4, none⟩ (.bool false)) S := (Turn.refl w S).setCell (hF _ (Or.inl rfl)) _
  have HP : Hid _ := pending_any _ L _ _ _ _ s.ws M1 (fun k hk => hok.files k (his ▸ hk)) (fun x hx => by rw [his]; exact hok.has x hx) hok.nums (by omega)
  have HM1 : Hid _ := M1
  have HT1 : Hid _ := T1
  have HF : Hid _ := hF
  have HS : Hid _ := hS
  have HIS : Hid _ := his
  rw [hg] at c4 f4 HP
  rw [hg] at HM1 HT1
  have HG : Hid _ := hg
  have hpl := C.pend_le hok
  clear M M1 T1 hF hS hgb his hg hlen
  go_enter Try.func15, Try.ntmps15
  go_wp2_with fail
  refine Calls.mono HP.out ?_
  rintro e w2 ⟨⟨p, c, rfl, hat, hpb⟩, hb2⟩
  have HI : Hid (Cr1 w L S s keep torn p 0 w2) := by
    refine ⟨?_, hat, ?_⟩
    · have := (HM1.out : DMem _ _ _ _ _ _ _).same (w' := w2) (fun b hb => hb2.block b (DMem.foot_lt HM1.out hb))
      exact this.congr (fun k _ => by simp [C.addS]) (fun _ _ => rfl) (fun _ _ => rfl)
    · exact Turn.trans HT1.out (Turn.of_below (S := fun _ => False) hb2) (fun _ h => h.elim)
  have HPB : Hid (∀ a, p = some a → w.heap.size ≤ a.block) := fun a e => by have := hpb a e; simpa [World.setCell] using this
  clear hat hb2 hpb HP HM1 HT1
  obtain ⟨m, hmm⟩ : ∃ m, m = (C.pend s.ws).length := ⟨_, rfl⟩
  rw [← hmm] at hpl ⊢
  have HMM : Hid _ := hmm
  clear hmm
  go_wp2
  go_loopw [17] (fun i wr => ∃ k : Nat, k ≤ m ∧ i = .int .i64 (k : Nat) ∧ Cr1 w L S s keep torn p k wr) (fun i _ => m - (intOf i).toNat)
  case atStart => exact ⟨0, Nat.zero_le _, rfl, HI.out⟩
  case round =>
    obtain ⟨k, hk, rfl, hcr⟩ := hrel
    by_cases hx : k < m ∧ ¬ keep < k
    · obtain ⟨hlt, hkk⟩ := hx
      obtain ⟨x, hx⟩ : ∃ x, (C.pend s.ws)[k]? = some x := ⟨(C.pend s.ws)[k]'(by have := HMM.out; omega), by simp⟩
      obtain ⟨b, rfl, hc⟩ := hcr.2.1 (by have := HMM.out; omega)
      have x0 := hc k x hx 0 _ rfl
      have x1 := hc k x hx 1 _ rfl
      have x2 := hc k x hx 2 _ rfl
      simp only [Nat.add_zero] at x0
      have HCR : Hid _ := hcr
      have HX : Hid _ := hx
      clear hcr hc hx
      go_upto_region 4 with fail
      have hcl := cr1_alloc HCR.out (.cells #[.int .i64 (x.num : Nat), .int .i64 (x.file : Nat), .int .i64 (x.bytes.length : Nat)] 60)
      refine wp_world (fun wl => Cr1 w L S s keep torn (some ⟨b, 0, none⟩) k wl ∧ wl.heap[wr.heap.size]? = some (.cells #[.int .i64 (x.num : Nat), .int .i64 (x.file : Nat), .int .i64 (x.bytes.length : Nat)] 60) ∧ w.heap.size ≤ wr.heap.size) ⟨hcl.1, hcl.2.1, hcl.2.2⟩ ?_
      rintro wl ⟨hcr, hlb, hge⟩
      clear hcl x0 x1 x2 HCR
      obtain ⟨lb, hlbe⟩ : ∃ lb, lb = wr.heap.size := ⟨_, rfl⟩
      rw [← hlbe] at hlb hge ⊢
      clear hlbe
      have x1 := blk_cell hlb 1
      have x2 := blk_cell hlb 2
      simp only [List.getElem?_toArray, List.getElem?_cons_succ, List.getElem?_cons_zero] at x1 x2
      have hxm := C.pend_mem (List.mem_of_getElem? HX.out)
      have hxl : x.bytes.length ≤ 1048576 := by have := C.bytes_le hxm.1; have := hok.used; have := hok.room; omega
      have hxf : L.is x.file = true := by rw [HIS.out]; exact hok.has x hxm.1
      have hxf9 : x.file < 1000 := hok.files _ (hok.has x hxm.1)
      have hgb := hcr.1.blk
      rw [HG.out] at hgb
      have c2 := blk_cell hgb 2
      simp only [Head.cells, List.getElem?_toArray, List.getElem?_cons_succ, List.getElem?_cons_zero] at c2
      have hlk := fun w' (e : w'.heap[L.mb]? = wl.heap[L.mb]?) => IMap.look (hcr.1.map.same e) u_map (z_ptr w') (x.file : Int) (wf_small (by omega) (by omega))
      rw [Lay.at_some (by omega) (by simpa using hxf)] at hlk
      simp only [ptrV, Int.toNat_natCast] at hlk
      have hlk1 := hlk wl.drew rfl
      have hcf := hcr.1.cont _ hxf
      obtain ⟨q, hq⟩ : ∃ q, q = C.saf s.ws x.file + C.addS keep torn 0 ((C.pend s.ws).take k) x.file := ⟨_, rfl⟩
      have hql : q ≤ 1048576 := by have := C.safe_le keep torn s.ws k x.file; have := hok.used; have := hok.room; omega
      rw [← hq] at hcf
      obtain ⟨cf, hcfe⟩ : ∃ cf, cf = L.c x.file := ⟨_, rfl⟩
      rw [← hcfe] at hcf hlk1
      have y1 := blk_cell hcf 1
      have yf1 := blk_free hcf 1
      simp only [List.getElem?_toArray, List.getElem?_cons_succ, List.getElem?_cons_zero] at y1
      obtain ⟨d, hd⟩ : ∃ d, d = C.stay keep torn k x.bytes.length := ⟨_, rfl⟩
      have hdl : d ≤ 1048576 := by have := C.stay_le keep torn k x.bytes.length; omega
      have HSTEP : Hid (∀ n, Cr1 w L S s keep torn (some ⟨b, 0, none⟩) (k + 1) ((wl.setCell ⟨cf, 1, none⟩ (.int .i64 ((q : Int) + (d : Int)))).drewN n)) := fun n => by
        rw [hcfe]; exact cr1_step hcr HX.out hxf HF.out HS.out (HPB.out _ rfl) hq hd
      have HD : Hid _ := hd
      clear hlk hcf hq hcfe hgb hcr hxm hxf hlb hd
      by_cases hke : (k : Int) = keep
      · have e1 : min (max torn 0) (x.bytes.length : Int) = (d : Int) := by
          rw [HD.out]; unfold C.stay; rw [if_neg (by omega), if_pos hke]; omega
        have HE1 : Hid _ := e1
        clear e1
        go_upto_region 8 with fail
        rw [HE1.out]
        go_region
        all_goals
          go_wp2
          go_roundw
          case rel => exact ⟨k + 1, by omega, by go_num, HSTEP.out 1⟩
          case measure => simp [intOf]; omega
      · have e1 : (x.bytes.length : Int) = (d : Int) := by
          rw [HD.out]; unfold C.stay; rw [if_pos (by omega)]
        have HE1 : Hid _ := e1
        clear e1
        go_upto_region 8 with fail
        rw [HE1.out]
        go_region
        all_goals
          go_wp2
          go_roundw
          case rel => exact ⟨k + 1, by omega, by go_num, HSTEP.out 1⟩
          case measure => simp [intOf]; omega
    · have hend : Cr2 w L S s (fun j => C.saf s.ws j + C.addS keep torn 0 (C.pend s.ws) j) (C.used s.ws) wr := cr2_of hcr (by have := HMM.out; omega)
      by_cases hlt : k < m
      case' pos =>
        have hkk : keep < k := by omega
        clear hx
        obtain ⟨x, hx⟩ : ∃ x, (C.pend s.ws)[k]? = some x := ⟨(C.pend s.ws)[k]'(by have := HMM.out; omega), by simp⟩
        obtain ⟨b, rfl, hc⟩ := hcr.2.1 (by have := HMM.out; omega)
        have x0 := hc k x hx 0 _ rfl
        have x1 := hc k x hx 1 _ rfl
        have x2 := hc k x hx 2 _ rfl
        simp only [Nat.add_zero] at x0
        have HE : Hid _ := hend
        clear hcr hc hx hend
        go_upto_region 10 with fail
        refine wp_world (Cr2 w L S s (fun j => C.saf s.ws j + C.addS keep torn 0 (C.pend s.ws) j) (C.used s.ws)) ⟨(HE.out : Cr2 _ _ _ _ _ _ _).1.same fun b hb => Below.heap_alloc _ _ _ (DMem.foot_lt (HE.out : Cr2 _ _ _ _ _ _ _).1 hb), (HE.out : Cr2 _ _ _ _ _ _ _).2.alloc _⟩ ?_
        clear HE x0 x1 x2 hkk hlt
      case' neg =>
        have HE : Hid _ := hend
        clear hcr hend hx
        go_upto_region 10 with fail
        refine wp_world (Cr2 w L S s (fun j => C.saf s.ws j + C.addS keep torn 0 (C.pend s.ws) j) (C.used s.ws)) HE.out ?_
        clear HE hlt
      all_goals
        intro we hend
        have hgb := hend.1.blk
        rw [HG.out] at hgb
        have z1 := blk_cell hgb 1
        have zf1 := blk_free hgb 1
        simp only [Head.cells, List.getElem?_toArray, List.getElem?_cons_succ, List.getElem?_cons_zero] at z1
        have HZ : Hid (Cr2 w L S s (fun j => C.saf s.ws j + C.addS keep torn 0 (C.pend s.ws) j) 0 (we.setCell ⟨g, 1, none⟩ (.int .i64 0))) := by
          have := cr2_zero hend HF.out
          rw [HG.out] at this
          exact this
        clear hend hgb
        go_upto_region 11 with fail
        refine wp_world (Cr2 w L S s (fun j => C.saf s.ws j + C.addS keep torn 0 (C.pend s.ws) j) 0) HZ.out ?_
        clear HZ z1 zf1
        intro wf hz
        have HEND : Hid (∀ r left cnt wr, Cr3 w L S s (fun j => C.saf s.ws j + C.addS keep torn 0 (C.pend s.ws) j) r left left cnt wr → (∀ k, left k = false) → Disk wr L.g (Ext w wr S) (C.crashS s keep torn) ∧ Turn w wr S) := fun r left cnt wr h1 h2 => cr3_end HIS.out HS.out hok h1 h2
        have HSA : Hid (∀ j, (fun j => C.saf s.ws j + C.addS keep torn 0 (C.pend s.ws) j) j ≤ 1048576) := fun j => by
          have := C.safe_le keep torn s.ws (C.pend s.ws).length j
          rw [List.take_length] at this
          have := hok.used; have := hok.room
          show C.saf s.ws j + C.addS keep torn 0 (C.pend s.ws) j ≤ 1048576
          omega
        generalize (fun j => C.saf s.ws j + C.addS keep torn 0 (C.pend s.ws) j) = sa at hz HEND HSA
        have hgb := hz.1.blk
        rw [HG.out] at hgb
        have y2 := blk_cell hgb 2
        simp only [Head.cells, List.getElem?_toArray, List.getElem?_cons_succ, List.getElem?_cons_zero] at y2
        have HMP : Hid (IMap wf L.mb s.made L.at) := hz.1.map
        have HZ : Hid _ := hz
        obtain ⟨mb, hmb⟩ : ∃ mb, mb = L.mb := ⟨_, rfl⟩
        rw [← hmb] at y2 HMP
        have HMB : Hid _ := hmb
        clear hgb hz hmb
        go_wp2_with (at_range; go_must (refine wpList_range_imap rfl _ _ _ rfl u_map HMP.out rfl ?_); intro w0 cnt0 hrg0 hg0 hs0)
        go_frame
        have HC0 : Hid (Cr3 w L S s sa wf.heap.size (fun k => (L.at k).isSome) (fun k => (L.at k).isSome) cnt0 w0) := cr3_start HZ.out HF.out (HMB.out ▸ hrg0) hg0
        clear hrg0 hg0 hs0 y2 HMP HZ
        generalize wf.heap.size = rr at HC0 ⊢
        go_loopw [10] (fun s10 wr => ∃ left cnt, Cr3 w L S s sa rr left left cnt wr) (fun _ wr => wr.rangeLeft mb rr)
        case atStart => exact ⟨_, _, HC0.out⟩
        case round =>
          clear HC0
          obtain ⟨left, cnt, h3⟩ := hrel
          have HR : Hid (IRange wr mb rr s.made L.at left cnt) := by rw [HMB.out]; obtain ⟨_, _, _, _, _, _, h, _⟩ := h3; exact h
          have H3 : Hid _ := h3
          clear h3
          go_wp2_with (at_next; go_must (refine wpList_next_imap rfl _ rfl HR.out rfl ?_ ?_))
          · intro hl
            have he := HEND.out _ _ _ _ H3.out hl
            rw [HG.out] at he
            have HE : Hid _ := he
            clear he hl
            go_wp2
            go_end0
            exact ⟨rfl, HE.out.1, HE.out.2⟩
          · intro xx cc w2 cnt2 hwx hlx hmx hrg2 hlt2 hg2 hs2 hen
            obtain ⟨k2, rfl, hk2, hcc⟩ := Lay.at_inv hmx
            have hk9 : k2 < 1000 := hok.files _ (by rw [← HIS.out]; exact hk2)
            obtain ⟨p1, n1, c1, wv, hcw, how, hfin⟩ := cr3_file (cr3_next H3.out hg2 (HMB.out ▸ hrg2)) hk2 hk9 hlx
            have hdl : (C.dat s.ws k2).length ≤ 1048576 := by have := C.dat_le s.ws k2; have := hok.used; have := hok.room; omega
            rw [← hcc] at hcw hfin
            have HCUT : Hid _ := cut_any w2 cc p1 n1 c1 (sa k2) wv (C.dat s.ws k2) hcw how hdl (HSA.out k2)
            have HFIN : Hid _ := hfin
            have HLT : Hid _ := hlt2
            clear hfin hcw how hdl hk9 hcc hk2 hmx hlx hwx hrg2 hg2 hs2 hlt2
            go_wp2_with fail
            refine Calls.mono HCUT.out ?_
            rintro e w3 ⟨rfl, p3, n3, c3, q1, q2, q3, q4⟩
            obtain ⟨hg3, hne3, hend3⟩ := HFIN.out w3 p3 n3 c3 q1 q2 q3 q4
            have hn3 : n3 ≤ 1048576 := by
              have h1 := (Own.cap q2).1
              have h2 := List.length_take_le (sa k2) (C.dat s.ws k2)
              have h3 := HSA.out k2
              omega
            have hu3 : usL s L.is sa left ≤ 1048576 := by
              have h1 := usL_le HIS.out hok sa left
              have h2 := hok.used
              have h3 := hok.room
              omega
            rw [HG.out] at hg3 hne3 hend3
            generalize usL s L.is sa left = U at hg3 hend3 hu3
            have z1 := blk_cell hg3 1
            have zf1 := blk_free hg3 1
            have y0 := blk_cell q1 0
            simp only [List.getElem?_toArray, List.getElem?_cons_succ, List.getElem?_cons_zero] at z1 y0
            have HEN : Hid (∀ q, Cr3 w L S s sa rr (fun j => left j && !(j == (k2 : Int))) (fun j => left j && !(j == (k2 : Int))) cnt2 ((w3.setCell ⟨g, 1, none⟩ (.int .i64 ((U : Nat) + (n3 : Nat)))).drewN q)) := hend3
            clear hend3 hg3 q1 q2 q3 q4 hen hne3
            go_wp2
            go_region
            all_goals
              go_wp2
              go_roundw
              case rel => exact ⟨_, _, HEN.out 1⟩
              case measure =>
                have h1 : IRange ((w3.setCell ⟨g, 1, none⟩ (.int .i64 ((U : Nat) + (n3 : Nat)))).drewN 1) L.mb rr s.made L.at (fun j => left j && !(j == (k2 : Int))) cnt2 := by obtain ⟨_, _, _, _, _, _, h, _⟩ := HEN.out 1; exact h
                rw [← HMB.out] at h1
                have e1 := IRange.left_eq h1
                have e2 := IRange.left_eq HR.out
                have e3 := HLT.out
                rw [e2]
                exact Nat.lt_of_le_of_lt (Nat.le_of_eq e1) e3
end Go.Proofs.Ytlfcpgncgldieaa
