/-
  rostrumref5.Disk: Crash: its walk.
-/
import Derived.Test.YtlfcpgncgldieaaRCrash
import Derived.Test.YtlfcpgncgldieaaWCrash2
namespace Go.Proofs.Ytlfcpgncgldieaa
open Go.RowKit Go.Lib Go.Maps
open C (upd upd_same upd_other)
set_option linter.unusedVariables false

/-- Crash's end: the new row is laid into the disk. -/
theorem rcrash_end {w wa W6 : World} {g : Nat} {S : Nat → Prop} {s : C.St} {v v3 : Value} {ls : List RW} {keep torn : Int} (M : RMem w g v ls s) (hF : ∀ b, RFoot g v ls b → S b) (hS : ∀ b, S b → b < w.heap.size)
    (ha : wa = w.setCell ⟨g, 1002, none⟩ (.bool true)) (hb : Below w.heap.size wa W6) (h3 : OwnR W6 v3 (crR keep torn 0 ls)) (n3 : ∀ b, v3.ownBlock = some b → w.heap.size ≤ b) :
    Ref (W6.setCell ⟨g, 1001, none⟩ v3) g (Ext w (W6.setCell ⟨g, 1001, none⟩ v3) S) (C.crashS s keep torn) ∧ Turn w (W6.setCell ⟨g, 1001, none⟩ v3) S := by
  subst ha
  have hsz : (w.setCell ⟨g, 1002, none⟩ (.bool true)).heap.size = w.heap.size := by simp [World.setCell]
  have hgS : S g := hF g (Or.inl rfl)
  have hgl : g < w.heap.size := hS g hgS
  have ht : Turn w (W6.setCell ⟨g, 1001, none⟩ v3) S := by
    refine Turn.setCell (Turn.trans ((Turn.refl w S).setCell hgS (.bool true)) (Turn.of_below (S := fun _ => False) (hsz ▸ hb)) (fun x h => h.elim)) hgS v3
  have hsz2 : (W6.setCell ⟨g, 1001, none⟩ v3).heap.size = W6.heap.size := by simp [World.setCell]
  have hold : ∀ b, b < w.heap.size → b ≠ g → (W6.setCell ⟨g, 1001, none⟩ v3).heap[b]? = w.heap[b]? := fun b hb' hne => by
    rw [set_other hne, hb.block b hb', set_other hne]
  refine ⟨⟨v3, crR keep torn 0 ls, ⟨?_, ?_, ?_, ?_, crR_inj M.inj⟩, ?_, ?_⟩, ht⟩
  · obtain ⟨cs, hb0, hc⟩ := M.blk
    have hb6 : W6.heap[g]? = some (.cells (cs.setIfInBounds 1002 (.bool true)) 42) := by
      rw [hb.block g hgl]; exact set_block hb0
    exact ⟨_, set_block hb6, ((hc.setOff true).setRow v3).congr rfl (fun _ _ => rfl) rfl rfl⟩
  · rw [crR_fst, M.ws]; rfl
  · exact row_same h3 fun b hb' => set_other (fun e => by have := n3 b hb'; omega)
  · refine crR_own fun p hp => ?_
    exact (M.dat p hp).same fun b hb' => hold b (row_lt (M.dat p hp) hb') (M.d_g hp hb')
  · intro b hb'
    rcases hb' with rfl | hb' | ⟨p, hp, hb'⟩
    · exact Or.inl hgS
    · exact Or.inr ⟨n3 b hb', by rw [hsz2]; exact row_lt h3 hb'⟩
    · obtain ⟨x, hx, m, rfl⟩ := crR_mem hp
      exact Or.inl (hF b (Or.inr (Or.inr ⟨x, hx, crE_block hb'⟩)))
  · intro b hb'
    rcases hb' with hb' | hb'
    · exact Nat.lt_of_lt_of_le (hS b hb') ht.size
    · exact hb'.2
theorem rcr_step {W : World} {keep torn : Int} {ls : List RW} {ws : List C.Wr} {k : Nat} {x y : C.Wr} {u u' vc : Value} (hws : ls.map Prod.fst = ws) (hx : ls[k]? = some (x, u)) (he : crE keep torn (C.pend (ws.take k)).length (x, u) = (y, u'))
    (hr : W.ownsRow 0 70 3 vc ((crR keep torn 0 (ls.take k)).length + 1) (rowR (crR keep torn 0 (ls.take k)) ++ rowR [(y, u')])) : OwnR W vc (crR keep torn 0 (ls.take (k + 1))) := by
  have e1 : crR keep torn 0 (ls.take (k + 1)) = crR keep torn 0 (ls.take k) ++ [(y, u')] := by
    rw [C.take_snoc hx, crR_snoc, Nat.zero_add, List.map_take, hws, he]
  rw [e1]
  exact ownR_of_row hr (rowR_append _ _) (by simp)
theorem rcr_next {wa wr W6 : World} {c1 c2 : Array Value} {t1 t2 : TypeId} {v6 vc : Value} (hb : Below wa.heap.size wa wr) (hn : ∀ b, v6.ownBlock = some b → wa.heap.size ≤ b) (hg : ((wr.alloc (.cells c1 t1)).alloc (.cells c2 t2)).grownBy W6 v6.ownBlock) (hl : vc.ownBlock = v6.ownBlock ∨ vc.ownBlock = some ((wr.alloc (.cells c1 t1)).alloc (.cells c2 t2)).heap.size) :
    Below wa.heap.size wa W6 ∧ ∀ b, vc.ownBlock = some b → wa.heap.size ≤ b := by
  have hs := hb.size
  refine ⟨((hb.alloc hs (.cells c1 t1)).alloc (by simp; omega) (.cells c2 t2)).grown hg (by simp; omega) hn, fun b hb' => ?_⟩
  rcases hl with h | h
  · exact hn b (h ▸ hb')
  · rw [h] at hb'; cases hb'; simp; omega
theorem rcr_own {wr : World} {c1 c2 : Array Value} {t1 t2 : TypeId} {v6 : Value} {n : Nat} {xs : List Value} (h : wr.ownsRow 0 70 3 v6 n xs) : ((wr.alloc (.cells c1 t1)).alloc (.cells c2 t2)).ownsRow 0 70 3 v6 n xs :=
  row_same h fun b hb => (Below.heap_alloc _ _ _ (by have := row_lt h hb; simp; omega)).trans (Below.heap_alloc _ _ _ (row_lt h hb))
set_option maxRecDepth 100000 in
set_option maxHeartbeats 8000000 in
theorem rcrash_any (w : World) (g : Nat) (S : Nat → Prop) (s : C.St) (keep torn : Int) (h : Ref w g S s) (hok : s.Ok) (hm : s.made ≤ 1000000) (hk1 : -9223372036854775808 ≤ keep) (hk2 : keep ≤ 9223372036854775807) (ht1 : -9223372036854775808 ≤ torn) (ht2 : torn ≤ 9223372036854775807) :
    Calls Try.prog 22 #[.pointer (some ⟨g, 0, none⟩), .int .i64 keep, .int .i64 torn] w fun e w' => e = .returned (.tuple #[]) ∧ Ref w' g (Ext w w' S) (C.crashS s keep torn) ∧ Turn w w' S := by
  obtain ⟨v1, -, -, -, c2, -, cf⟩ := h.cells
  have cf2 := cf 1002
  obtain ⟨v, ls, M, hF, hS⟩ := h
  have hlen := M.len
  have hll : ls.length ≤ 1000000 := by rw [hlen]; exact Nat.le_trans (C.ws_le hok) hm
  obtain ⟨q, c, hv⟩ := OwnR.shape M.row
  rw [hv] at M hF
  have HM : Hid (RMem w g (.slice q ls.length c) ls s) := M
  have HF : Hid _ := hF
  have HS : Hid _ := hS
  obtain ⟨n, hn⟩ : ∃ n, n = ls.length := ⟨_, rfl⟩
  rw [← hn] at HM hll HF
  have HN : Hid _ := hn
  clear M hv hF hS hlen hn hok hm cf
  go_enter Try.func22, Try.ntmps22
  go_upto_region 1 with fail
  refine wp_here ?_
  intro wa hwa
  have hszA : wa.heap.size = w.heap.size := by rw [hwa]; simp [World.setCell]
  have HMA : Hid (RMem wa g (.slice q n c) ls { s with off := true }) := by
    rw [hwa]
    exact (HM.out : RMem _ _ _ _ _).head (fun cs hb hc => ⟨_, set_block hb, hc.setOff true⟩) rfl (fun b _ hne => set_other hne)
  have HFA : Hid (wa.frozen? ⟨g, 1001, none⟩ = false) := by
    obtain ⟨cs, hb0, hc⟩ := (HMA.out : RMem _ _ _ _ _).blk
    exact blk_free hb0 1001
  have HWA : Hid _ := hwa
  have HSZA : Hid _ := hszA
  clear hwa hszA c2 cf2
  go_wp2
  go_loopw [6, 7, 8] (fun v6 z i wr => ∃ (k : Nat) (p6 : Option Addr) (m6 d6 : Nat), k ≤ n ∧ i = .int .i64 (k : Int) ∧ z = .int .i64 (((C.pend (s.ws.take k)).length : Nat) : Int) ∧ v6 = .slice p6 m6 d6 ∧ OwnR wr (.slice p6 m6 d6) (crR keep torn 0 (ls.take k)) ∧ (∀ b, (Value.slice p6 m6 d6).ownBlock = some b → wa.heap.size ≤ b) ∧ Below wa.heap.size wa wr) (fun _ _ i _ => n - (intOf i).toNat)
  case atStart => exact ⟨0, none, 0, 0, Nat.zero_le _, rfl, rfl, rfl, OwnR.nil _, (fun b hb => by cases hb), Below.refl _ _⟩
  case round =>
    obtain ⟨k, p6, m6, d6, hk, rfl, rfl, rfl, ho, hnew, hb⟩ := hrel
    have HO : Hid (OwnR wr (.slice p6 m6 d6) (crR keep torn 0 (ls.take k))) := ho
    have HNW : Hid _ := hnew
    have HB : Hid (Below wa.heap.size wa wr) := hb
    have HMW : Hid (RMem wr g (.slice q n c) ls { s with off := true }) := RMem.below HMA.out hb
    have c1 := RMem.c1 HMW.out
    have hpl : (C.pend (s.ws.take k)).length ≤ 1000000 := by
      refine Nat.le_trans (List.length_filter_le _ _) (Nat.le_trans (List.length_take_le _ _) ?_)
      omega
    clear ho hnew hb
    by_cases hlt : k < n
    · obtain ⟨rb, x, u, hp, hnc, hcm, hx, hsx, hox, x0, x1, x2, _⟩ := RMem.get HMW.out HN.out hlt
      subst hp
      obtain ⟨q2, m2, d2, rfl, hi2⟩ := Own.is hox
      have HM2 : Hid (m2 = x.bytes.length) := hi2.1
      have hcap := Own.cap hox
      have hd2 : d2 ≤ 9223372036854775807 := Nat.le_trans hcap.2.2.1 (by decide)
      have hmd : m2 ≤ d2 := hcap.2.1
      have hsome := hcap.2.2.2
      have hcm' : c ≤ 9223372036854775807 := Nat.le_trans hcm (by decide)
      have hki : (k : Int) < (n : Int) := by omega
      have HPN : Hid ((C.pend (s.ws.take (k + 1))).length = (C.pend (s.ws.take k)).length + if x.safe = true then 0 else 1) := C.pend_snoc hsx
      have HX : Hid (ls[k]? = some (x, .slice q2 m2 d2)) := hx
      have hcl : (crR keep torn 0 (ls.take k)).length ≤ 1000000 := by rw [crR_len, List.length_take]; omega
      have HN1 : Hid ((crR keep torn 0 (ls.take k)).length + 1 ≤ maxLen) := by show _ ≤ _; unfold maxLen; omega
      have HN2 : Hid (((crR keep torn 0 (ls.take k)).length + 1) * 40 ≤ 140737488355328) := by show _ ≤ _; omega
      clear hsx hx hcm hox hi2 hcap hcl
      cases hs : x.safe with
      | true =>
        have HSF : Hid (x.safe = true) := hs
        rw [hs] at x2
        have HE : Hid (crE keep torn (C.pend (s.ws.take k)).length (x, .slice q2 m2 d2) = (x, .slice q2 m2 d2)) := by
          show _ = _
          unfold crE; rw [if_pos hs]
        have HR5 : Hid (SrcAt ((wr.alloc (.cells #[.int .i64 (x.file : Nat), .slice q2 m2 d2, .bool true] 70)).alloc (.cells #[.int .i64 (x.file : Nat), .slice q2 m2 d2, .bool true] 70)) 3 (.slice (some ⟨wr.heap.size + 1, 0, none⟩) 1 1) 1 (rowR [(x, .slice q2 m2 d2)])) := by
          have := row_one_r (wr.alloc (.cells #[.int .i64 (x.file : Nat), .slice q2 m2 d2, .bool true] 70)) (x, .slice q2 m2 d2)
          simp only [World.size_alloc] at this
          rw [hs] at this
          exact this
        have HO5 : Hid (((wr.alloc (.cells #[.int .i64 (x.file : Nat), .slice q2 m2 d2, .bool true] 70)).alloc (.cells #[.int .i64 (x.file : Nat), .slice q2 m2 d2, .bool true] 70)).ownsRow 0 70 3 (.slice p6 m6 d6) (crR keep torn 0 (ls.take k)).length (rowR (crR keep torn 0 (ls.take k)))) := rcr_own HO.out
        have HEE : Hid _ := HE.out
        clear HE hs
        go_wp2_with (at_builtin; go_must (refine wpList_append_src Try.underlying40 info_rw rfl (by decide) rfl _ _ rfl rfl HO5.out rfl HR5.out (rowR_one (fun x hx => by simp only [List.mem_singleton] at hx; subst hx; rfl)) HN1.out HN2.out ?_); intro vc W6 hrc hgc hlc; obtain ⟨hB6, hn6⟩ := rcr_next HB.out HNW.out hgc hlc; obtain ⟨pc, nc, cc, rfl⟩ : ∃ p n c, vc = .slice p n c := by (obtain ⟨p1, c1, e1, _⟩ := row_nil hrc; exact ⟨_, _, _, e1⟩))
        have HO6 : Hid _ := rcr_step (RMem.ws HM.out) HX.out HEE.out hrc
        have HB6 : Hid _ := hB6
        have HN6 : Hid _ := hn6
        clear hrc hgc hlc hB6 hn6
        go_roundw
        case rel => exact ⟨k + 1, pc, nc, cc, by omega, by go_num, by rw [HPN.out]; simp [HSF.out], rfl, HO6.out, HN6.out, HB6.out⟩
        case measure => simp [intOf]; omega
      | false =>
        have HSF : Hid (x.safe = false) := hs
        rw [hs] at x2
        have hcE : crE keep torn (C.pend (s.ws.take k)).length (x, .slice q2 m2 d2) = ({ x with bytes := C.cutW keep torn (C.pend (s.ws.take k)).length x.bytes, safe := true }, cutV keep torn (C.pend (s.ws.take k)).length (.slice q2 m2 d2)) := by unfold crE; rw [if_neg (by rw [hs]; simp)]
        have HCE : Hid _ := hcE
        clear hcE
        by_cases hkk : (((C.pend (s.ws.take k)).length : Nat) : Int) < keep
        · skip
          have HE : Hid (crE keep torn (C.pend (s.ws.take k)).length (x, .slice q2 m2 d2) = ({ x with bytes := C.cutW keep torn (C.pend (s.ws.take k)).length x.bytes, safe := true }, .slice q2 m2 d2)) := by
            show _ = _
            rw [HCE.out]; unfold cutV; rw [if_pos hkk]
          have HR5 : Hid (SrcAt ((wr.alloc (.cells #[.int .i64 (x.file : Nat), .slice q2 m2 d2, .bool true] 70)).alloc (.cells #[.int .i64 (x.file : Nat), .slice q2 m2 d2, .bool true] 70)) 3 (.slice (some ⟨wr.heap.size + 1, 0, none⟩) 1 1) 1 (rowR [({ x with bytes := C.cutW keep torn (C.pend (s.ws.take k)).length x.bytes, safe := true }, .slice q2 m2 d2)])) := by
            have := row_one_r (wr.alloc (.cells #[.int .i64 (x.file : Nat), .slice q2 m2 d2, .bool true] 70)) ({ x with bytes := C.cutW keep torn (C.pend (s.ws.take k)).length x.bytes, safe := true }, .slice q2 m2 d2)
            simp only [World.size_alloc] at this
            skip
            exact this
          have HO5 : Hid (((wr.alloc (.cells #[.int .i64 (x.file : Nat), .slice q2 m2 d2, .bool true] 70)).alloc (.cells #[.int .i64 (x.file : Nat), .slice q2 m2 d2, .bool true] 70)).ownsRow 0 70 3 (.slice p6 m6 d6) (crR keep torn 0 (ls.take k)).length (rowR (crR keep torn 0 (ls.take k)))) := rcr_own HO.out
          have HEE : Hid _ := HE.out
          clear HE hs
          go_wp2_with (at_builtin; go_must (refine wpList_append_src Try.underlying40 info_rw rfl (by decide) rfl _ _ rfl rfl HO5.out rfl HR5.out (rowR_one (fun x hx => by simp only [List.mem_singleton] at hx; subst hx; rfl)) HN1.out HN2.out ?_); intro vc W6 hrc hgc hlc; obtain ⟨hB6, hn6⟩ := rcr_next HB.out HNW.out hgc hlc; obtain ⟨pc, nc, cc, rfl⟩ : ∃ p n c, vc = .slice p n c := by (obtain ⟨p1, c1, e1, _⟩ := row_nil hrc; exact ⟨_, _, _, e1⟩))
          have HO6 : Hid _ := rcr_step (RMem.ws HM.out) HX.out HEE.out hrc
          have HB6 : Hid _ := hB6
          have HN6 : Hid _ := hn6
          clear hrc hgc hlc hB6 hn6
          go_roundw
          case rel => exact ⟨k + 1, pc, nc, cc, by omega, by go_num, by rw [HPN.out]; simp [HSF.out], rfl, HO6.out, HN6.out, HB6.out⟩
          case measure => simp [intOf]; omega
        by_cases hke : (((C.pend (s.ws.take k)).length : Nat) : Int) = keep
        · by_cases htn : 0 < torn
          · by_cases htl : torn < (m2 : Int)
            · obtain ⟨db, rfl⟩ := hsome (by omega)
              have htd : torn ≤ (d2 : Int) := by omega
              have hke1 : ((((C.pend (s.ws.take k)).length : Nat) : Int) == keep) = true := by simpa using hke
              have HE : Hid (crE keep torn (C.pend (s.ws.take k)).length (x, .slice (some ⟨db, 0, none⟩) m2 d2) = ({ x with bytes := C.cutW keep torn (C.pend (s.ws.take k)).length x.bytes, safe := true }, .slice (some ⟨db, 0, none⟩) torn.toNat d2)) := by
                show _ = _
                rw [HCE.out]; unfold cutV; rw [if_neg hkk, if_pos ⟨hke, htn⟩]; simp only [htl, if_true]
              have HR5 : Hid (SrcAt ((wr.alloc (.cells #[.int .i64 (x.file : Nat), .slice (some ⟨db, 0, none⟩) torn.toNat d2, .bool true] 70)).alloc (.cells #[.int .i64 (x.file : Nat), .slice (some ⟨db, 0, none⟩) torn.toNat d2, .bool true] 70)) 3 (.slice (some ⟨wr.heap.size + 1, 0, none⟩) 1 1) 1 (rowR [({ x with bytes := C.cutW keep torn (C.pend (s.ws.take k)).length x.bytes, safe := true }, .slice (some ⟨db, 0, none⟩) torn.toNat d2)])) := by
                have := row_one_r (wr.alloc (.cells #[.int .i64 (x.file : Nat), .slice (some ⟨db, 0, none⟩) torn.toNat d2, .bool true] 70)) ({ x with bytes := C.cutW keep torn (C.pend (s.ws.take k)).length x.bytes, safe := true }, .slice (some ⟨db, 0, none⟩) torn.toNat d2)
                simp only [World.size_alloc] at this
                skip
                exact this
              have HO5 : Hid (((wr.alloc (.cells #[.int .i64 (x.file : Nat), .slice (some ⟨db, 0, none⟩) torn.toNat d2, .bool true] 70)).alloc (.cells #[.int .i64 (x.file : Nat), .slice (some ⟨db, 0, none⟩) torn.toNat d2, .bool true] 70)).ownsRow 0 70 3 (.slice p6 m6 d6) (crR keep torn 0 (ls.take k)).length (rowR (crR keep torn 0 (ls.take k)))) := rcr_own HO.out
              have HEE : Hid _ := HE.out
              clear HE hs
              go_wp2_with (at_builtin; go_must (refine wpList_append_src Try.underlying40 info_rw rfl (by decide) rfl _ _ rfl rfl HO5.out rfl HR5.out (rowR_one (fun x hx => by simp only [List.mem_singleton] at hx; subst hx; rfl)) HN1.out HN2.out ?_); intro vc W6 hrc hgc hlc; obtain ⟨hB6, hn6⟩ := rcr_next HB.out HNW.out hgc hlc; obtain ⟨pc, nc, cc, rfl⟩ : ∃ p n c, vc = .slice p n c := by (obtain ⟨p1, c1, e1, _⟩ := row_nil hrc; exact ⟨_, _, _, e1⟩))
              have HO6 : Hid _ := rcr_step (RMem.ws HM.out) HX.out HEE.out hrc
              have HB6 : Hid _ := hB6
              have HN6 : Hid _ := hn6
              clear hrc hgc hlc hB6 hn6
              go_roundw
              case rel => exact ⟨k + 1, pc, nc, cc, by omega, by go_num, by rw [HPN.out]; simp [HSF.out]; exact hke.symm, rfl, HO6.out, HN6.out, HB6.out⟩
              case measure => simp [intOf]; omega
            · have hke1 : ((((C.pend (s.ws.take k)).length : Nat) : Int) == keep) = true := by simpa using hke
              have HE : Hid (crE keep torn (C.pend (s.ws.take k)).length (x, .slice q2 m2 d2) = ({ x with bytes := C.cutW keep torn (C.pend (s.ws.take k)).length x.bytes, safe := true }, .slice q2 m2 d2)) := by
                show _ = _
                rw [HCE.out]; unfold cutV; rw [if_neg hkk, if_pos ⟨hke, htn⟩]; simp only [htl, if_false]
              have HR5 : Hid (SrcAt ((wr.alloc (.cells #[.int .i64 (x.file : Nat), .slice q2 m2 d2, .bool true] 70)).alloc (.cells #[.int .i64 (x.file : Nat), .slice q2 m2 d2, .bool true] 70)) 3 (.slice (some ⟨wr.heap.size + 1, 0, none⟩) 1 1) 1 (rowR [({ x with bytes := C.cutW keep torn (C.pend (s.ws.take k)).length x.bytes, safe := true }, .slice q2 m2 d2)])) := by
                have := row_one_r (wr.alloc (.cells #[.int .i64 (x.file : Nat), .slice q2 m2 d2, .bool true] 70)) ({ x with bytes := C.cutW keep torn (C.pend (s.ws.take k)).length x.bytes, safe := true }, .slice q2 m2 d2)
                simp only [World.size_alloc] at this
                skip
                exact this
              have HO5 : Hid (((wr.alloc (.cells #[.int .i64 (x.file : Nat), .slice q2 m2 d2, .bool true] 70)).alloc (.cells #[.int .i64 (x.file : Nat), .slice q2 m2 d2, .bool true] 70)).ownsRow 0 70 3 (.slice p6 m6 d6) (crR keep torn 0 (ls.take k)).length (rowR (crR keep torn 0 (ls.take k)))) := rcr_own HO.out
              have HEE : Hid _ := HE.out
              clear HE hs
              go_wp2_with (at_builtin; go_must (refine wpList_append_src Try.underlying40 info_rw rfl (by decide) rfl _ _ rfl rfl HO5.out rfl HR5.out (rowR_one (fun x hx => by simp only [List.mem_singleton] at hx; subst hx; rfl)) HN1.out HN2.out ?_); intro vc W6 hrc hgc hlc; obtain ⟨hB6, hn6⟩ := rcr_next HB.out HNW.out hgc hlc; obtain ⟨pc, nc, cc, rfl⟩ : ∃ p n c, vc = .slice p n c := by (obtain ⟨p1, c1, e1, _⟩ := row_nil hrc; exact ⟨_, _, _, e1⟩))
              have HO6 : Hid _ := rcr_step (RMem.ws HM.out) HX.out HEE.out hrc
              have HB6 : Hid _ := hB6
              have HN6 : Hid _ := hn6
              clear hrc hgc hlc hB6 hn6
              go_roundw
              case rel => exact ⟨k + 1, pc, nc, cc, by omega, by go_num, by rw [HPN.out]; simp [HSF.out]; exact hke.symm, rfl, HO6.out, HN6.out, HB6.out⟩
              case measure => simp [intOf]; omega
          · have hke1 : ((((C.pend (s.ws.take k)).length : Nat) : Int) == keep) = true := by simpa using hke
            have HE : Hid (crE keep torn (C.pend (s.ws.take k)).length (x, .slice q2 m2 d2) = ({ x with bytes := C.cutW keep torn (C.pend (s.ws.take k)).length x.bytes, safe := true }, .slice none 0 0)) := by
              show _ = _
              rw [HCE.out]; unfold cutV; rw [if_neg hkk, if_neg (fun h => htn h.2)]
            have HR5 : Hid (SrcAt ((wr.alloc (.cells #[.int .i64 (x.file : Nat), .slice none 0 0, .bool true] 70)).alloc (.cells #[.int .i64 (x.file : Nat), .slice none 0 0, .bool true] 70)) 3 (.slice (some ⟨wr.heap.size + 1, 0, none⟩) 1 1) 1 (rowR [({ x with bytes := C.cutW keep torn (C.pend (s.ws.take k)).length x.bytes, safe := true }, .slice none 0 0)])) := by
              have := row_one_r (wr.alloc (.cells #[.int .i64 (x.file : Nat), .slice none 0 0, .bool true] 70)) ({ x with bytes := C.cutW keep torn (C.pend (s.ws.take k)).length x.bytes, safe := true }, .slice none 0 0)
              simp only [World.size_alloc] at this
              skip
              exact this
            have HO5 : Hid (((wr.alloc (.cells #[.int .i64 (x.file : Nat), .slice none 0 0, .bool true] 70)).alloc (.cells #[.int .i64 (x.file : Nat), .slice none 0 0, .bool true] 70)).ownsRow 0 70 3 (.slice p6 m6 d6) (crR keep torn 0 (ls.take k)).length (rowR (crR keep torn 0 (ls.take k)))) := rcr_own HO.out
            have HEE : Hid _ := HE.out
            clear HE hs
            go_wp2_with (at_builtin; go_must (refine wpList_append_src Try.underlying40 info_rw rfl (by decide) rfl _ _ rfl rfl HO5.out rfl HR5.out (rowR_one (fun x hx => by simp only [List.mem_singleton] at hx; subst hx; rfl)) HN1.out HN2.out ?_); intro vc W6 hrc hgc hlc; obtain ⟨hB6, hn6⟩ := rcr_next HB.out HNW.out hgc hlc; obtain ⟨pc, nc, cc, rfl⟩ : ∃ p n c, vc = .slice p n c := by (obtain ⟨p1, c1, e1, _⟩ := row_nil hrc; exact ⟨_, _, _, e1⟩))
            have HO6 : Hid _ := rcr_step (RMem.ws HM.out) HX.out HEE.out hrc
            have HB6 : Hid _ := hB6
            have HN6 : Hid _ := hn6
            clear hrc hgc hlc hB6 hn6
            go_roundw
            case rel => exact ⟨k + 1, pc, nc, cc, by omega, by go_num, by rw [HPN.out]; simp [HSF.out]; exact hke.symm, rfl, HO6.out, HN6.out, HB6.out⟩
            case measure => simp [intOf]; omega
        · have hke1 : ((((C.pend (s.ws.take k)).length : Nat) : Int) == keep) = false := by simpa using hke
          have HE : Hid (crE keep torn (C.pend (s.ws.take k)).length (x, .slice q2 m2 d2) = ({ x with bytes := C.cutW keep torn (C.pend (s.ws.take k)).length x.bytes, safe := true }, .slice none 0 0)) := by
            show _ = _
            rw [HCE.out]; unfold cutV; rw [if_neg hkk, if_neg (fun h => hke h.1)]
          have HR5 : Hid (SrcAt ((wr.alloc (.cells #[.int .i64 (x.file : Nat), .slice none 0 0, .bool true] 70)).alloc (.cells #[.int .i64 (x.file : Nat), .slice none 0 0, .bool true] 70)) 3 (.slice (some ⟨wr.heap.size + 1, 0, none⟩) 1 1) 1 (rowR [({ x with bytes := C.cutW keep torn (C.pend (s.ws.take k)).length x.bytes, safe := true }, .slice none 0 0)])) := by
            have := row_one_r (wr.alloc (.cells #[.int .i64 (x.file : Nat), .slice none 0 0, .bool true] 70)) ({ x with bytes := C.cutW keep torn (C.pend (s.ws.take k)).length x.bytes, safe := true }, .slice none 0 0)
            simp only [World.size_alloc] at this
            skip
            exact this
          have HO5 : Hid (((wr.alloc (.cells #[.int .i64 (x.file : Nat), .slice none 0 0, .bool true] 70)).alloc (.cells #[.int .i64 (x.file : Nat), .slice none 0 0, .bool true] 70)).ownsRow 0 70 3 (.slice p6 m6 d6) (crR keep torn 0 (ls.take k)).length (rowR (crR keep torn 0 (ls.take k)))) := rcr_own HO.out
          have HEE : Hid _ := HE.out
          clear HE hs
          go_wp2_with (at_builtin; go_must (refine wpList_append_src Try.underlying40 info_rw rfl (by decide) rfl _ _ rfl rfl HO5.out rfl HR5.out (rowR_one (fun x hx => by simp only [List.mem_singleton] at hx; subst hx; rfl)) HN1.out HN2.out ?_); intro vc W6 hrc hgc hlc; obtain ⟨hB6, hn6⟩ := rcr_next HB.out HNW.out hgc hlc; obtain ⟨pc, nc, cc, rfl⟩ : ∃ p n c, vc = .slice p n c := by (obtain ⟨p1, c1, e1, _⟩ := row_nil hrc; exact ⟨_, _, _, e1⟩))
          have HO6 : Hid _ := rcr_step (RMem.ws HM.out) HX.out HEE.out hrc
          have HB6 : Hid _ := hB6
          have HN6 : Hid _ := hn6
          clear hrc hgc hlc hB6 hn6
          go_roundw
          case rel => exact ⟨k + 1, pc, nc, cc, by omega, by go_num, by rw [HPN.out]; simp [HSF.out], rfl, HO6.out, HN6.out, HB6.out⟩
          case measure => simp [intOf]; omega
    · obtain rfl : k = n := by omega
      have hO := HO.out
      rw [List.take_of_length_le (by rw [← HN.out]; exact Nat.le_refl _)] at hO
      have HOE : Hid (OwnR wr (.slice p6 m6 d6) (crR keep torn 0 ls)) := hO
      have f1 : wr.frozen? ⟨g, 1001, none⟩ = false := by
        obtain ⟨cs, hb0, hc⟩ := (HMW.out : RMem _ _ _ _ _).blk
        exact blk_free hb0 1001
      clear hO
      go_wp2
      go_end0
      exact ⟨rfl, rcrash_end HM.out HF.out HS.out HWA.out (by rw [← HSZA.out]; exact HB.out) HOE.out (by rw [← HSZA.out]; exact HNW.out)⟩
end Go.Proofs.Ytlfcpgncgldieaa
