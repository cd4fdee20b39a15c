/-
  rostrumref5.Disk: Drop.
-/
import Derived.Test.YtlfcpgncgldieaaRSync
namespace Go.Proofs.Ytlfcpgncgldieaa
open Go.RowKit Go.Lib Go.Maps
open C (upd upd_same upd_other)
set_option linter.unusedVariables false

def drR (f : Nat) (ls : List RW) : List RW := ls.filter fun p => !(p.1.file == f)
theorem drR_snoc {f k : Nat} {ls : List RW} {x : RW} (h : ls[k]? = some x) : drR f (ls.take (k + 1)) = drR f (ls.take k) ++ if x.1.file = f then [] else [x] := by
  unfold drR
  rw [C.take_snoc h, List.filter_append]
  by_cases hf : x.1.file = f <;> simp [hf]
theorem drR_fst (f : Nat) (ls : List RW) : (drR f ls).map Prod.fst = C.dropL (ls.map Prod.fst) f := by
  unfold drR C.dropL
  rw [List.filter_map]; rfl
/-- Drop's end: the new row is laid into the disk. -/
theorem rdrop_end {w wa W6 : World} {g f : Nat} {S : Nat → Prop} {s : C.St} {v v3 : Value} {ls : List RW} (M : RMem w g v ls s) (hF : ∀ b, RFoot g v ls b → S b) (hS : ∀ b, S b → b < w.heap.size) (hf : f < 1000)
    (ha : wa = w.setCell ⟨g, 1 + f, none⟩ (.bool false)) (hb : Below w.heap.size wa W6) (h3 : OwnR W6 v3 (drR f ls)) (n3 : ∀ b, v3.ownBlock = some b → w.heap.size ≤ b) :
    Ref (W6.setCell ⟨g, 1001, none⟩ v3) g (Ext w (W6.setCell ⟨g, 1001, none⟩ v3) S) (C.dropS s f) ∧ Turn w (W6.setCell ⟨g, 1001, none⟩ v3) S := by
  subst ha
  have hsz : (w.setCell ⟨g, 1 + f, none⟩ (.bool false)).heap.size = w.heap.size := by simp [World.setCell]
  have hgS : S g := hF g (Or.inl rfl)
  have hgl : g < w.heap.size := hS g hgS
  have ht : Turn w (W6.setCell ⟨g, 1001, none⟩ v3) S := by
    refine Turn.setCell (Turn.trans ((Turn.refl w S).setCell hgS (.bool false)) (Turn.of_below (S := fun _ => False) (hsz ▸ hb)) (fun x h => h.elim)) hgS v3
  have hsz2 : (W6.setCell ⟨g, 1001, none⟩ v3).heap.size = W6.heap.size := by simp [World.setCell]
  have hold : ∀ b, b < w.heap.size → b ≠ g → (W6.setCell ⟨g, 1001, none⟩ v3).heap[b]? = w.heap[b]? := fun b hb' hne => by
    rw [set_other hne, hb.block b hb', set_other hne]
  have hsub : ∀ p ∈ drR f ls, p ∈ ls := fun p hp => (List.mem_filter.1 hp).1
  refine ⟨⟨v3, drR f ls, ⟨?_, ?_, ?_, ?_, M.inj.filter _⟩, ?_, ?_⟩, ht⟩
  · obtain ⟨cs, hb0, hc⟩ := M.blk
    have hb6 : W6.heap[g]? = some (.cells (cs.setIfInBounds (1 + f) (.bool false)) 42) := by
      rw [hb.block g hgl]; exact set_block hb0
    refine ⟨_, set_block hb6, ((hc.setIs hf false).setRow v3).congr rfl (fun k _ => ?_) rfl rfl⟩
    show (s.is k && !(k == f)) = upd s.is f false k
    by_cases e : k = f
    · subst e; rw [upd_same]; simp
    · rw [upd_other _ _ e]; simp [e]
  · rw [drR_fst, M.ws]; rfl
  · exact row_same h3 fun b hb' => set_other (fun e => by have := n3 b hb'; omega)
  · intro p hp
    exact (M.dat p (hsub p hp)).same fun b hb' => hold b (row_lt (M.dat p (hsub p hp)) hb') (M.d_g (hsub p hp) hb')
  · intro b hb'
    rcases hb' with rfl | hb' | ⟨p, hp, hb'⟩
    · exact Or.inl hgS
    · exact Or.inr ⟨n3 b hb', by rw [hsz2]; exact row_lt h3 hb'⟩
    · exact Or.inl (hF b (Or.inr (Or.inr ⟨p, hsub p hp, hb'⟩)))
  · intro b hb'
    rcases hb' with hb' | hb'
    · exact Nat.lt_of_lt_of_le (hS b hb') ht.size
    · exact hb'.2
theorem rdr_next {wa wr W6 : World} {c2 : Array Value} {t2 : TypeId} {v6 vc : Value} (hb : Below wa.heap.size wa wr) (hn : ∀ b, v6.ownBlock = some b → wa.heap.size ≤ b) (hg : (wr.alloc (.cells c2 t2)).grownBy W6 v6.ownBlock) (hl : vc.ownBlock = v6.ownBlock ∨ vc.ownBlock = some (wr.alloc (.cells c2 t2)).heap.size) :
    Below wa.heap.size wa W6 ∧ ∀ b, vc.ownBlock = some b → wa.heap.size ≤ b := by
  have hs := hb.size
  refine ⟨(hb.alloc hs (.cells c2 t2)).grown hg (by simp; omega) hn, fun b hb' => ?_⟩
  rcases hl with h | h
  · exact hn b (h ▸ hb')
  · rw [h] at hb'; cases hb'; simp; omega
set_option maxRecDepth 100000 in
set_option maxHeartbeats 4000000 in
theorem rdrop_bad (w : World) (g : Nat) (S : Nat → Prop) (s : C.St) (f : Int) (h : Ref w g S s) (he : readE s f ≠ 0) :
    Calls Try.prog 21 #[.pointer (some ⟨g, 0, none⟩), .int .i64 f] w fun e w' => e = .returned (.int .i64 (readE s f)) ∧ w' = w := by
  have HC : Hid _ := ask_any w g S s f h
  have he' : (readE s f == 0) = false := by simpa using he
  generalize readE s f = er at *
  clear h
  go_enter Try.func21, Try.ntmps21
  go_wp2_with fail
  refine Calls.mono HC.out ?_
  rintro e w1 ⟨rfl, hw⟩
  subst w1
  go_wp2
  go_ret
  exact ⟨rfl, rfl⟩
set_option maxRecDepth 100000 in
set_option maxHeartbeats 8000000 in
theorem rdrop_ok (w : World) (g : Nat) (S : Nat → Prop) (s : C.St) (f : Nat) (h : Ref w g S s) (hok : s.Ok) (hm : s.made ≤ 1000000) (he : readE s f = 0) (hr : refE s f = 0) :
    Calls Try.prog 21 #[.pointer (some ⟨g, 0, none⟩), .int .i64 (f : Nat)] w fun e w' => e = .returned (.int .i64 0) ∧ Ref w' g (Ext w w' S) (C.dropS s f) ∧ Turn w w' S := by
  have HC : Hid _ := ask_at w g S s f 0 h he
  have h00 := refE_zero hr
  have hf9 : f < 1000 := by omega
  obtain ⟨v1, -, ck, -, -, -, cf⟩ := h.cells
  have ckf := ck f hf9
  have cff := cf (1 + f)
  obtain ⟨v, ls, M, hF, hS⟩ := h
  have hlen := M.len
  have hll : ls.length ≤ 1000000 := by rw [hlen]; exact Nat.le_trans (C.ws_le hok) hm
  obtain ⟨q, c, hv⟩ := OwnR.shape M.row
  rw [hv] at M hF
  have HM : Hid (RMem w g (.slice q ls.length c) ls s) := M
  have HF : Hid _ := hF
  have HS : Hid _ := hS
  obtain ⟨n, hn⟩ : ∃ n, n = ls.length := ⟨_, rfl⟩
  rw [← hn] at HM hll HF
  have HN : Hid _ := hn
  have hfi : (f : Int) < 1000 := by omega
  clear M hv hF hS hlen hn hok hm cf ck he hr h00
  go_enter Try.func21, Try.ntmps21
  go_wp2_with fail
  refine Calls.mono HC.out ?_
  rintro e w1 ⟨rfl, hw⟩
  subst w1
  go_upto_region 5 with fail
  refine wp_here ?_
  intro wa hwa
  have hszA : wa.heap.size = w.heap.size := by rw [hwa]; simp [World.setCell]
  have HMA : Hid (RMem wa g (.slice q n c) ls { s with is := upd s.is f false }) := by
    rw [hwa]
    exact (HM.out : RMem _ _ _ _ _).head (fun cs hb hc => ⟨_, set_block hb, hc.setIs hf9 false⟩) rfl (fun b _ hne => set_other hne)
  have HWA : Hid _ := hwa
  have HSZA : Hid _ := hszA
  clear hwa hszA ckf cff
  go_wp2
  go_loopw [6, 7] (fun v6 i wr => ∃ (k : Nat) (p6 : Option Addr) (m6 d6 : Nat), k ≤ n ∧ i = .int .i64 (k : Int) ∧ v6 = .slice p6 m6 d6 ∧ OwnR wr (.slice p6 m6 d6) (drR f (ls.take k)) ∧ (∀ b, (Value.slice p6 m6 d6).ownBlock = some b → wa.heap.size ≤ b) ∧ Below wa.heap.size wa wr) (fun _ i _ => n - (intOf i).toNat)
  case atStart => exact ⟨0, none, 0, 0, Nat.zero_le _, rfl, rfl, OwnR.nil _, (fun b hb => by cases hb), Below.refl _ _⟩
  case round =>
    obtain ⟨k, p6, m6, d6, hk, rfl, rfl, ho, hnew, hb⟩ := hrel
    have HO : Hid (OwnR wr (.slice p6 m6 d6) (drR f (ls.take k))) := ho
    have HNW : Hid _ := hnew
    have HB : Hid (Below wa.heap.size wa wr) := hb
    have HMW : Hid (RMem wr g (.slice q n c) ls { s with is := upd s.is f false }) := RMem.below HMA.out hb
    have c1 := RMem.c1 HMW.out
    clear ho hnew hb
    by_cases hlt : k < n
    · obtain ⟨rb, x, u, hp, hnc, hcm, hx, hsx, hox, x0, x1, x2, _⟩ := RMem.get HMW.out HN.out hlt
      subst hp
      obtain ⟨q2, m2, d2, rfl, hi2⟩ := Own.is hox
      have hcm' : c ≤ 9223372036854775807 := Nat.le_trans hcm (by decide)
      have hki : (k : Int) < (n : Int) := by omega
      have hsn := drR_snoc (f := f) hx
      have hcl : (drR f (ls.take k)).length ≤ 1000000 := Nat.le_trans (List.length_filter_le _ _) (by rw [List.length_take]; omega)
      by_cases hf : x.file = f
      · have hfi : ((x.file : Int) == (f : Int)) = true := by simp [hf]
        have HDN : Hid (drR f (ls.take (k + 1)) = drR f (ls.take k)) := by
          show _ = _
          rw [hsn, if_pos hf, List.append_nil]
        clear hsn hf hi2 hox hsx hx hcm x2 x1
        generalize x.file = xf at *
        go_wp2
        go_roundw
        case rel => exact ⟨k + 1, p6, m6, d6, by omega, by go_num, rfl, by rw [HDN.out]; exact HO.out, HNW.out, HB.out⟩
        case measure => simp [intOf]; omega
      · have hfi : ((x.file : Int) == (f : Int)) = false := by simp; omega
        have HDN : Hid (drR f (ls.take (k + 1)) = drR f (ls.take k) ++ [(x, .slice q2 m2 d2)]) := by
          show _ = _
          rw [hsn, if_neg hf]
        have HR5 : Hid (SrcAt (wr.alloc (.cells #[.int .i64 (x.file : Nat), .slice q2 m2 d2, .bool x.safe] 70)) 3 (.slice (some ⟨wr.heap.size, 0, none⟩) 1 1) 1 (rowR [(x, .slice q2 m2 d2)])) := row_one_r wr (x, .slice q2 m2 d2)
        have HO5 : Hid ((wr.alloc (.cells #[.int .i64 (x.file : Nat), .slice q2 m2 d2, .bool x.safe] 70)).ownsRow 0 70 3 (.slice p6 m6 d6) (drR f (ls.take k)).length (rowR (drR f (ls.take k)))) := row_same HO.out fun b hb => Below.heap_alloc _ _ _ (row_lt HO.out hb)
        have HN1 : Hid ((drR f (ls.take k)).length + 1 ≤ maxLen) := by show _ ≤ _; unfold maxLen; omega
        have HN2 : Hid (((drR f (ls.take k)).length + 1) * 40 ≤ 140737488355328) := by show _ ≤ _; omega
        clear hsn hf hi2 hox hsx hx hcm hcl
        go_wp2_with (at_builtin; go_must (refine wpList_append_src Try.underlying40 info_rw rfl (by decide) rfl _ _ rfl rfl HO5.out rfl HR5.out (rowR_one (fun x hx => by simp only [List.mem_singleton] at hx; subst hx; rfl)) HN1.out HN2.out ?_); intro vc W6 hrc hgc hlc; obtain ⟨hB6, hn6⟩ := rdr_next HB.out HNW.out hgc hlc; obtain ⟨pc, nc, cc, rfl⟩ : ∃ p n c, vc = .slice p n c := by (obtain ⟨p1, c1, e1, _⟩ := row_nil hrc; exact ⟨_, _, _, e1⟩))
        have HO6 : Hid (OwnR W6 (.slice pc nc cc) (drR f (ls.take (k + 1)))) := by
          show OwnR _ _ _
          rw [HDN.out]
          exact ownR_of_row hrc (rowR_append _ _) (by simp)
        have HB6 : Hid _ := hB6
        have HN6 : Hid _ := hn6
        clear hrc hgc hlc hB6 hn6
        go_roundw
        case rel => exact ⟨k + 1, pc, nc, cc, by omega, by go_num, rfl, HO6.out, HN6.out, HB6.out⟩
        case measure => simp [intOf]; omega
    · obtain rfl : k = n := by omega
      have hO := HO.out
      rw [List.take_of_length_le (by rw [← HN.out]; exact Nat.le_refl _)] at hO
      have HOE : Hid (OwnR wr (.slice p6 m6 d6) (drR f ls)) := hO
      have f1 : wr.frozen? ⟨g, 1001, none⟩ = false := by
        obtain ⟨cs, hb0, hc⟩ := (HMW.out : RMem _ _ _ _ _).blk
        exact blk_free hb0 1001
      clear hO
      go_wp2
      go_ret
      exact ⟨rfl, rdrop_end HM.out HF.out HS.out hf9 HWA.out (by rw [← HSZA.out]; exact HB.out) HOE.out (by rw [← HSZA.out]; exact HNW.out)⟩
end Go.Proofs.Ytlfcpgncgldieaa
