/-
  rostrumref5.Disk: Sync.
-/
import Derived.Test.YtlfcpgncgldieaaRCrash2
import Derived.Test.YtlfcpgncgldieaaWSpoil
namespace Go.Proofs.Ytlfcpgncgldieaa
namespace C
def synK (f k : Nat) (ws : List Wr) : List Wr := (ws.take k).map (synW f) ++ ws.drop k
theorem synK_zero (f : Nat) (ws : List Wr) : synK f 0 ws = ws := by simp [synK]
theorem synK_end (f : Nat) {k : Nat} {ws : List Wr} (h : ws.length ≤ k) : synK f k ws = ws.map (synW f) := by
  unfold synK
  rw [List.take_of_length_le h, List.drop_eq_nil_of_le h, List.append_nil]
theorem synK_at {f k : Nat} {ws : List Wr} (h : k < ws.length) : (synK f k ws)[k]? = ws[k]? := by
  unfold synK
  rw [List.getElem?_append_right (by simp; omega)]
  simp [Nat.min_eq_left (Nat.le_of_lt h)]
theorem synK_step {f k : Nat} {ws : List Wr} {x : Wr} (h : ws[k]? = some x) : synK f (k + 1) ws = (synK f k ws).set k (synW f x) := by
  have hk : k < ws.length := (List.getElem?_eq_some_iff.1 h).1
  have hx : ws[k] = x := by rw [List.getElem?_eq_getElem hk] at h; exact Option.some.inj h
  unfold synK
  rw [List.set_append_right _ _ (by simp; omega)]
  have e : ws.drop k = x :: ws.drop (k + 1) := by rw [← hx]; exact List.drop_eq_getElem_cons hk
  rw [e]
  simp only [List.length_map, List.length_take, Nat.min_eq_left (Nat.le_of_lt hk), Nat.sub_self, List.set_cons_zero]
  rw [take_snoc h, List.map_append, List.append_assoc]
  rfl
end C
open Go.RowKit Go.Lib Go.Maps
open C (upd upd_same upd_other)
set_option linter.unusedVariables false

theorem set_mem {α : Type} {l : List α} {k : Nat} {y p : α} (h : p ∈ l.set k y) : p ∈ l ∨ p = y := by
  rcases List.mem_or_eq_of_mem_set h with h | h
  · exact Or.inl h
  · exact Or.inr h
/-- A write is turned where it lies: its mark alone. -/
theorem RMem.mark {w : World} {g rb n c k : Nat} {ls : List RW} {s : C.St} {x : C.Wr} {u : Value} (M : RMem w g (.slice (some ⟨rb, 0, none⟩) n c) ls s) (hx : ls[k]? = some (x, u)) (t : Bool) :
    RMem (w.setCell ⟨rb, k * 3 + 2, none⟩ (.bool t)) g (.slice (some ⟨rb, 0, none⟩) n c) (ls.set k ({ x with safe := t }, u)) { s with ws := s.ws.set k { x with safe := t } } := by
  have hrb : (Value.slice (some ⟨rb, 0, none⟩) n c).ownBlock = some rb := rfl
  have hu : (x, u) ∈ ls := List.mem_of_getElem? hx
  have hk : k < ls.length := (List.getElem?_eq_some_iff.1 hx).1
  refine ⟨?_, ?_, ?_, fun p hp => ?_, ?_⟩
  · obtain ⟨cs, hb, hc⟩ := M.blk
    exact ⟨cs, (set_other (M.v_g hrb).symm).trans hb, hc.congr rfl (fun _ _ => rfl) rfl rfl⟩
  · rw [List.map_set, M.ws]
  · unfold OwnR
    rw [rowR_set ls k (x, u) ({ x with safe := t }, u) hx rfl rfl, List.length_set]
    have hn : n = ls.length := by
      obtain ⟨p, c', hv⟩ := OwnR.shape M.row
      cases hv; rfl
    subst hn
    exact (World.ownsRow.stored M.row (k * 3 + 2) (.bool t)).1
  · have key : ∀ q ∈ ls, Own (w.setCell ⟨rb, k * 3 + 2, none⟩ (.bool t)) 0 q.2 q.1.bytes := fun q hq => (M.dat q hq).same fun b hb => set_other (fun e => M.d_v hq hb (by rw [e]; exact hrb))
    rcases set_mem hp with hp | hp
    · exact key p hp
    · subst hp; exact key (x, u) hu
  · have e : (ls.set k ({ x with safe := t }, u)).map Prod.snd = ls.map Prod.snd := by
      rw [List.map_set]
      refine List.ext_getElem? fun i => ?_
      by_cases hi : k = i
      · subst hi; rw [List.getElem?_set_self (by simpa using hk), List.getElem?_map, hx]; rfl
      · rw [List.getElem?_set_ne hi]
    have h1 : (ls.map Prod.snd).Pairwise fun p q => ∀ b, p.ownBlock = some b → q.ownBlock ≠ some b := List.pairwise_map.2 M.inj
    rw [← e] at h1
    exact List.pairwise_map.1 h1
theorem foot_set {g : Nat} {v u : Value} {ls : List RW} {k : Nat} {x y : C.Wr} (hx : ls[k]? = some (x, u)) {b : Nat} (h : RFoot g v (ls.set k (y, u)) b) : RFoot g v ls b := by
  rcases h with h | h | ⟨p, hp, h⟩
  · exact Or.inl h
  · exact Or.inr (Or.inl h)
  · rcases set_mem hp with hp | hp
    · exact Or.inr (Or.inr ⟨p, hp, h⟩)
    · subst hp; exact Or.inr (Or.inr ⟨(x, u), List.mem_of_getElem? hx, h⟩)
set_option maxRecDepth 100000 in
set_option maxHeartbeats 4000000 in
theorem rsync_bad (w : World) (g : Nat) (S : Nat → Prop) (s : C.St) (f : Int) (h : Ref w g S s) (he : readE s f ≠ 0) :
    Calls Try.prog 20 #[.pointer (some ⟨g, 0, none⟩), .int .i64 f] w fun e w' => e = .returned (.int .i64 (readE s f)) ∧ w' = w := by
  have HC : Hid _ := ask_any w g S s f h
  obtain ⟨v, ls, M, hF, hS⟩ := h
  have c1 := M.c1
  obtain ⟨p, c, hv⟩ := OwnR.shape M.row
  rw [hv] at c1
  generalize ls.length = n at *
  have he' : (readE s f == 0) = false := by simpa using he
  generalize readE s f = er at *
  clear M hF hS hv he
  go_enter Try.func20, Try.ntmps20
  go_wp2_with fail
  refine Calls.mono HC.out ?_
  rintro e w1 ⟨rfl, hw⟩
  subst w1
  go_wp2
  go_loopw [6] (fun i wr => i = .int .i64 0 ∧ wr = w) (fun _ _ => 0)
  case atStart => exact ⟨rfl, rfl⟩
  case round =>
    obtain ⟨rfl, rfl⟩ := hrel
    by_cases h0 : 0 < n
    · go_wp2
      go_ret
      exact ⟨rfl, rfl⟩
    · go_wp2
      go_ret
      exact ⟨rfl, rfl⟩
set_option maxRecDepth 100000 in
set_option maxHeartbeats 4000000 in
theorem rsync_ok (w : World) (g : Nat) (S : Nat → Prop) (s : C.St) (f : Nat) (h : Ref w g S s) (hok : s.Ok) (hm : s.made ≤ 1000000) (he : readE s f = 0) :
    Calls Try.prog 20 #[.pointer (some ⟨g, 0, none⟩), .int .i64 (f : Nat)] w fun e w' => e = .returned (.int .i64 0) ∧ Ref w' g S (C.syncS s f) ∧ Turn w w' S := by
  have HC : Hid _ := ask_at w g S s f 0 h he
  obtain ⟨v, ls, M, hF, hS⟩ := h
  have hlen := M.len
  have hll : ls.length ≤ 1000000 := by rw [hlen]; exact Nat.le_trans (C.ws_le hok) hm
  obtain ⟨p, c, hv⟩ := OwnR.shape M.row
  rw [hv] at M hF
  have HM : Hid (RMem w g (.slice p ls.length c) ls s) := M
  have HLN : Hid (ls.length = s.ws.length) := hlen
  have HF : Hid _ := hF
  have HS : Hid (∀ b, S b → b < w.heap.size) := hS
  obtain ⟨n, hn⟩ : ∃ n, n = ls.length := ⟨_, rfl⟩
  rw [← hn] at HM hll HF HLN
  clear M hv hF hS hlen hn he hok hm
  go_enter Try.func20, Try.ntmps20
  go_wp2_with fail
  refine Calls.mono HC.out ?_
  rintro e w1 ⟨rfl, hw⟩
  subst w1
  go_wp2
  go_loopw [6] (fun i wr => ∃ (k : Nat) (ls' : List RW), k ≤ n ∧ i = .int .i64 (k : Int) ∧ RMem wr g (.slice p n c) ls' { s with ws := C.synK f k s.ws } ∧ (∀ b, RFoot g (.slice p n c) ls' b → S b) ∧ Turn w wr S) (fun i _ => n - (intOf i).toNat)
  case atStart => exact ⟨0, ls, Nat.zero_le _, rfl, by rw [C.synK_zero]; exact HM.out, HF.out, Turn.refl _ _⟩
  case round =>
    obtain ⟨k, ls', hk, rfl, hM', hF', ht⟩ := hrel
    have HM' : Hid (RMem wr g (.slice p n c) ls' { s with ws := C.synK f k s.ws }) := hM'
    have HF' : Hid (∀ b, RFoot g (.slice p n c) ls' b → S b) := hF'
    have HT : Hid (Turn w wr S) := ht
    have c1 := RMem.c1 HM'.out
    have hn' : n = ls'.length := by
      obtain ⟨_, _, hv⟩ := OwnR.shape hM'.row
      cases hv; rfl
    have HN' : Hid _ := hn'
    clear hM' hF' ht hn'
    by_cases hlt : k < n
    · obtain ⟨rb, x, u, hp, hnc, hcm, hx, hsx, hox, x0, x1, x2, xf⟩ := RMem.get HM'.out HN'.out hlt
      subst hp
      have hsx' : s.ws[k]? = some x := by
        rw [← C.synK_at (f := f) (by rw [← HLN.out]; exact hlt)]; exact hsx
      have hcm' : c ≤ 9223372036854775807 := Nat.le_trans hcm (by decide)
      have hki : (k : Int) < (n : Int) := by omega
      by_cases hf : x.file = f
      · have hfi : ((x.file : Int) == (f : Int)) = true := by simp [hf]
        have hM2 := RMem.mark HM'.out hx true
        have e1 : C.synW f x = { x with safe := true } := by unfold C.synW; rw [if_pos hf]
        have e2 : (C.synK f k s.ws).set k { x with safe := true } = C.synK f (k + 1) s.ws := by rw [← e1]; exact (C.synK_step hsx').symm
        simp only [e2] at hM2
        have HM2 : Hid (RMem (wr.setCell ⟨rb, k * 3 + 2, none⟩ (.bool true)) g (.slice (some ⟨rb, 0, none⟩) n c) (ls'.set k ({ x with safe := true }, u)) { s with ws := C.synK f (k + 1) s.ws }) := hM2
        have HF2 : Hid (∀ b, RFoot g (.slice (some ⟨rb, 0, none⟩) n c) (ls'.set k ({ x with safe := true }, u)) b → S b) := fun b hb => HF'.out b (foot_set hx hb)
        have HT2 : Hid (Turn w (wr.setCell ⟨rb, k * 3 + 2, none⟩ (.bool true)) S) := Turn.setCell HT.out (HF'.out rb (Or.inr (Or.inl rfl))) _
        clear hM2 e1 e2 hsx hsx' hox hcm hx hf
        generalize x.safe = xs at *
        generalize x.file = xf at *
        go_wp2
        go_roundw
        case rel => exact ⟨k + 1, _, by omega, by go_num, HM2.out, HF2.out, HT2.out⟩
        case measure => simp [intOf]; omega
      · have hfi : ((x.file : Int) == (f : Int)) = false := by simp; omega
        have e1 : C.synW f x = x := by unfold C.synW; rw [if_neg hf]
        have e2 : C.synK f (k + 1) s.ws = C.synK f k s.ws := by
          rw [C.synK_step hsx', e1]
          refine List.ext_getElem? fun i => ?_
          by_cases hi : k = i
          · subst hi
            rw [List.getElem?_set_self (List.getElem?_eq_some_iff.1 hsx).1]; exact hsx.symm
          · rw [List.getElem?_set_ne hi]
        have HM2 : Hid (RMem wr g (.slice (some ⟨rb, 0, none⟩) n c) ls' { s with ws := C.synK f (k + 1) s.ws }) := by rw [e2]; exact HM'.out
        clear e1 e2 hsx hsx' hox hcm hx hf
        generalize x.file = xf at *
        go_wp2
        go_roundw
        case rel => exact ⟨k + 1, ls', by omega, by go_num, HM2.out, HF'.out, HT.out⟩
        case measure => simp [intOf]; omega
    · obtain rfl : k = n := by omega
      have hE := HM'.out
      rw [C.synK_end f (by rw [← HLN.out]; exact Nat.le_refl _)] at hE
      have HE : Hid (RMem wr g (.slice p k c) ls' (C.syncS s f)) := hE
      clear hE
      go_wp2
      go_ret
      exact ⟨rfl, ⟨_, ls', HE.out, HF'.out, fun b hb => Nat.lt_of_lt_of_le (HS.out b hb) (HT.out : Turn _ _ _).size⟩, HT.out⟩
end Go.Proofs.Ytlfcpgncgldieaa
