/-
  rostrumref5.Disk: Spoil.
-/
import Derived.Test.YtlfcpgncgldieaaRFiles
import Derived.BigRegion
namespace Go.Proofs.Ytlfcpgncgldieaa
namespace C
theorem spo_at (f : Nat) (b : UInt8) : ∀ (ws : List Wr) (k a : Nat) (x : Wr), ws[k]? = some x → x.file = f → (dat (ws.take k) f).length ≤ a → a - (dat (ws.take k) f).length < x.bytes.length →
    spoL ws f a b = ws.set k { x with bytes := x.bytes.set (a - (dat (ws.take k) f).length) (x.bytes.getD (a - (dat (ws.take k) f).length) 0 ^^^ b) }
  | [], k, a, x, h, _, _, _ => by cases h
  | y :: r, 0, a, x, h, hf, h1, h2 => by
    simp only [List.getElem?_cons_zero, Option.some.injEq] at h
    subst h
    simp only [List.take_zero, dat, List.length_nil, Nat.sub_zero] at h2 ⊢
    rw [spoL, if_pos hf, if_pos h2, List.set_cons_zero]
  | y :: r, k + 1, a, x, h, hf, h1, h2 => by
    simp only [List.getElem?_cons_succ] at h
    simp only [List.take_succ_cons, dat, List.length_append] at h1 h2 ⊢
    rw [spoL, List.set_cons_succ]
    by_cases hy : y.file = f
    · simp only [hy, if_true] at h1 h2 ⊢
      rw [if_neg (by omega), spo_at f b r k (a - y.bytes.length) x h hf (by omega) (by omega)]
      simp only [Nat.sub_sub]
    · simp only [hy, if_false, List.length_nil, Nat.zero_add] at h1 h2 ⊢
      rw [spo_at f b r k a x h hf h1 h2]
end C
open Go.RowKit Go.Lib Go.Maps
open C (upd upd_same upd_other)
set_option linter.unusedVariables false

theorem rowR_same : ∀ {l : List RW} {i : Nat} {x y : RW}, l[i]? = some x → encR y = encR x → rowR (l.set i y) = rowR l
  | [], i, x, y, h, _ => by cases h
  | z :: r, 0, x, y, h, he => by
    simp only [List.getElem?_cons_zero, Option.some.injEq] at h
    subst h
    rw [List.set_cons_zero, rowR_cons, rowR_cons, he]
  | z :: r, i + 1, x, y, h, he => by
    simp only [List.getElem?_cons_succ] at h
    rw [List.set_cons_succ, rowR_cons, rowR_cons, rowR_same h he]
theorem inj_get : ∀ {ls : List RW}, (ls.Pairwise fun p q => ∀ b, p.2.ownBlock = some b → q.2.ownBlock ≠ some b) → ∀ {i j : Nat} {p q : RW}, ls[i]? = some p → ls[j]? = some q → i ≠ j → ∀ b, p.2.ownBlock = some b → q.2.ownBlock ≠ some b
  | [], _, i, j, p, q, hp, _, _ => by cases hp
  | x :: r, h, 0, 0, p, q, _, _, hne => absurd rfl hne
  | x :: r, h, 0, j + 1, p, q, hp, hq, _ => by
    simp only [List.getElem?_cons_zero, Option.some.injEq, List.getElem?_cons_succ] at hp hq
    subst hp
    exact (List.pairwise_cons.1 h).1 q (List.mem_of_getElem? hq)
  | x :: r, h, i + 1, 0, p, q, hp, hq, _ => by
    simp only [List.getElem?_cons_zero, Option.some.injEq, List.getElem?_cons_succ] at hp hq
    subst hq
    exact fun b hb hb' => (List.pairwise_cons.1 h).1 p (List.mem_of_getElem? hp) b hb' hb
  | x :: r, h, i + 1, j + 1, p, q, hp, hq, hne => by
    simp only [List.getElem?_cons_succ] at hp hq
    exact inj_get (List.pairwise_cons.1 h).2 hp hq (fun e => hne (by rw [e]))
/-- A byte of a write is turned where it lies. -/
theorem RMem.byte {w : World} {g db m2 d2 k a : Nat} {v : Value} {ls : List RW} {s : C.St} {x : C.Wr} (M : RMem w g v ls s) (hx : ls[k]? = some (x, .slice (some ⟨db, 0, none⟩) m2 d2)) (hm : m2 = x.bytes.length) (y : UInt8) :
    RMem (w.setCell ⟨db, a, none⟩ (.int .u8 (y.toNat : Nat))) g v (ls.set k ({ x with bytes := x.bytes.set a y }, .slice (some ⟨db, 0, none⟩) m2 d2)) { s with ws := s.ws.set k { x with bytes := x.bytes.set a y } } := by
  have hu := List.mem_of_getElem? hx
  have hk : k < ls.length := (List.getElem?_eq_some_iff.1 hx).1
  refine ⟨?_, ?_, ?_, fun p hp => ?_, ?_⟩
  · obtain ⟨cs, hb, hc⟩ := M.blk
    exact ⟨cs, (set_other (M.d_g hu rfl).symm).trans hb, hc.congr rfl (fun _ _ => rfl) rfl rfl⟩
  · rw [List.map_set, M.ws]
  · unfold OwnR
    rw [rowR_same hx (y := ({ x with bytes := x.bytes.set a y }, .slice (some ⟨db, 0, none⟩) m2 d2)) rfl, List.length_set]
    exact row_same M.row fun b hb => set_other (fun e => M.d_v hu rfl (by rw [← e]; exact hb))
  · obtain ⟨j, hj⟩ := List.getElem?_of_mem hp
    by_cases hjk : k = j
    · subst hjk
      rw [List.getElem?_set_self hk] at hj
      cases hj
      exact Own.set (M.dat _ hu) hm a y
    · rw [List.getElem?_set_ne hjk] at hj
      exact (M.dat p (List.mem_of_getElem? hj)).same fun b hb => set_other (fun e => inj_get M.inj hj hx (fun e' => hjk e'.symm) b hb (by rw [e]; rfl))
  · have e : (ls.set k ({ x with bytes := x.bytes.set a y }, .slice (some ⟨db, 0, none⟩) m2 d2)).map Prod.snd = ls.map Prod.snd := by
      rw [List.map_set]
      refine List.ext_getElem? fun i => ?_
      by_cases hi : k = i
      · subst hi; rw [List.getElem?_set_self (by simpa using hk), List.getElem?_map, hx]; rfl
      · rw [List.getElem?_set_ne hi]
    have h1 : (ls.map Prod.snd).Pairwise fun p q => ∀ b, p.ownBlock = some b → q.ownBlock ≠ some b := List.pairwise_map.2 M.inj
    rw [← e] at h1
    exact List.pairwise_map.1 h1
set_option maxRecDepth 100000 in
set_option maxHeartbeats 4000000 in
theorem rspoil_bad (w : World) (g : Nat) (S : Nat → Prop) (s : C.St) (f a : Int) (b : UInt8) (h : Ref w g S s) (hn : readE s f ≠ 0 ∨ a < 0 ∨ b.toNat = 0) :
    Calls Try.prog 24 #[.pointer (some ⟨g, 0, none⟩), .int .i64 f, .int .i64 a, .int .u8 (b.toNat : Nat)] w fun e w' => e = .returned (.bool false) ∧ w' = w := by
  have HC : Hid _ := ask_any w g S s f h
  generalize readE s f = er at *
  have hb := b.toNat_lt
  generalize b.toNat = y at *
  clear h
  by_cases he : er = 0
  · subst he
    by_cases ha : a < 0
    · clear hn
      go_enter Try.func24, Try.ntmps24
      go_wp2_with fail
      refine Calls.mono HC.out ?_
      rintro e w1 ⟨rfl, hw⟩
      subst w1
      go_wp2
      go_ret
      exact ⟨rfl, rfl⟩
    · obtain rfl : y = 0 := by omega
      clear hn
      go_enter Try.func24, Try.ntmps24
      go_wp2_with fail
      refine Calls.mono HC.out ?_
      rintro e w1 ⟨rfl, hw⟩
      subst w1
      go_wp2
      go_ret
      exact ⟨rfl, rfl⟩
  · have he' : (er == 0) = false := by simpa using he
    clear hn
    go_enter Try.func24, Try.ntmps24
    go_wp2_with fail
    refine Calls.mono HC.out ?_
    rintro e w1 ⟨rfl, hw⟩
    subst w1
    go_wp2
    go_ret
    exact ⟨rfl, rfl⟩
set_option maxRecDepth 100000 in
set_option maxHeartbeats 8000000 in
theorem rspoil_go (w : World) (g : Nat) (S : Nat → Prop) (s : C.St) (f a : Nat) (b : UInt8) (h : Ref w g S s) (hok : s.Ok) (hm : s.made ≤ 1000000) (he : readE s f = 0) (ha9 : a ≤ 9223372036854775807) (hb0 : b.toNat ≠ 0) (r : Bool) (s' : C.St) (hrr : r = decide (a < (C.dat s.ws f).length)) (hss : s' = if a < (C.dat s.ws f).length then C.spoS s f a b else s) :
    Calls Try.prog 24 #[.pointer (some ⟨g, 0, none⟩), .int .i64 (f : Nat), .int .i64 (a : Nat), .int .u8 (b.toNat : Nat)] w fun e w' => e = .returned (.bool r) ∧ Ref w' g S s' ∧ Turn w w' S := by
  have HRR : Hid (r = decide (a < (C.dat s.ws f).length)) := hrr
  have HSS : Hid (s' = if a < (C.dat s.ws f).length then C.spoS s f a b else s) := hss
  clear hrr hss
  have HC : Hid _ := ask_at w g S s f 0 h he
  have HR : Hid (Ref w g S s) := h
  obtain ⟨v, ls, M, hF, hS⟩ := h
  have hlen := M.len
  have hll : ls.length ≤ 1000000 := by rw [hlen]; exact Nat.le_trans (C.ws_le hok) hm
  have hused : C.used s.ws ≤ 1048576 := Nat.le_trans hok.used hok.room.2
  have HMM : Hid (∀ (k : Nat) (x : C.Wr), s.ws[k]? = some x → x.bytes.length ≤ 1048576) := fun k x hx => Nat.le_trans (C.bytes_le (List.mem_of_getElem? hx)) hused
  obtain ⟨p, c, hv⟩ := OwnR.shape M.row
  rw [hv] at M hF
  have HM : Hid (RMem w g (.slice p ls.length c) ls s) := M
  have HLN : Hid (ls.length = s.ws.length) := hlen
  have HF : Hid _ := hF
  have HS : Hid _ := hS
  obtain ⟨n, hn⟩ : ∃ n, n = ls.length := ⟨_, rfl⟩
  rw [← hn] at HM hll HF
  have HN : Hid _ := hn
  have c1 := RMem.c1 HM.out
  have hb2 := b.toNat_lt
  have hy0 : ((b.toNat : Int) == 0) = false := by simpa using hb0
  have HXO : Hid (∀ z : UInt8, bits .xor .u8 (z.toNat : Int) (b.toNat : Int) = ((z ^^^ b).toNat : Nat)) := fun z => xor8n z b
  have HSP : Hid (∀ (k : Nat) (x : C.Wr), s.ws[k]? = some x → x.file = f → (C.dat (s.ws.take k) f).length ≤ a → a - (C.dat (s.ws.take k) f).length < x.bytes.length → C.spoS s f a b = { s with ws := s.ws.set k { x with bytes := x.bytes.set (a - (C.dat (s.ws.take k) f).length) (x.bytes.getD (a - (C.dat (s.ws.take k) f).length) 0 ^^^ b) } }) := fun k x h1 h2 h3 h4 => by
    unfold C.spoS; rw [C.spo_at f b s.ws k a x h1 h2 h3 h4]
  have HDW : Hid (∀ (k : Nat) (x : C.Wr), s.ws[k]? = some x → x.file = f → (C.dat (s.ws.take k) f).length + x.bytes.length ≤ (C.dat s.ws f).length) := fun k x h1 h2 => by
    have e1 := C.dat_snoc h1 f
    rw [if_pos h2] at e1
    have e2 := C.dat_append (s.ws.take (k + 1)) (s.ws.drop (k + 1)) f
    rw [List.take_append_drop, e1] at e2
    rw [e2]
    simp only [List.length_append]
    omega
  have hyl : b.toNat < 256 := hb2
  obtain ⟨y, hy⟩ : ∃ y, y = b.toNat := ⟨_, rfl⟩
  rw [← hy] at hy0 HXO hyl ⊢
  clear M hv hF hS hused hlen hn he hok hm hb2 hb0 hy
  go_enter Try.func24, Try.ntmps24
  go_wp2_with fail
  refine Calls.mono HC.out ?_
  rintro e w1 ⟨rfl, hw⟩
  subst w1
  go_wp2
  go_loop [2, 9] (fun t i => ∃ k a' : Nat, k ≤ n ∧ i = .int .i64 (k : Int) ∧ t = .int .i64 (a' : Int) ∧ a' + (C.dat (s.ws.take k) f).length = a) (fun _ i => n - (intOf i).toNat)
  case atStart => exact ⟨0, a, Nat.zero_le _, rfl, rfl, rfl⟩
  case round =>
    obtain ⟨k, a', hk, rfl, rfl, ha⟩ := hrel
    have HA : Hid _ := ha
    have ha'9 : a' ≤ 9223372036854775807 := by omega
    clear ha
    by_cases hlt : k < n
    · obtain ⟨rb, x, u, hp, hnc, hcm, hx, hsx, hox, x0, x1, _, _⟩ := RMem.get HM.out HN.out hlt
      subst hp
      obtain ⟨q2, m2, d2, rfl, hi2⟩ := Own.is hox
      have hm2 : m2 = x.bytes.length := hi2.1
      have hcap := Own.cap hox
      have hd2 : d2 ≤ 9223372036854775807 := Nat.le_trans hcap.2.2.1 (by decide)
      have hmd : m2 ≤ d2 := hcap.2.1
      have hsome := hcap.2.2.2
      have hcm' : c ≤ 9223372036854775807 := Nat.le_trans hcm (by decide)
      have hki : (k : Int) < (n : Int) := by omega
      have hml : m2 ≤ 1048576 := by rw [hm2]; exact HMM.out k x hsx
      have HM2 : Hid _ := hm2
      have hds := C.dat_snoc hsx f
      clear hi2 hcap hcm hm2
      by_cases hf : x.file = f
      · have hfi : ((x.file : Int) == (f : Int)) = true := by simp [hf]
        rw [if_pos hf] at hds
        by_cases hal : a' < m2
        · obtain ⟨db, rfl⟩ := hsome (by omega)
          obtain ⟨y1, y2⟩ := Own.cell hox HM2.out a' (by rw [← HM2.out]; exact hal)
          have hali : (a' : Int) < (m2 : Int) := by omega
          have hpl : (C.dat (s.ws.take k) f).length ≤ a := by have := HA.out; omega
          have hsub : a - (C.dat (s.ws.take k) f).length = a' := by have := HA.out; omega
          have hin : a < (C.dat s.ws f).length := by have := HDW.out k x hsx hf; have := HA.out; have := HM2.out; omega
          have hs1 := HSP.out k x hsx hf hpl (by rw [hsub, ← HM2.out]; exact hal)
          rw [hsub] at hs1
          have hM2 := RMem.byte (a := a') HM.out hx HM2.out (x.bytes.getD a' 0 ^^^ b)
          rw [← hs1] at hM2
          have HFIN : Hid (∀ m, Ref ((w.setCell ⟨db, a', none⟩ (.int .u8 ((x.bytes.getD a' 0 ^^^ b).toNat : Nat))).drewN m) g S (C.spoS s f a b) ∧ Turn w ((w.setCell ⟨db, a', none⟩ (.int .u8 ((x.bytes.getD a' 0 ^^^ b).toNat : Nat))).drewN m) S) := fun m => by
            have ht : Turn w (w.setCell ⟨db, a', none⟩ (.int .u8 ((x.bytes.getD a' 0 ^^^ b).toNat : Nat))) S := Turn.setCell (Turn.refl w S) (HF.out db (Or.inr (Or.inr ⟨_, List.mem_of_getElem? hx, rfl⟩))) _
            refine ⟨⟨_, _, hM2.same (fun _ _ => rfl), fun z hz => ?_, fun z hz => Nat.lt_of_lt_of_le (HS.out z hz) ht.size⟩, ⟨ht.os, ht.tape, ht.output, ht.size, ht.block⟩⟩
            exact HF.out z (foot_set hx hz)
          have HXX : Hid _ := HXO.out (x.bytes.getD a' 0)
          have HIN : Hid _ := hin
          have hz1 := (x.bytes.getD a' 0).toNat_lt
          clear hM2 hs1 hsub hpl hf hsome hox hsx hx hds hin
          generalize (x.bytes.getD a' 0 ^^^ b).toNat = z at *
          generalize (x.bytes.getD a' 0).toNat = z0 at *
          generalize x.file = xf at *
          have hxx := HXX.out
          go_upto_region 8 with fail
          go_region
          all_goals
            go_wp2
            go_ret
            have e1 : r = true := by rw [HRR.out, decide_eq_true HIN.out]
            have e2 : s' = C.spoS s f a b := by rw [HSS.out, if_pos HIN.out]
            refine ⟨by rw [e1]; rfl, ?_⟩
            rw [e2]
            exact HFIN.out 1
        · have hali : ¬ (a' : Int) < (m2 : Int) := by omega
          have HNX : Hid (a' - m2 + (C.dat (s.ws.take (k + 1)) f).length = a) := by
            show _ = _
            have := HA.out; have := HM2.out
            rw [hds, List.length_append]; omega
          clear hds hf hsome hox hsx hx
          generalize x.file = xf at *
          go_wp2
          go_round
          case rel => exact ⟨k + 1, a' - m2, by omega, by go_num, by go_num, HNX.out⟩
          case measure => simp [intOf]; omega
      · have hfi : ((x.file : Int) == (f : Int)) = false := by simp; omega
        rw [if_neg hf, List.append_nil] at hds
        have HNX : Hid (a' + (C.dat (s.ws.take (k + 1)) f).length = a) := by
          show _ = _
          rw [hds]; exact HA.out
        clear hds hf hsome hox hsx hx
        generalize x.file = xf at *
        go_wp2
        go_round
        case rel => exact ⟨k + 1, a', by omega, by go_num, rfl, HNX.out⟩
        case measure => simp [intOf]; omega
    · obtain rfl : k = n := by omega
      have hE := HA.out
      rw [List.take_of_length_le (by rw [← HLN.out, ← HN.out]; exact Nat.le_refl _)] at hE
      have HE : Hid (¬ a < (C.dat s.ws f).length) := by show ¬ _; omega
      clear hE
      go_wp2
      go_ret
      have e1 : r = false := by rw [HRR.out, decide_eq_false HE.out]
      have e2 : s' = s := by rw [HSS.out, if_neg HE.out]
      refine ⟨by rw [e1]; rfl, by rw [e2]; exact HR.out, Turn.refl _ _⟩
end Go.Proofs.Ytlfcpgncgldieaa
