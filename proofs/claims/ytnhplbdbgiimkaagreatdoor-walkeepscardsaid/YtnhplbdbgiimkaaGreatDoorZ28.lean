/-
  Several texts in one: WWrite, WAdd1, WAdd.
-/
import Derived.Test.YtnhplbdbgiimkaaGreatDoorZ27
namespace Go.Proofs.YtnhplbdbgiimkaaGreatDoor
open Go.RowKit Go.Lib
set_option linter.unusedVariables false

/-- Behind so many records. -/
structure WrI (w wr : World) (gl : Nat) (c : LgC) (S : Nat → Prop) (s : C.St) (a : Nat) (G : List C.Gr) (base : List UInt8) (recs : List (List UInt8)) (n M : Nat) (ps : List Part) (k : Nat) (p' : Option Addr) (cap' : Nat) (c' : LgC) (s' : C.St) (G' : List C.Gr) : Prop where
  log : LogM wr gl c' (Ext w wr S) s' a G' base recs (recs ++ (ps.take k).map Part.l) (n + k) (M + k)
  turn : Turn w wr S
  row : ∀ W, Turn w W S → PAt W p' (ps.drop k)
  cap : ps.length ≤ cap' + k
  capm : cap' ≤ maxLen
  d : c'.d = c.d
  part : c'.part = c.part
  recs_ : c'.recs = c.recs
  lives : s'.lives = s.lives
  room : s'.room = s.room
  zero : k = 0 → s' = s
  safe : C.Kept G' G
theorem PAt.take {w : World} {p : Option Addr} {ps : List Part} (h : PAt w p ps) (k : Nat) : PAt w p (ps.take k) := fun hl => by
  have h0 : 0 < ps.length := by rw [List.length_take] at hl; omega
  obtain ⟨b, o, hp, hc⟩ := h h0
  exact ⟨b, o, hp, fun i x hi => hc i x (by
    have := (List.getElem?_eq_some_iff.1 hi).1
    rw [List.length_take] at this
    rwa [List.getElem?_take_of_lt (by omega)] at hi)⟩
theorem PAt.drop {w : World} {b o : Nat} {ps : List Part} (h : ∀ i x, ps[i]? = some x → w.cell? ⟨b, o + i, none⟩ = some x.v) (k : Nat) : PAt w (some ⟨b, o + k, none⟩) (ps.drop k) := fun _ => ⟨b, o + k, rfl, fun i x hi => by
  rw [List.getElem?_drop] at hi
  have := h _ x hi
  rw [show o + k + i = o + (k + i) from by omega]
  exact this⟩
theorem ext_trans {w w1 w2 : World} {S : Nat → Prop} (h1 : w.heap.size ≤ w1.heap.size) (h2 : w1.heap.size ≤ w2.heap.size) : ∀ b, Ext w1 w2 (Ext w w1 S) b → Ext w w2 S b := fun b hb => by
  rcases hb with (hb | hb) | hb
  · exact Or.inl hb
  · exact Or.inr ⟨hb.1, by omega⟩
  · exact Or.inr ⟨by omega, hb.2⟩
set_option maxRecDepth 100000 in
set_option maxHeartbeats 8000000 in
theorem logm_write (w : World) (gl : Nat) (c : LgC) (S : Nat → Prop) (s : C.St) (a : Nat) (G : List C.Gr) (base : List UInt8) (recs : List (List UInt8)) (n M : Nat) (p : Option Addr) (ps : List Part) (cap : Nat) (h : LogM w gl c S s a G base recs recs n M) (hT : TStay w S) (ho : Stay w S p ps) (hr : ∀ x ∈ ps, x.l.length ≤ 570) (hn : n + ps.length ≤ 998) (hroom : 600 * (n + ps.length) ≤ s.room ∨ ps.length = 1 ∧ C.used s.ws + (C.ents a (recs.length + 1) (ps.map Part.l)).length ≤ s.room) (hM : M + ps.length ≤ 100000) (hlen : recs.length + ps.length ≤ 100000) (hcap : ps.length ≤ cap) (hcapm : cap ≤ maxLen) :
    Calls Tryz.prog 36 #[.pointer (some ⟨gl, 0, none⟩), .slice p ps.length cap] w fun e w' => e = .returned (.bool true) ∧ (∃ c' s' G', LogM w' gl c' (Ext w w' S) s' a G' base recs (recs ++ ps.map Part.l) (n + ps.length) (M + ps.length) ∧ c'.d = c.d ∧ c'.part = c.part ∧ c'.recs = c.recs ∧ s'.lives = s.lives ∧ s'.room = s.room ∧ C.Kept G' G) ∧ Turn w w' S := by
  have HI0 : Hid (WrI w w gl c S s a G base recs n M ps 0 p cap c s G) := ⟨by
    have h1 := h.super (T := Ext w w S) (fun b hb => Or.inl hb) (ext_lt h.lt (Turn.refl w S))
    simpa using h1, Turn.refl w S, fun W hW => (ho W hW).1, by simpa using hcap, hcapm, rfl, rfl, rfl, rfl, rfl, fun _ => rfl, C.Kept.refl G⟩
  obtain ⟨lp, lc, hlv, -, -⟩ : ∃ p k, c.recs = .slice p recs.length k ∧ recs.length ≤ k ∧ k ≤ maxLen := by
    obtain ⟨Sl, Sd, dl, hL, _⟩ := h.sets
    exact hL.recs.len
  have c6 : w.cell? ⟨gl, 6, none⟩ = some (.slice lp recs.length lc) := by
    obtain ⟨Sl, Sd, dl, hL, _⟩ := h.sets
    rw [← hlv]
    exact (hL.at_.cell 6).trans rfl
  have HT : Hid (TStay w S) := hT
  have HO : Hid (Stay w S p ps) := ho
  have HR : Hid (∀ x ∈ ps, x.l.length ≤ 570) := hr
  have HN : Hid (n + ps.length ≤ 998) := hn
  have HRM : Hid (600 * (n + ps.length) ≤ s.room ∨ ps.length = 1 ∧ C.used s.ws + (C.ents a (recs.length + 1) (ps.map Part.l)).length ≤ s.room) := hroom
  have HMM : Hid (M + ps.length ≤ 100000) := hM
  have HLEN : Hid (recs.length + ps.length ≤ 100000) := hlen
  obtain ⟨m, hm⟩ : ∃ m, m = ps.length := ⟨_, rfl⟩
  have HM : Hid (m = ps.length) := hm
  rw [← hm]
  obtain ⟨ln, hln⟩ : ∃ ln, ln = recs.length := ⟨_, rfl⟩
  have HLN : Hid (ln = recs.length) := hln
  rw [← hln] at c6
  have hln1 : ln ≤ 100000 := by omega
  have hm1 : m ≤ 998 := by omega
  clear h hT ho hr hn hroom hM hlen hcap hcapm hm hln hlv
  go_enter Tryz.func36, Tryz.ntmps36
  go_wp2_with fail
  clear c6
  go_loopw [1, 5] (fun s1 s5 wr => ∃ (k q : Nat) (p' : Option Addr) (cap' : Nat) (c' : LgC) (s' : C.St) (G' : List C.Gr), s1 = .slice p' q cap' ∧ s5 = .int .i64 ((ln + 1 + k : Nat) : Int) ∧ k + q = m ∧ Hid (WrI w wr gl c S s a G base recs n M ps k p' cap' c' s' G')) (fun s1 _ _ => match s1 with | .slice _ q _ => q | _ => 0)
  case atStart => exact ⟨0, m, p, cap, c, s, G, rfl, by go_num, by omega, HI0⟩
  case round =>
    obtain ⟨k, q, p', cap', c', s', G', rfl, rfl, hkq, HI⟩ := hrel
    rcases Nat.eq_zero_or_pos q with hq0 | hq0
    · subst hq0
      go_wp2
      go_ret
      have hkm : k = m := by omega
      have htk : ps.take k = ps := List.take_of_length_le (by have := HM.out; omega)
      have hlog := HI.out.log
      rw [htk, hkm] at hlog
      exact ⟨rfl, ⟨c', s', G', hlog, HI.out.d, HI.out.part, HI.out.recs_, HI.out.lives, HI.out.room, HI.out.safe⟩, HI.out.turn⟩
    · have hqz : (0 : Int) < (q : Int) := by omega
      have hk9 : k + q ≤ 998 := by omega
      have HPL : Hid _ := logm_place wr gl c' (Ext w wr S) s' a G' base recs (recs ++ (ps.take k).map Part.l) (n + k) (M + k) HI.out.log (by have := HN.out; have := HM.out; omega) (by have := HMM.out; have := HM.out; omega) (by rw [List.length_append, List.length_map, List.length_take]; have := HLEN.out; omega)
      go_wp2_with fail
      refine Calls.mono HPL.out ?_
      rintro e w1 ⟨⟨lim, c1, rfl, hlim1, hlim2, hp1, hcd, hcp, hcr⟩, ht1⟩
      have HP : Hid (PlM w1 gl c1 (Ext w wr S) s' a G' base recs (recs ++ (ps.take k).map Part.l) (n + k) (M + k)) := hp1
      have HT1 : Hid (Turn wr w1 (Ext w wr S)) := ht1
      have HCD : Hid (c1.d = c'.d ∧ c1.part = c'.part ∧ c1.recs = c'.recs) := ⟨hcd, hcp, hcr⟩
      clear hp1 ht1 hcd hcp hcr HPL
      go_wp2_with fail
      obtain ⟨nn, hnn⟩ : ∃ nn : Nat, nn = min lim q := ⟨_, rfl⟩
      have hmn : min (lim : Int) (q : Int) = (nn : Int) := by omega
      rw [hmn]
      obtain ⟨b, o, hpb, -⟩ := HI.out.row wr HI.out.turn (by rw [List.length_drop]; have := HM.out; omega)
      subst hpb
      have hcq : q ≤ cap' := by have := HI.out.cap; have := HM.out; omega
      have hcm := HI.out.capm
      unfold maxLen at hcm
      obtain ⟨r, hr⟩ : ∃ r, q = nn + r := ⟨q - nn, by omega⟩
      obtain ⟨z, hz⟩ : ∃ z, cap' = nn + z := ⟨cap' - nn, by omega⟩
      subst hr hz
      have hn1 : 1 ≤ nn := by omega
      have hn3 : nn ≤ 1000 := by omega
      have hrz : r ≤ z := by omega
      clear hmn hnn hlim1 hlim2 hcq
      obtain ⟨Sl, Sd, dl, hL, hD, hSl, hSd, hne, hun, hdl, hdm⟩ := HP.out.sets
      have HL : Hid (LMem w1 gl c1 Sl base recs dl) := hL
      have HL1 : Hid (LgAt w1 gl c1) := hL.at_
      have HD : Hid (Disk w1 c1.d Sd s') := hD
      have HSL : Hid (∀ b, Sl b → Ext w wr S b) := hSl
      have HSD : Hid (∀ b, Sd b → Ext w wr S b) := hSd
      have HNE : Hid (∀ b, Sl b → ¬ Sd b) := hne
      have HUN : Hid (∀ x ∈ C.flat G', x.safe = false → x.file ∈ dl) := hun
      have HDL : Hid (∀ f ∈ dl, s'.is f = true) := hdl
      have HDM : Hid (dl.length ≤ M + k) := hdm
      obtain ⟨rs, hrs⟩ : ∃ rs, rs = ((ps.drop k).take nn).map Part.l := ⟨_, rfl⟩
      have HRS : Hid (rs = ((ps.drop k).take nn).map Part.l) := hrs
      have HRL : Hid (((ps.drop k).take nn).length = nn) := by show _ = _; rw [List.length_take, List.length_drop]; have := HM.out; omega
      have HRN : Hid (rs.length = nn) := by show _ = _; rw [hrs, List.length_map]; exact HRL.out
      have HRR : Hid (∀ r ∈ rs, r.length ≤ 570) := fun r hr' => by
        rw [hrs] at hr'
        obtain ⟨x, hx, rfl⟩ := List.mem_map.1 hr'
        exact HR.out x (List.mem_of_mem_drop (List.mem_of_mem_take hx))
      obtain ⟨L, hLL⟩ : ∃ L, L = C.ents a ((recs ++ (ps.take k).map Part.l).length + 1) rs := ⟨_, rfl⟩
      have HLL : Hid (L = C.ents a ((recs ++ (ps.take k).map Part.l).length + 1) rs) := hLL
      have HDN : Hid ((recs ++ (ps.take k).map Part.l).length = ln + k) := by show _ = _; rw [List.length_append, List.length_map, List.length_take]; have := HM.out; have := HLN.out; omega
      have HL6 : Hid (L.length ≤ 600 * nn) := by show _ ≤ _; rw [hLL]; have := C.ents_six a ((recs ++ (ps.take k).map Part.l).length + 1) rs HRR.out; rw [HRN.out] at this; exact this
      have htc : c1.tc ≤ 200000 := by have := HP.out.tc; have h2 := HDN.out; omega
      clear hL hD hSl hSd hne hun hdl hdm hrs hLL
      have d0 : ∀ t : HW (fun v => LgAt v gl c1), t.v.cell? ⟨gl, 0, none⟩ = some (.pointer (some ⟨c1.d, 0, none⟩)) := fun t => (t.h.cell 0).trans rfl
      have d7 : ∀ t : HW (fun v => LgAt v gl c1), t.v.cell? ⟨gl, 7, none⟩ = some (.int .i64 (c1.tf : Nat)) := fun t => (t.h.cell 7).trans rfl
      have hne : Nonempty (HW (fun v => LgAt v gl c1)) := ⟨⟨w1, HL1.out⟩⟩
      have hC : ∃ t : HW (fun v => LgAt v gl c1), w1.drew = t.v := ⟨⟨w1.drew, HL1.out⟩, rfl⟩
      refine wp_region_held_drew (S := fun w' => ∃ t : HW (fun v => LgAt v gl c1), w' = t.v) (by kernel_rfl) hC (fun _ => ?_)
      have HT1d : Hid (Turn w w1.drew S) := (HI.out.turn.ext HT1.out).drew
      have HB1d : Hid (Below w1.heap.size w1 w1.drew) := (Below.refl _ _).drew
      have HL1d : Hid (LgAt w1.drew gl c1) := HL1.out
      generalize hW0 : w1.drew = W0 at *
      clear hW0
      refine takeList (i := 0) rfl (by kernel_rfl) (by kernel_rfl) (by kernel_rfl) (fun _ _ _ _ h => h) rfl rfl hC (fun K hK => ?_)
      go_big_quiet_op
      refine hK _ ?_
      clear hK K
      refine takeNil (i := 1) rfl rfl rfl (by kernel_rfl) (by kernel_rfl) (by kernel_rfl) (fun _ _ _ _ h => h) rfl hC ?_
      go_simp
      refine takeList (i := 2) rfl (by kernel_rfl) (by kernel_rfl) (by kernel_rfl) (fun _ _ _ _ h => h) rfl rfl hC (fun K hK => ?_)
      go_big_quiet_op
      refine hK _ ?_
      clear hK K
      refine takeList (i := 3) rfl (by kernel_rfl) (by kernel_rfl) (by kernel_rfl) (fun _ _ _ _ h => h) rfl rfl hC (fun K hK => ?_)
      go_big_quiet_op
      refine hK _ ?_
      clear hK K
      refine takeList (i := 4) rfl (by kernel_rfl) (by kernel_rfl) (by kernel_rfl) (fun _ _ _ _ h => h) rfl rfl hC (fun K hK => ?_)
      go_big_quiet_op
      refine hK _ ?_
      clear hK K
      refine takeNil (i := 5) rfl rfl rfl (by kernel_rfl) (by kernel_rfl) (by kernel_rfl) (fun _ _ _ _ h => h) rfl hC ?_
      go_simp
      refine takeList (i := 6) rfl (by kernel_rfl) (by kernel_rfl) (by kernel_rfl) (fun _ _ _ _ h => h) rfl rfl hC (fun K hK => ?_)
      go_big_quiet_op
      refine hK _ ?_
      clear hK K
      refine takeList (i := 7) rfl (by kernel_rfl) (by kernel_rfl) (by kernel_rfl) (fun _ _ _ _ h => h) rfl rfl hC (fun K hK => ?_)
      go_big_quiet_op
      refine hK _ ?_
      clear hK K
      refine takeList (i := 8) rfl (by kernel_rfl) (by kernel_rfl) (by kernel_rfl) (fun _ _ _ _ h => h) rfl rfl hC (fun K hK => ?_)
      go_big_quiet_op
      refine hK _ ?_
      clear hK K
      refine takeList (i := 9) rfl (by kernel_rfl) (by kernel_rfl) (by kernel_rfl) (fun _ _ _ _ h => h) rfl rfl hC (fun K hK => ?_)
      go_big_quiet_op
      refine hK _ ?_
      clear hK K
      refine takeList (i := 10) rfl (by kernel_rfl) (by kernel_rfl) (by kernel_rfl) (fun _ _ _ _ h => h) rfl rfl hC (fun K hK => ?_)
      go_big_quiet_op
      refine hK _ ?_
      clear hK K
      refine takeList (i := 11) rfl (by kernel_rfl) (by kernel_rfl) (by kernel_rfl) (fun _ _ _ _ h => h) rfl rfl hC (fun K hK => ?_)
      go_big_quiet_op
      refine hK _ ?_
      clear hK K
      refine takeList (i := 12) rfl (by kernel_rfl) (by kernel_rfl) (by kernel_rfl) (fun _ _ _ _ h => h) rfl rfl hC (fun K hK => ?_)
      go_big_quiet_op
      refine hK _ ?_
      clear hK K
      refine takeVal (i := 13) (.slice (some ⟨b, o, none⟩) nn (nn + z)) rfl (by kernel_rfl) (by kernel_rfl) (by kernel_rfl) (fun _ _ _ _ h => h) rfl hC (fun w' _ => by go_simp; try (intro h; omega)) ?_
      go_simp
      have HEN : Hid (Calls Tryz.prog 56 #[.pointer (some ⟨gl, 0, none⟩), .int .i64 ((ln : Int) + 1 + (k : Int)), .slice (some ⟨b, o, none⟩) nn (nn + z)] W0 fun e w' => (∃ v, e = .returned v ∧ Own w' W0.heap.size v L) ∧ Below W0.heap.size W0 w') := by
        have h1 := entries_any W0 gl c1 (ln + 1 + k) (some ⟨b, o, none⟩) ((ps.drop k).take nn) (nn + z) (HT.out W0 HT1d.out) HL1d.out ((HI.out.row W0 HT1d.out).take nn) (fun x hx => (HO.out W0 HT1d.out).2 x (List.mem_of_mem_drop (List.mem_of_mem_take hx))) (by rw [HP.out.age]; exact HP.out.log.age) (by rw [HRL.out]; omega) (fun x hx => Nat.le_trans (HR.out x (List.mem_of_mem_drop (List.mem_of_mem_take hx))) (by omega)) (by rw [HRL.out]; omega)
        rw [HRL.out, HP.out.age, ← HRS.out, show ln + 1 + k = (recs ++ (ps.take k).map Part.l).length + 1 from by have := HDN.out; omega, ← HLL.out] at h1
        rw [HDN.out] at h1
        have e9 : (((ln + k + 1 : Nat)) : Int) = (ln : Int) + 1 + (k : Int) := by omega
        rw [e9] at h1
        exact h1
      refine callList (i := 14) rfl (by kernel_rfl) rfl (fun K hK => ?_)
      go_simp
      refine Calls.mono (HEN.out) ?_
      rintro e w2 ⟨⟨v2, rfl, ho2⟩, hb2⟩
      have HB2 : Hid (Below w1.heap.size w1 w2) := bt HB1d.out hb2
      have HL2 : Hid (LgAt w2 gl c1) := HL1d.out.below hb2
      obtain ⟨p2, c2, rfl, hpk⟩ := Own.part ho2
      have HPK : Hid (Part.ok w2 ⟨p2, L, c2⟩) := hpk
      clear hpk ho2 hb2 HEN
      refine hK.out _ _ ⟨⟨_, HL2.out⟩, rfl⟩ ?_
      try go_simp
      clear hK K hC
      have hC : ∃ t : HW (fun v => LgAt v gl c1), w2 = t.v := ⟨⟨_, HL2.out⟩, rfl⟩
      have HUS : Hid (C.used s'.ws + L.length ≤ s'.room) := by
        show _ ≤ _
        rcases HRM.out with h3 | ⟨h3, h4⟩
        · have h1 := HP.out.bud.used
          have h2 := HL6.out
          rw [HI.out.room]
          have := HM.out
          omega
        · have hmm := HM.out
          have hk0 : k = 0 := by omega
          have hs := HI.out.zero hk0
          have e1 : L = C.ents a (recs.length + 1) (ps.map Part.l) := by
            rw [HLL.out, HRS.out, hk0]
            have e2 : ((ps.drop 0).take nn) = ps := by rw [List.drop_zero]; exact List.take_of_length_le (by omega)
            rw [e2]
            simp
          rw [e1, hs]
          exact h4
      have HAP : Hid _ := append_ok w2 c1.d Sd s' c1.tf p2 L c2 (HD.out.below HB2.out) HPK.out (by unfold refE; rw [if_neg (by rw [HP.out.off]; decide), if_neg (by have := HP.out.tf; omega)]) HUS.out (by have := HP.out.bud.made; have := HMM.out; have := HM.out; omega)
      refine callList (i := 15) rfl (by kernel_rfl) rfl (fun K hK => ?_)
      go_simp
      refine Calls.mono (HAP.out) ?_
      rintro e w3 ⟨rfl, hd3, ht3⟩
      have HD3 : Hid (Disk w3 c1.d (Ext w2 w3 Sd) (C.appS s' c1.tf L)) := hd3
      have HT3 : Hid (Turn w2 w3 Sd) := ht3
      have HL3 : Hid (LgAt w3 gl c1) := (ht3.block gl (Array.getElem?_eq_some_iff.1 HL2.out).1 (fun hx => HNE.out gl HL.out.mem hx)).trans HL2.out
      clear hd3 ht3 HAP
      refine hK.out _ _ ⟨⟨_, HL3.out⟩, rfl⟩ ?_
      try go_simp
      clear hK K hC
      have hC : ∃ t : HW (fun v => LgAt v gl c1), w3 = t.v := ⟨⟨_, HL3.out⟩, rfl⟩
      refine takeList (i := 16) rfl (by kernel_rfl) (by kernel_rfl) (by kernel_rfl) (fun _ _ _ _ h => h) rfl rfl hC (fun K hK => ?_)
      go_big_quiet_op
      refine hK _ ?_
      clear hK K
      refine wpAnyH_done (by kernel_rfl) ?_ _
      clear d0 d7 hne hC
      obtain ⟨-, c7, c8, -, -⟩ := log_cells HL3.out
      have f8 := HL3.out.fz 8
      have HL3s : Hid (LgAt (w3.setCell ⟨gl, 8, none⟩ (.int .i64 ((c1.tc : Int) + (nn : Int)))) gl { c1 with tc := c1.tc + nn }) := HL3.out.set 8 _ (by simp [LgC.cells])
      have HTS : Hid (Turn w3 (w3.setCell ⟨gl, 8, none⟩ (.int .i64 ((c1.tc : Int) + (nn : Int)))) (fun x => x = gl)) := Turn.setCell (S := fun x => x = gl) (Turn.refl _ _) rfl _
      have HDY : Hid (OwnI (w3.setCell ⟨gl, 8, none⟩ (.int .i64 ((c1.tc : Int) + (nn : Int)))) c1.dirty dl) := row_same HL.out.dirty fun b hb => by
        have h1 := HL.out.dirtyS b hb
        have h2 := HL.out.lt b h1
        rw [HTS.out.block b (by have := HB2.out.size; have := HT3.out.size; omega) (fun e => HL.out.ne_dirty (by rw [← e]; exact hb)), HT3.out.block b (by have := HB2.out.size; omega) (HNE.out b h1), HB2.out.block b h2]
      have HSO : Hid _ := soil_any (w3.setCell ⟨gl, 8, none⟩ (.int .i64 ((c1.tc : Int) + (nn : Int)))) gl { c1 with tc := c1.tc + nn } dl c1.tf HL3s.out HDY.out HL.out.ne_dirty (by have := HDM.out; have := HMM.out; have := HM.out; omega)
      go_wp2_with fail
      refine Calls.mono HSO.out ?_
      rintro e w4 ⟨rfl, v', l', hl4, ho4, hl', hfm, -, hv', ht4⟩
      have HWT : Hid (∃ G2, LogM w4 gl (({ c1 with tc := c1.tc + nn } : LgC).soil v') (Ext w w4 S) (C.appS s' c1.tf L) a G2 base recs (recs ++ (ps.take (k + nn)).map Part.l) (n + (k + nn)) (M + (k + nn)) ∧ C.Kept G2 G' ∧ Turn w w4 S) := by
        have hd3 := HD3.out
        rw [HLL.out] at hd3
        have hl4' := hl4
        rw [← HRN.out] at hl4'
        obtain ⟨⟨G2, g1, g2⟩, g3⟩ := HP.out.wrote HL.out HD.out HSL.out HSD.out HNE.out HUN.out HDL.out HDM.out HB2.out hd3 HT3.out hl4' ho4 hl' hfm (fun b hb => by
          have := hv' b hb
          rw [size_setC] at this
          exact this) ((HTS.out.mono fun b hb => Or.inl hb).trans ht4 fun x hx => Or.inl hx) (by intro e; have := HRN.out; rw [e] at this; simp at this; omega) HRR.out (by have := HDN.out; have := HRN.out; omega)
        have hz1 := HI.out.turn.size
        have hz2 := HT1.out.size
        have hz3 := g3.size
        have htt : Turn w w4 S := HI.out.turn.ext (HT1.out.trans g3 fun x hx => Or.inl hx)
        rw [List.append_assoc, HRS.out, ← List.map_append, ← List.take_add] at g1
        refine ⟨G2, ?_, g2, htt⟩
        have g4 := (g1.mono (n' := n + (k + nn)) (M' := M + (k + nn)) (by rw [← HRS.out, HRN.out]; omega) (by omega)).super (T := Ext w w4 S) (fun b hb => by
          rcases hb with (hb | hb) | hb
          · exact Or.inl hb
          · exact Or.inr ⟨hb.1, by omega⟩
          · exact Or.inr ⟨by omega, hb.2⟩) (fun b hb => by
          rcases hb with hb | hb
          · exact g1.lt b (Or.inl (Or.inl hb))
          · exact hb.2)
        rw [HLL.out, HRS.out]
        rw [← HRS.out, HRN.out] at g4
        rw [← HRS.out]
        exact g4
      obtain ⟨G2, hlog2, hsafe2, hturn2⟩ := HWT.out
      have HW2 : Hid (∀ p'', (∀ W, Turn w W S → PAt W p'' (ps.drop (k + nn))) → WrI w w4 gl c S s a G base recs n M ps (k + nn) p'' z (({ c1 with tc := c1.tc + nn } : LgC).soil v') (C.appS s' c1.tf L) G2) := fun p'' hp'' => ⟨hlog2, hturn2, hp'', by have := HI.out.cap; omega, by unfold maxLen; omega, HCD.out.1.trans HI.out.d, HCD.out.2.1.trans HI.out.part, HCD.out.2.2.trans HI.out.recs_, HI.out.lives, HI.out.room, (fun e => absurd e (by omega)), hsafe2.trans HI.out.safe⟩
      clear hlog2 hsafe2 hturn2 HWT hl4 ho4 hl' hfm hv' ht4 HSO HDY HTS HL3s f8 c7 c8
      rcases Nat.eq_zero_or_pos z with hz0 | hz0
      · subst hz0
        obtain rfl : r = 0 := by omega
        go_wp2
        go_roundw
        case rel => exact ⟨k + nn, 0, some ⟨b, o, none⟩, 0, _, _, G2, by simp, by go_num, by omega, HW2.out _ fun W hW hl => by rw [List.length_drop] at hl; have := HM.out; omega⟩
        case measure => simp; omega
      · go_wp2
        go_roundw
        case rel => exact ⟨k + nn, r, some ⟨b, o + nn, none⟩, z, _, _, G2, by simp, by go_num, by omega, HW2.out _ fun W hW => by
            obtain ⟨b', o', hp', hc'⟩ := HI.out.row W hW (by rw [List.length_drop]; have := HM.out; omega)
            cases hp'
            have := PAt.drop hc' nn
            rw [List.drop_drop] at this
            exact this⟩
        case measure => simp; omega
end Go.Proofs.YtnhplbdbgiimkaaGreatDoor

namespace Go.Proofs.YtnhplbdbgiimkaaGreatDoor
open Go.RowKit Go.Lib
set_option linter.unusedVariables false

theorem oper_append_src {t e size bytes : Nat} {z : Value} (ht : Tryz.prog.underlying t = some (.slice e)) (hinf : (Tryz.prog.info? e).map (fun i => (i.zero, i.size, i.bytes)) = some (some z, size, bytes)) (hzs : z.cells.size = size) (hsz : 0 < size)
    {w : World} {o : Oper} {a : Act} {K : Act → World → Prop} {Q : Exit → Act → World → Prop} (s y : Operand) (ho : o.op = .call { callee := .builtin .append, args := #[s, y], argTypes := #[t, t] })
    {v : Value} {n : Nat} {xs : List Value} (hs : a.eval s = v) (hown : w.ownsRow 0 e size v n xs) {x : Value} {m : Nat} {news : List Value} (hy : a.eval y = x) (hx : SrcAt w size x m news) (h1 : ∀ u ∈ news, u.oneCell' = true) (hn : n + m ≤ maxLen) (hb : (n + m) * bytes ≤ 140737488355328)
    (h : ∀ v' w', w'.ownsRow 0 e size v' (n + m) (xs ++ news) → w.grownBy w' v.ownBlock → (v'.ownBlock = v.ownBlock ∨ v'.ownBlock = some w.heap.size) → K (a.put o.dst v') w') : Oper.wp Tryz.prog o a w K Q := by
  obtain ⟨v', w', hr, h2, h3, h4⟩ := run_append_src ht hinf hzs hsz hown o.type hx h1 hn hb
  unfold Oper.wp execOp
  simp only [ho, resolve, invoke, builtin, Sem.run_bind, Sem.run_pure, Result.andThen_ok, List.map_toArray, List.map_cons, List.map_nil, hs, hy, hr]
  exact h v' w' h2 h3 h4
theorem one_src (w : World) (x : Part) : SrcAt (w.alloc (.cells #[x.v] 31)) 1 (.slice (some ⟨w.heap.size, 0, none⟩) 1 1) 1 [x.v] := by
  refine ⟨some ⟨w.heap.size, 0, none⟩, 1, rfl, rfl, (fun e => by cases e), fun a ha j u hj => ?_⟩
  cases ha
  have hj0 : j = 0 := by have := (List.getElem?_eq_some_iff.1 hj).1; simp at this; omega
  subst hj0
  have hu : u = x.v := by simpa using hj.symm
  subst hu
  rw [WideShapes.add_plain]
  exact (blk_cell (heap_alloc_new w (.cells #[x.v] 31)) 0).trans rfl
theorem LMem.push {w w2 w4 : World} {gl : Nat} {c : LgC} {Sl : Nat → Prop} {base : List UInt8} {recs : List (List UInt8)} {dl : List Nat} {ps : List Part} {x : Part} {v4 : Value} (h : LMem w gl c Sl base recs dl) (hpo : OwnP w 0 c.recs ps) (hpi : ∀ x ∈ ps, Own w 0 x.v x.l ∧ ∀ b, x.v.ownBlock = some b → Sl b) (hpl : ps.map Part.l = recs) (hrs : ∀ b, c.recs.ownBlock = some b → Sl b) (hb2 : Below w.heap.size w w2) (ho2 : Own w2 w.heap.size x.v x.l) (hr4 : w4.ownsRow 0 31 1 v4 (ps.length + 1) (ps.map Part.v ++ [x.v])) (hg4 : (w2.alloc (.cells #[x.v] 31)).grownBy w4 c.recs.ownBlock) (hb4 : v4.ownBlock = c.recs.ownBlock ∨ v4.ownBlock = some (w2.alloc (.cells #[x.v] 31)).heap.size) :
    LMem (w4.setCell ⟨gl, 6, none⟩ v4) gl { c with recs := v4 } (Ext w (w4.setCell ⟨gl, 6, none⟩ v4) Sl) base (recs ++ [x.l]) dl ∧ Turn w (w4.setCell ⟨gl, 6, none⟩ v4) (fun b => b = gl ∨ c.recs.ownBlock = some b) := by
  have hba : Below w.heap.size w (w2.alloc (.cells #[x.v] 31)) := bt hb2 (below_new _ _)
  have ht4 : Turn w w4 (fun b => c.recs.ownBlock = some b) := (Turn.of_below hba).trans (Turn.of_grown (S := fun b => c.recs.ownBlock = some b) hg4 fun b hb => hb) fun y hy => Or.inl hy
  have ht5 : Turn w (w4.setCell ⟨gl, 6, none⟩ v4) (fun b => b = gl ∨ c.recs.ownBlock = some b) := Turn.setCell (S := fun b => b = gl ∨ c.recs.ownBlock = some b) (ht4.mono fun b hb => Or.inr hb) (Or.inl rfl) v4
  have hgl : gl < w.heap.size := h.lt gl h.mem
  have hz4 := ht4.size
  have hz5 : (w4.setCell ⟨gl, 6, none⟩ v4).heap.size = w4.heap.size := size_setC _ _ _
  have hl4 : LgAt w4 gl c := (ht4.block gl hgl fun e => h.ne_recs e).trans h.at_
  have hvn : ∀ b, v4.ownBlock = some b → (c.recs.ownBlock = some b ∨ w.heap.size ≤ b) ∧ b ≠ gl := fun b hb => by
    rcases hb4 with e | e
    · have e2 := e.symm.trans hb
      exact ⟨Or.inl e2, fun e3 => h.ne_recs (by rw [e2, e3])⟩
    · have e2 := Option.some.inj (e.symm.trans hb)
      have e3 : w.heap.size ≤ b := by rw [← e2]; exact hba.size
      exact ⟨Or.inr e3, fun e4 => by omega⟩
  refine ⟨⟨hl4.set 6 v4 rfl, Or.inl h.mem, h.base.same fun b hb => ?_, fun b hb => Or.inl (h.baseS b hb), ⟨ps ++ [x], ?_, fun b hb => ?_, fun y hy => ?_, ?_⟩, row_same h.dirty fun b hb => ?_, fun b hb => Or.inl (h.dirtyS b hb), fun b hb => ?_⟩, ht5⟩
  · refine ht5.block b (row_lt h.base hb) fun e => ?_
    rcases e with e | e
    · exact h.ne_base (by rw [hb, e])
    · exact h.base_recs hb e
  · have h1 := row_same hr4 fun b hb => set_other (w := w4) (g := gl) (o := 6) (v := v4) (hvn b hb).2
    unfold OwnP
    rw [List.length_append, List.map_append]
    exact h1
  · rcases (hvn b hb).1 with e | e
    · exact Or.inl (hrs b e)
    · exact Or.inr ⟨e, by rw [hz5]; exact row_lt hr4 hb⟩
  · rcases List.mem_append.1 hy with hy | hy
    · refine ⟨(hpi y hy).1.same fun b hb => ?_, fun b hb => Or.inl ((hpi y hy).2 b hb)⟩
      obtain ⟨cur, hc⟩ := row_type (hpi y hy).1 hb
      refine ht5.block b (row_lt (hpi y hy).1 hb) fun e => ?_
      rcases e with e | e
      · exact cells_ne hc h.at_ (by decide) e
      · obtain ⟨cur2, hc2⟩ := row_type hpo e
        exact cells_ne hc hc2 (by decide) rfl
    · obtain rfl := List.mem_singleton.1 hy
      refine ⟨(ho2.lower (Nat.zero_le _)).same fun b hb => ?_, fun b hb => Or.inr ⟨ho2.ge b hb, ?_⟩⟩
      · have h1 := ho2.ge b hb
        have h2 := row_lt ho2 hb
        rw [set_other (by omega), hg4.block b (Nat.lt_of_lt_of_le h2 (below_new w2 _).size) (fun e => by
          have := row_lt hpo e.symm
          omega), (below_new w2 _).block b h2]
      · have h2 := row_lt ho2 hb
        have h3 := (below_new w2 (.cells #[y.v] 31)).size
        have h4 := hg4.size
        rw [hz5]; omega
  · rw [List.map_append, hpl]; rfl
  · refine ht5.block b (row_lt h.dirty hb) fun e => ?_
    rcases e with e | e
    · exact h.ne_dirty (by rw [hb, e])
    · exact h.dirty_recs hb e
  · rcases hb with hb | hb
    · exact Nat.lt_of_lt_of_le (h.lt b hb) (by rw [hz5]; exact hz4)
    · exact hb.2
theorem LMem.push_at {w w2 w4 : World} {gl : Nat} {c : LgC} {Sl : Nat → Prop} {base : List UInt8} {recs : List (List UInt8)} {dl : List Nat} {o : Obj} (h : LMem w gl c Sl base recs dl) (hb2 : Below w.heap.size w w2) (hg4 : (w2.alloc o).grownBy w4 c.recs.ownBlock) : LgAt w4 gl c := by
  have hba : Below w.heap.size w (w2.alloc o) := bt hb2 (below_new _ _)
  have hgl : gl < w.heap.size := h.lt gl h.mem
  refine Eq.trans (hg4.block gl (Nat.lt_of_lt_of_le hgl hba.size) (fun e => h.ne_recs e.symm)) (Eq.trans (hba.block gl hgl) h.at_)
/-- Behind so many clones. -/
structure AdI (w wr : World) (gl : Nat) (c : LgC) (S : Nat → Prop) (s : C.St) (a : Nat) (G : List C.Gr) (base : List UInt8) (recs : List (List UInt8)) (n M : Nat) (ps : List Part) (k : Nat) (c' : LgC) (s' : C.St) (G' : List C.Gr) : Prop where
  log : LogM wr gl c' (Ext w wr S) s' a G' base (recs ++ (ps.take k).map Part.l) (recs ++ ps.map Part.l) n M
  turn : Turn w wr S
  d : c'.d = c.d
  part : c'.part = c.part
  lives : s'.lives = s.lives
  room : s'.room = s.room
  safe : C.Kept G' G
theorem AdI.push {w wr w' : World} {gl : Nat} {c c' : LgC} {S Sl Sd : Nat → Prop} {s s' : C.St} {a : Nat} {G G' : List C.Gr} {base : List UInt8} {recs : List (List UInt8)} {n M : Nat} {ps : List Part} {k : Nat} {x : Part} {dl : List Nat} {v4 : Value}
    (h : AdI w wr gl c S s a G base recs n M ps k c' s' G') (hL : LMem wr gl c' Sl base (recs ++ (ps.take k).map Part.l) dl) (hD : Disk wr c'.d Sd s') (hSl : ∀ b, Sl b → Ext w wr S b) (hSd : ∀ b, Sd b → Ext w wr S b) (hne : ∀ b, Sl b → ¬ Sd b) (hun : ∀ x ∈ C.flat G', x.safe = false → x.file ∈ dl) (hdl : ∀ f ∈ dl, s'.is f = true) (hdm : dl.length ≤ M)
    (hrs : ∀ b, c'.recs.ownBlock = some b → Sl b) (hsn : (ps.take (k + 1)).map Part.l = (ps.take k).map Part.l ++ [x.l])
    (hm : LMem w' gl { c' with recs := v4 } (Ext wr w' Sl) base (recs ++ (ps.take k).map Part.l ++ [x.l]) dl) (ht : Turn wr w' (fun b => b = gl ∨ c'.recs.ownBlock = some b)) : AdI w w' gl c S s a G base recs n M ps (k + 1) { c' with recs := v4 } s' G' := by
  have hT : ∀ b, (b = gl ∨ c'.recs.ownBlock = some b) → Sl b := fun b hb => by
    rcases hb with e | e
    · rw [e]; exact hL.mem
    · exact hrs b e
  have htt : Turn w w' S := h.turn.ext (ht.mono fun b hb => hSl b (hT b hb))
  have hz1 := h.turn.size
  have hz2 := ht.size
  have hgrow : ∀ b, Ext w wr S b → Ext w w' S b := fun b hb => by
    rcases hb with hb | hb
    · exact Or.inl hb
    · exact Or.inr ⟨hb.1, by omega⟩
  rw [List.append_assoc, ← hsn] at hm
  refine ⟨⟨⟨Ext wr w' Sl, Sd, dl, hm, hD.turn ht fun b hb e => hne b (hT b e) hb, fun b hb => ?_, fun b hb => hgrow b (hSd b hb), fun b hb hb2 => ?_, hun, hdl, hdm⟩, fun b hb => ?_, h.log.log, h.log.hold, h.log.base0, h.log.tail, h.log.tc, h.log.off, h.log.lives, h.log.full, h.log.age, h.log.part, h.log.bud⟩, htt, h.d, h.part, h.lives, h.room, h.safe⟩
  · rcases hb with hb | hb
    · exact hgrow b (hSl b hb)
    · exact Or.inr ⟨by omega, hb.2⟩
  · rcases hb with hb | hb
    · exact hne b hb hb2
    · have := hD.lt hb2
      omega
  · rcases hb with hb | hb
    · have := h.log.lt b (Or.inl hb)
      omega
    · exact hb.2
end Go.Proofs.YtnhplbdbgiimkaaGreatDoor

namespace Go.Proofs.YtnhplbdbgiimkaaGreatDoor
open Go.RowKit Go.Lib
set_option linter.unusedVariables false

set_option maxRecDepth 100000 in
set_option maxHeartbeats 8000000 in
theorem logm_add (w : World) (gl : Nat) (c : LgC) (S : Nat → Prop) (s : C.St) (a : Nat) (G : List C.Gr) (base : List UInt8) (recs : List (List UInt8)) (n M : Nat) (p : Option Addr) (ps : List Part) (cap : Nat) (h : LogM w gl c S s a G base recs recs n M) (hT : TStay w S) (ho : Stay w S p ps) (hr : ∀ x ∈ ps, x.l.length ≤ 570) (hn : n + ps.length ≤ 998) (hroom : 600 * (n + ps.length) ≤ s.room ∨ ps.length = 1 ∧ C.used s.ws + (C.ents a (recs.length + 1) (ps.map Part.l)).length ≤ s.room) (hM : M + 1 + ps.length ≤ 100000) (hlen : recs.length + ps.length ≤ 100000) (hcap : ps.length ≤ cap) (hcapm : cap ≤ maxLen) :
    Calls Tryz.prog 12 #[.pointer (some ⟨gl, 0, none⟩), .slice p ps.length cap] w fun e w' => e = .returned (.int .i64 0) ∧ (∃ c' s' G', LogM w' gl c' (Ext w w' S) s' a G' base (recs ++ ps.map Part.l) (recs ++ ps.map Part.l) (n + ps.length) (M + 1 + ps.length) ∧ c'.d = c.d ∧ c'.part = c.part ∧ s'.lives = s.lives ∧ s'.room = s.room ∧ C.Kept G' G) ∧ Turn w w' S := by
  have HCF : Hid (Calls Tryz.prog 32 #[.slice p ps.length cap, .func (.func 33) #[] #[]] w fun e w' => e = .returned (.bool false) ∧ w' = w) := (contf_any p ps cap w (ho w (Turn.refl w S)).1 (by omega) fun x hx => ((ho w (Turn.refl w S)).2 x hx).1).mono fun e w' ⟨⟨z, he, hz⟩, hw⟩ => ⟨by
    rw [he]
    cases z with
    | false => rfl
    | true =>
      obtain ⟨x, hx, h1⟩ := hz.1 rfl
      have := hr x hx
      omega, hw⟩
  have HDN : Hid _ := logm_done w gl c S s a G base recs recs n M h
  have HLT : Hid (∀ x ∈ ps, x.l.length ≤ 570) := hr
  have HH : Hid (LogM w gl c S s a G base recs recs n M) := h
  have HT : Hid (TStay w S) := hT
  have HO : Hid (Stay w S p ps) := ho
  have HN : Hid (n + ps.length ≤ 998) := hn
  have HRM : Hid (600 * (n + ps.length) ≤ s.room ∨ ps.length = 1 ∧ C.used s.ws + (C.ents a (recs.length + 1) (ps.map Part.l)).length ≤ s.room) := hroom
  have HMM : Hid (M + 1 + ps.length ≤ 100000) := hM
  have HLEN : Hid (recs.length + ps.length ≤ 100000) := hlen
  have HCP : Hid (ps.length ≤ cap ∧ cap ≤ maxLen) := ⟨hcap, hcapm⟩
  obtain ⟨m, hm⟩ : ∃ m, m = ps.length := ⟨_, rfl⟩
  have HM : Hid (m = ps.length) := hm
  rw [← hm] at HCF ⊢
  have hm1 : m ≤ 998 := by omega
  clear h hT ho hr hn hroom hM hlen hcap hcapm hm
  go_enter Tryz.func12, Tryz.ntmps12
  go_wp2_with fail
  refine HCF.out.mono ?_
  rintro e w1 ⟨rfl, hw⟩
  rw [hw]
  clear hw w1 HCF
  go_wp2_with fail
  refine Calls.mono HDN.out ?_
  rintro e w1 ⟨rfl, hb1⟩
  have HB1 : Hid (Below w.heap.size w w1) := hb1
  clear hb1 HDN
  rcases Nat.eq_zero_or_pos m with hm0 | hm0
  · subst hm0
    go_wp2
    go_ret
    have hps : ps = [] := List.eq_nil_of_length_eq_zero HM.out.symm
    have h1 := (((HH.out.below HB1.out).super (T := Ext w w1 S) (fun b hb => Or.inl hb) (ext_lt HH.out.lt (Turn.of_below (S := S) HB1.out))).mono (Nat.le_add_right n 0) (show M ≤ M + 1 + 0 by omega))
    refine ⟨rfl, ⟨c, s, G, ?_, rfl, rfl, rfl, rfl, C.Kept.refl G⟩, Turn.of_below HB1.out⟩
    rw [hps]
    simpa using h1
  · have hmz : ((m : Int) == 0) = false := by rw [beq_eq_false_iff_ne]; omega
    obtain ⟨Sl, Sd, dl, hL, hD, hSl, hSd, hne, hun, hdl, hdm⟩ := HH.out.sets
    have HME : Hid _ := mend_any w1 gl c Sd s (hL.at_.below HB1.out) (hD.below HB1.out) (by have := HH.out.bud.made; have := HMM.out; omega) HH.out.off (by have := HH.out.bud.files; have := HN.out; have := HM.out; omega)
    clear hL hD hSl hSd hne hun hdl hdm Sl Sd dl
    go_wp2_with fail
    refine Calls.mono HME.out ?_
    rintro e w2 ⟨rfl, hb2⟩
    have HB2 : Hid (Below w.heap.size w w2) := bt HB1.out hb2
    clear hb2 HME
    have HFI : Hid (Calls Tryz.prog 35 #[.pointer (some ⟨gl, 0, none⟩), .slice p m cap] w2 fun e w' => e = .returned (.bool true) ∧ (∃ s', LogM w' gl c (Ext w2 w' S) s' a G base recs recs n (M + 1) ∧ s'.lives = s.lives ∧ s'.room = s.room ∧ C.used s'.ws = C.used s.ws) ∧ Turn w2 w' S) := by
      have h1 := logm_fits w2 gl c S s a G base recs n M p ps cap (HH.out.below HB2.out) (HT.out.turn (Turn.of_below HB2.out)) (HO.out.turn (Turn.of_below HB2.out)) HLT.out HN.out (HRM.out.imp id And.left) (by have := HMM.out; omega) (by have := HLEN.out; omega) (by have := HM.out; omega)
      rw [← HM.out] at h1
      exact h1
    go_wp2_with fail
    refine HFI.out.mono ?_
    rintro e w3 ⟨rfl, ⟨s1, hlog1, k1, k2, k3⟩, ht3⟩
    have HL1 : Hid (LogM w3 gl c (Ext w2 w3 S) s1 a G base recs recs n (M + 1)) := hlog1
    have HK1 : Hid (s1.lives = s.lives ∧ s1.room = s.room ∧ C.used s1.ws = C.used s.ws) := ⟨k1, k2, k3⟩
    have HT3 : Hid (Turn w2 w3 S) := ht3
    clear hlog1 k1 k2 k3 ht3 HFI
    have HWR : Hid (Calls Tryz.prog 36 #[.pointer (some ⟨gl, 0, none⟩), .slice p m cap] w3 fun e w' => e = .returned (.bool true) ∧ (∃ c' s' G', LogM w' gl c' (Ext w3 w' (Ext w2 w3 S)) s' a G' base recs (recs ++ ps.map Part.l) (n + ps.length) (M + 1 + ps.length) ∧ c'.d = c.d ∧ c'.part = c.part ∧ c'.recs = c.recs ∧ s'.lives = s1.lives ∧ s'.room = s1.room ∧ C.Kept G' G) ∧ Turn w3 w' (Ext w2 w3 S)) := by
      have h1 := logm_write w3 gl c (Ext w2 w3 S) s1 a G base recs n (M + 1) p ps cap HL1.out ((HT.out.turn (Turn.of_below HB2.out)).ext HT3.out) ((HO.out.turn (Turn.of_below HB2.out)).ext HT3.out) HLT.out HN.out (by rw [HK1.out.2.1, HK1.out.2.2]; exact HRM.out) HMM.out HLEN.out HCP.out.1 HCP.out.2
      rw [← HM.out] at h1
      rw [← HM.out]
      exact h1
    go_wp2_with fail
    refine HWR.out.mono ?_
    rintro e w4 ⟨rfl, ⟨c2, s2, G2, hlog2, k1, k2, k3, k4, k5, k6⟩, ht4⟩
    have HI0 : Hid (AdI w w4 gl c S s a G base recs (n + ps.length) (M + 1 + ps.length) ps 0 c2 s2 G2) := by
      have hz2 := HB2.out.size
      have hz3 := HT3.out.size
      have hz4 := ht4.size
      have htt : Turn w w4 S := (Turn.of_below HB2.out).trans (HT3.out.ext ht4) fun x hx => Or.inl hx
      have h1 := hlog2.super (T := Ext w w4 S) (fun b hb => by
        rcases hb with (hb | hb) | hb
        · exact Or.inl hb
        · exact Or.inr ⟨by omega, by omega⟩
        · exact Or.inr ⟨by omega, hb.2⟩) (ext_lt HH.out.lt htt)
      exact ⟨by simpa using h1, htt, k1, k2, k4.trans HK1.out.1, k5.trans HK1.out.2.1, k6⟩
    clear hlog2 k1 k2 k3 k4 k5 k6 ht4 HWR
    go_wp2_with fail
    go_loopw [34] (fun s34 wr => ∃ (k : Nat) (c' : LgC) (s' : C.St) (G' : List C.Gr), s34 = .int .i64 k ∧ k ≤ m ∧ Hid (AdI w wr gl c S s a G base recs (n + ps.length) (M + 1 + ps.length) ps k c' s' G')) (fun s34 _ => m - (intOf s34).toNat)
    case atStart => exact ⟨0, c2, s2, G2, rfl, Nat.zero_le _, HI0⟩
    case round =>
      obtain ⟨k, c', s', G', rfl, hkm, HI⟩ := hrel
      by_cases hlt : k < m
      · obtain ⟨x, hx⟩ : ∃ x, ps[k]? = some x := ⟨_, List.getElem?_eq_getElem (by have := HM.out; omega)⟩
        obtain ⟨hrow, hoks⟩ := HO.out wr HI.out.turn
        obtain ⟨b, o, hpb, hc⟩ := hrow (by have := HM.out; omega)
        subst hpb
        have hkz : (k : Int) < (m : Int) := by omega
        have hxm := List.mem_of_getElem? hx
        have z0 := hc k x hx
        simp only [Part.v] at z0
        have HSN : Hid ((ps.take (k + 1)).map Part.l = (ps.take k).map Part.l ++ [x.l]) := by
          show _ = _
          rw [List.take_add_one, hx]
          simp
        obtain ⟨Sl, Sd, dl, hL, hD, hSl, hSd, hne, hun, hdl, hdm⟩ := HI.out.log.sets
        obtain ⟨qs, hqo, hqs, hqi, hql⟩ := hL.recs
        obtain ⟨lp, lc, hlv, -, -⟩ : ∃ p q, c'.recs = .slice p (recs ++ (ps.take k).map Part.l).length q ∧ (recs ++ (ps.take k).map Part.l).length ≤ q ∧ q ≤ maxLen := hL.recs.len
        have HQN : Hid (qs.length = (recs ++ (ps.take k).map Part.l).length) := by
          show _ = _
          rw [← hql, List.length_map]
        rw [← HQN.out] at hlv
        obtain ⟨q, hq⟩ : ∃ q, q = qs.length := ⟨_, rfl⟩
        have hqb : q ≤ 100000 := by
          rw [hq, HQN.out, List.length_append, List.length_map, List.length_take]
          have := HLEN.out
          omega
        have HQ : Hid (q = qs.length) := hq
        rw [← hq] at hlv
        have HLV : Hid (c'.recs = .slice lp q lc) := hlv
        have HLM : Hid (LMem wr gl c' Sl base (recs ++ (ps.take k).map Part.l) dl) := hL
        have HD : Hid (Disk wr c'.d Sd s') := hD
        have HSL : Hid (∀ b, Sl b → Ext w wr S b) := hSl
        have HSD : Hid (∀ b, Sd b → Ext w wr S b) := hSd
        have HNE : Hid (∀ b, Sl b → ¬ Sd b) := hne
        have HUN : Hid (∀ x ∈ C.flat G', x.safe = false → x.file ∈ dl) := hun
        have HDL : Hid (∀ f ∈ dl, s'.is f = true) := hdl
        have HDM : Hid (dl.length ≤ M + 1 + ps.length) := hdm
        have HQO : Hid (OwnP wr 0 c'.recs qs) := hqo
        have HQS : Hid (∀ b, c'.recs.ownBlock = some b → Sl b) := hqs
        have HQI : Hid (∀ x ∈ qs, Own wr 0 x.v x.l ∧ ∀ b, x.v.ownBlock = some b → Sl b) := hqi
        have HQL : Hid (qs.map Part.l = recs ++ (ps.take k).map Part.l) := hql
        have HXK : Hid (x.ok wr) := hoks x hxm
        have HXL : Hid (x.l.length ≤ 570) := HLT.out x hxm
        clear hrow hoks hc hx hxm hL hD hSl hSd hne hun hdl hdm hqo hqs hqi hql hlv hq
        go_wp2_with fail
        have hC : True := trivial
        refine wp_region_held_drew (S := fun _ => True) (by kernel_rfl) hC (fun _ => ?_)
        have HBd : Hid (Below wr.heap.size wr wr.drew) := (Below.refl _ wr).drew
        generalize hW0 : wr.drew = W0 at *
        clear hW0
        have HCL : Hid _ := clone_any x.p x.l x.cap W0 (Part.ok.below HXK.out HBd.out) (by have := HXL.out; omega)
        refine takeList (i := 0) rfl (by kernel_rfl) (by kernel_rfl) (by kernel_rfl) (fun _ _ _ _ h => h) rfl rfl hC (fun K hK => ?_)
        go_big_quiet_op
        refine hK _ ?_
        clear hK K
        refine takeList (i := 1) rfl (by kernel_rfl) (by kernel_rfl) (by kernel_rfl) (fun _ _ _ _ h => h) rfl rfl hC (fun K hK => ?_)
        go_big_quiet_op
        refine hK _ ?_
        clear hK K
        refine takeNil (i := 2) rfl rfl rfl (by kernel_rfl) (by kernel_rfl) (by kernel_rfl) (fun _ _ _ _ h => h) rfl hC ?_
        go_simp
        refine takeList (i := 3) rfl (by kernel_rfl) (by kernel_rfl) (by kernel_rfl) (fun _ _ _ _ h => h) rfl rfl hC (fun K hK => ?_)
        go_big_quiet_op
        refine hK _ ?_
        clear hK K
        refine takeList (i := 5) rfl (by kernel_rfl) (by kernel_rfl) (by kernel_rfl) (fun _ _ _ _ h => h) rfl rfl hC (fun K hK => ?_)
        go_big_quiet_op
        refine hK _ ?_
        clear hK K
        clear z0
        have hrc : ∀ W, Below wr.heap.size wr W → W.cell? ⟨gl, 6, none⟩ = some (.slice lp q lc) := fun W hW => by
          rw [← HLV.out]
          exact ((HLM.out.at_.below hW).cell 6).trans rfl
        have HRC : Hid (∀ W, Below wr.heap.size wr W → W.cell? ⟨gl, 6, none⟩ = some (.slice lp q lc)) := hrc
        clear hrc
        have hN1 : q + 1 ≤ maxLen := by unfold maxLen; omega
        have hN2 : (q + 1) * 24 ≤ 140737488355328 := by omega
        have HN1 : Hid (q + 1 ≤ maxLen) := hN1
        have HN2 : Hid ((q + 1) * 24 ≤ 140737488355328) := hN2
        clear hN1 hN2
        refine wpAnyH_ready (rs := [4, 6]) (by kernel_rfl) (by simp) (AllReadyH.cons (at_of_drop (i := 4) rfl) (fun K hK => ?_) (AllReadyH.cons (at_of_drop (i := 6) rfl) (fun K hK => ?_) AllReadyH.nil))
        · rw [if_pos (by rfl)]
          have g6 := HRC.out W0 HBd.out
          go_simp
          refine hK.out _ _ trivial (fun hC => ?_)
          try go_simp
          clear hK K g6
          refine callList (i := 6) rfl (by kernel_rfl) rfl (fun K hK => ?_)
          go_simp
          refine Calls.mono HCL.out ?_
          rintro e w5 ⟨⟨v5, rfl, ho5⟩, hb5⟩
          obtain ⟨p5, k5, hv5, -⟩ := Own.part ho5
          subst hv5
          have HO5 : Hid (Own w5 wr.heap.size (Part.mk p5 x.l k5).v x.l) := Own.lower ho5 HBd.out.size
          have HB5 : Hid (Below wr.heap.size wr w5) := bt HBd.out hb5
          clear ho5 hb5 HCL
          refine hK.out _ _ trivial (?_)
          try go_simp
          clear hK K
          refine callList (i := 7) rfl (by kernel_rfl) rfl (fun K hK => ?_)
          go_simp
          refine hK.out _ _ trivial ?_
          try go_simp
          clear hK K
          refine callList (i := 8) rfl (by kernel_rfl) rfl (fun K hK => ?_)
          have HRW : Hid ((w5.alloc (.cells #[.slice p5 x.l.length k5] 31)).ownsRow 0 31 1 (.slice lp q lc) q (qs.map Part.v)) := by
            have h1 := (HQO.out.below HB5.out).below (below_new w5 (.cells #[.slice p5 x.l.length k5] 31))
            unfold OwnP at h1
            rw [HLV.out, ← HQ.out] at h1
            exact h1
          refine oper_append_src Tryz.underlying32 info_bytes rfl (by decide) _ _ rfl rfl HRW.out rfl (one_src w5 ⟨p5, x.l, k5⟩) (parts_one [_]) HN1.out HN2.out ?_
          intro v4 w4 hr4 hg4 hb4
          have HG4 : Hid ((w5.alloc (.cells #[.slice p5 x.l.length k5] 31)).grownBy w4 c'.recs.ownBlock) := by rw [HLV.out]; exact hg4
          have HPU : Hid _ := HLM.out.push (x := ⟨p5, x.l, k5⟩) (v4 := v4) (w4 := w4) HQO.out HQI.out HQL.out HQS.out HB5.out HO5.out (by rw [← HQ.out]; exact hr4) HG4.out (by rw [HLV.out]; exact hb4)
          have HA4 : Hid (LgAt w4 gl c') := HLM.out.push_at HB5.out HG4.out
          obtain ⟨p4, k4, hv4⟩ := own_slice hr4
          subst hv4
          clear hr4 hg4 hb4
          refine hK.out _ _ trivial ?_
          try go_simp
          clear hK K
          refine takeNil (i := 9) rfl rfl rfl (by kernel_rfl) (by kernel_rfl) (by kernel_rfl) (fun _ _ _ _ h => h) rfl hC ?_
          go_simp
          refine takeList (i := 10) rfl (by kernel_rfl) (by kernel_rfl) (by kernel_rfl) (fun _ _ _ _ h => h) rfl rfl hC (fun K hK => ?_)
          go_big_quiet_op
          refine hK _ ?_
          clear hK K
          obtain ⟨e6, -, -, -, -⟩ := log_cells HA4.out
          have f6 := HA4.out.fz 6
          refine callList (i := 11) rfl (by kernel_rfl) rfl (fun K hK => ?_)
          go_simp
          refine hK.out _ _ trivial ?_
          try go_simp
          clear hK K
          refine wpAnyH_done (by kernel_rfl) ?_ _
          clear e6 f6 hC
          have HNX : Hid _ := HI.out.push HLM.out HD.out HSL.out HSD.out HNE.out HUN.out HDL.out HDM.out HQS.out HSN.out HPU.out.1 HPU.out.2
          go_wp2
          go_roundw
          case rel => exact ⟨k + 1, _, _, _, by go_num, by omega, HNX.out⟩
          case measure => simp [intOf]; omega
        · rw [if_pos (by rfl)]
          go_simp
          refine Calls.mono HCL.out ?_
          rintro e w5 ⟨⟨v5, rfl, ho5⟩, hb5⟩
          obtain ⟨p5, k5, hv5, -⟩ := Own.part ho5
          subst hv5
          have HO5 : Hid (Own w5 wr.heap.size (Part.mk p5 x.l k5).v x.l) := Own.lower ho5 HBd.out.size
          have HB5 : Hid (Below wr.heap.size wr w5) := bt HBd.out hb5
          clear ho5 hb5 HCL
          refine hK.out _ _ trivial (fun hC => ?_)
          try go_simp
          clear hK K
          refine wpAnyH_ready (rs := [4, 7]) (by kernel_rfl) (by simp) (AllReadyH.cons (at_of_drop (i := 4) rfl) (fun K hK => ?_) (AllReadyH.cons (at_of_drop (i := 7) rfl) (fun K hK => ?_) AllReadyH.nil))
          · rw [if_pos (by rfl)]
            have g6 := HRC.out w5 HB5.out
            go_simp
            refine hK.out _ _ trivial (fun hC => ?_)
            try go_simp
            clear hK K g6
            refine callList (i := 7) rfl (by kernel_rfl) rfl (fun K hK => ?_)
            go_simp
            refine hK.out _ _ trivial ?_
            try go_simp
            clear hK K
            refine callList (i := 8) rfl (by kernel_rfl) rfl (fun K hK => ?_)
            have HRW : Hid ((w5.alloc (.cells #[.slice p5 x.l.length k5] 31)).ownsRow 0 31 1 (.slice lp q lc) q (qs.map Part.v)) := by
              have h1 := (HQO.out.below HB5.out).below (below_new w5 (.cells #[.slice p5 x.l.length k5] 31))
              unfold OwnP at h1
              rw [HLV.out, ← HQ.out] at h1
              exact h1
            refine oper_append_src Tryz.underlying32 info_bytes rfl (by decide) _ _ rfl rfl HRW.out rfl (one_src w5 ⟨p5, x.l, k5⟩) (parts_one [_]) HN1.out HN2.out ?_
            intro v4 w4 hr4 hg4 hb4
            have HG4 : Hid ((w5.alloc (.cells #[.slice p5 x.l.length k5] 31)).grownBy w4 c'.recs.ownBlock) := by rw [HLV.out]; exact hg4
            have HPU : Hid _ := HLM.out.push (x := ⟨p5, x.l, k5⟩) (v4 := v4) (w4 := w4) HQO.out HQI.out HQL.out HQS.out HB5.out HO5.out (by rw [← HQ.out]; exact hr4) HG4.out (by rw [HLV.out]; exact hb4)
            have HA4 : Hid (LgAt w4 gl c') := HLM.out.push_at HB5.out HG4.out
            obtain ⟨p4, k4, hv4⟩ := own_slice hr4
            subst hv4
            clear hr4 hg4 hb4
            refine hK.out _ _ trivial ?_
            try go_simp
            clear hK K
            refine takeNil (i := 9) rfl rfl rfl (by kernel_rfl) (by kernel_rfl) (by kernel_rfl) (fun _ _ _ _ h => h) rfl hC ?_
            go_simp
            refine takeList (i := 10) rfl (by kernel_rfl) (by kernel_rfl) (by kernel_rfl) (fun _ _ _ _ h => h) rfl rfl hC (fun K hK => ?_)
            go_big_quiet_op
            refine hK _ ?_
            clear hK K
            obtain ⟨e6, -, -, -, -⟩ := log_cells HA4.out
            have f6 := HA4.out.fz 6
            refine callList (i := 11) rfl (by kernel_rfl) rfl (fun K hK => ?_)
            go_simp
            refine hK.out _ _ trivial ?_
            try go_simp
            clear hK K
            refine wpAnyH_done (by kernel_rfl) ?_ _
            clear e6 f6 hC
            have HNX : Hid _ := HI.out.push HLM.out HD.out HSL.out HSD.out HNE.out HUN.out HDL.out HDM.out HQS.out HSN.out HPU.out.1 HPU.out.2
            go_wp2
            go_roundw
            case rel => exact ⟨k + 1, _, _, _, by go_num, by omega, HNX.out⟩
            case measure => simp [intOf]; omega
          · rw [if_pos (by rfl)]
            go_simp
            refine hK.out _ _ trivial (fun hC => ?_)
            try go_simp
            clear hK K
            have g6 := HRC.out (w5.alloc (.cells #[.slice p5 x.l.length k5] 31)) (bt HB5.out (below_new _ _))
            refine callList (i := 4) rfl (by kernel_rfl) rfl (fun K hK => ?_)
            go_simp
            refine hK.out _ _ trivial ?_
            try go_simp
            clear hK K g6
            refine callList (i := 8) rfl (by kernel_rfl) rfl (fun K hK => ?_)
            have HRW : Hid ((w5.alloc (.cells #[.slice p5 x.l.length k5] 31)).ownsRow 0 31 1 (.slice lp q lc) q (qs.map Part.v)) := by
              have h1 := (HQO.out.below HB5.out).below (below_new w5 (.cells #[.slice p5 x.l.length k5] 31))
              unfold OwnP at h1
              rw [HLV.out, ← HQ.out] at h1
              exact h1
            refine oper_append_src Tryz.underlying32 info_bytes rfl (by decide) _ _ rfl rfl HRW.out rfl (one_src w5 ⟨p5, x.l, k5⟩) (parts_one [_]) HN1.out HN2.out ?_
            intro v4 w4 hr4 hg4 hb4
            have HG4 : Hid ((w5.alloc (.cells #[.slice p5 x.l.length k5] 31)).grownBy w4 c'.recs.ownBlock) := by rw [HLV.out]; exact hg4
            have HPU : Hid _ := HLM.out.push (x := ⟨p5, x.l, k5⟩) (v4 := v4) (w4 := w4) HQO.out HQI.out HQL.out HQS.out HB5.out HO5.out (by rw [← HQ.out]; exact hr4) HG4.out (by rw [HLV.out]; exact hb4)
            have HA4 : Hid (LgAt w4 gl c') := HLM.out.push_at HB5.out HG4.out
            obtain ⟨p4, k4, hv4⟩ := own_slice hr4
            subst hv4
            clear hr4 hg4 hb4
            refine hK.out _ _ trivial ?_
            try go_simp
            clear hK K
            refine takeNil (i := 9) rfl rfl rfl (by kernel_rfl) (by kernel_rfl) (by kernel_rfl) (fun _ _ _ _ h => h) rfl hC ?_
            go_simp
            refine takeList (i := 10) rfl (by kernel_rfl) (by kernel_rfl) (by kernel_rfl) (fun _ _ _ _ h => h) rfl rfl hC (fun K hK => ?_)
            go_big_quiet_op
            refine hK _ ?_
            clear hK K
            obtain ⟨e6, -, -, -, -⟩ := log_cells HA4.out
            have f6 := HA4.out.fz 6
            refine callList (i := 11) rfl (by kernel_rfl) rfl (fun K hK => ?_)
            go_simp
            refine hK.out _ _ trivial ?_
            try go_simp
            clear hK K
            refine wpAnyH_done (by kernel_rfl) ?_ _
            clear e6 f6 hC
            have HNX : Hid _ := HI.out.push HLM.out HD.out HSL.out HSD.out HNE.out HUN.out HDL.out HDM.out HQS.out HSN.out HPU.out.1 HPU.out.2
            go_wp2
            go_roundw
            case rel => exact ⟨k + 1, _, _, _, by go_num, by omega, HNX.out⟩
            case measure => simp [intOf]; omega
      · obtain rfl : k = m := by omega
        have htk : ps.take k = ps := List.take_of_length_le (by have := HM.out; omega)
        go_wp2
        go_ret
        have hlog := HI.out.log
        rw [htk] at hlog
        rw [HM.out]
        exact ⟨rfl, ⟨c', s', G', hlog, HI.out.d, HI.out.part, HI.out.lives, HI.out.room, HI.out.safe⟩, HI.out.turn⟩
end Go.Proofs.YtnhplbdbgiimkaaGreatDoor
