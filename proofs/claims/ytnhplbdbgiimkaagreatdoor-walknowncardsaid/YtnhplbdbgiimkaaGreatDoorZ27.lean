/-
  Several texts in one: WSync2, WFits, WWrite1.
-/
import Derived.Test.YtnhplbdbgiimkaaGreatDoorZ26
import Derived.Test.YtnhplbdbgiimkaaGreatDoorZ18
namespace Go.Proofs.YtnhplbdbgiimkaaGreatDoor
open Go.RowKit Go.Lib
set_option linter.unusedVariables false

/-- Behind a turn of a log's own block and of its dirty row. -/
theorem LMem.touch {w w' : World} {g : Nat} {c c' : LgC} {Sl Sl' T : Nat → Prop} {base : List UInt8} {recs : List (List UInt8)} {dl dl' : List Nat} (h : LMem w g c Sl base recs dl) (ht : Turn w w' T) (hT : ∀ b, Sl b → T b → b = g ∨ c.dirty.ownBlock = some b) (hat : LgAt w' g c') (hcb : c'.base = c.base) (hcr : c'.recs = c.recs) (hd : OwnI w' c'.dirty dl') (hds : ∀ b, c'.dirty.ownBlock = some b → Sl' b) (hm : ∀ b, Sl b → Sl' b) (hlt : ∀ b, Sl' b → b < w'.heap.size) : LMem w' g c' Sl' base recs dl' := by
  have key : ∀ {b t : Nat} {cs : Array Value} {m : Nat × Nat}, Sl b → w.heap[b]? = some (.cells cs t m) → t ≠ 64 → t ≠ 3 → w'.heap[b]? = w.heap[b]? := fun {b t cs m} hs hb h1 h2 => by
    refine ht.block b (h.lt b hs) fun hT' => ?_
    rcases hT b hs hT' with e | e
    · exact cells_ne hb h.at_ h1 e
    · obtain ⟨cur, hc⟩ := row_type h.dirty e
      exact cells_ne hb hc h2 rfl
  obtain ⟨ps, h1, h2, h3, h4⟩ := h.recs
  refine ⟨hat, hm g h.mem, ?_, fun b hb => hm b (h.baseS b (by rw [← hcb]; exact hb)), ?_, hd, hds, hlt⟩
  · rw [hcb]
    refine h.base.same fun b hb => ?_
    obtain ⟨cur, hc⟩ := row_type h.base hb
    exact key (h.baseS b hb) hc (by decide) (by decide)
  · rw [hcr]
    refine ⟨ps, h1.same fun b hb => ?_, fun b hb => hm b (h2 b hb), fun x hx => ⟨(h3 x hx).1.same fun b hb => ?_, fun b hb => hm b ((h3 x hx).2 b hb)⟩, h4⟩
    · obtain ⟨cur, hc⟩ := row_type h1 hb
      exact key (h2 b hb) hc (by decide) (by decide)
    · obtain ⟨cur, hc⟩ := row_type (h3 x hx).1 hb
      exact key ((h3 x hx).2 b hb) hc (by decide) (by decide)
theorem TailG.sf {c c' : LgC} {G : List C.Gr} (h : TailG c G) (h1 : c'.tf = c.tf) (h2 : c'.tt = c.tt) : TailG c' (G.map C.Gr.sf) := by
  rcases h with ⟨rfl, e⟩ | ⟨G', g, rfl, e2, e3⟩
  · exact Or.inl ⟨rfl, h1.trans e⟩
  · refine Or.inr ⟨G'.map C.Gr.sf, g.sf, by rw [List.map_append]; rfl, h1.trans e2, fun htt x hx => ?_⟩
    obtain ⟨y, hy, rfl⟩ := List.mem_map.1 hx
    exact e3 (by rw [← h2]; exact htt) y hy
theorem syncs_all {s : C.St} {a : Nat} {G : List C.Gr} (h : C.LogW s a G) {dl : List Nat} (hun : ∀ x ∈ C.flat G, x.safe = false → x.file ∈ dl) : (C.syncs dl s).ws.map C.wkey = s.ws.map fun x => (x.file, x.bytes, true) := by
  rw [C.syncs_ws]
  refine List.map_congr_left fun x hx => ?_
  cases hs : x.safe with
  | true => rfl
  | false =>
    have h1 : C.wkey x ∈ (C.flat G).map (C.Ch.key a) := by rw [← h.ws]; exact List.mem_map_of_mem hx
    obtain ⟨y, hy, e⟩ := List.mem_map.1 h1
    simp only [C.Ch.key, C.wkey, Prod.mk.injEq] at e
    have h2 := hun y hy (e.2.2.trans hs)
    rw [e.1] at h2
    simp [h2]
theorem logm_sync (w : World) (gl : Nat) (c : LgC) (S : Nat → Prop) (s : C.St) (a : Nat) (G : List C.Gr) (base : List UInt8) (recs : List (List UInt8)) (n M : Nat) (h : LogM w gl c S s a G base recs recs n M) (hM : M ≤ 100000) :
    Calls Tryz.prog 15 #[.pointer (some ⟨gl, 0, none⟩)] w fun e w' => e = .returned (.int .i64 0) ∧ (∃ c' s' G', LogM w' gl c' S s' a G' base recs recs n M ∧ c'.d = c.d ∧ c'.part = c.part ∧ s'.lives = s.lives ∧ s'.room = s.room ∧ (∀ x ∈ C.flat G', x.safe = true) ∧ (C.Clean G → C.Clean G')) ∧ Turn w w' S := by
  obtain ⟨Sl, Sd, dl, hL, hD, hSl, hSd, hne, hun, hdl, hdm⟩ := h.sets
  refine (lsync_any w gl c Sd s dl hL.at_ hD h.done hL.dirty (fun hx => hne gl hL.mem hx) (fun b hb => hne b (hL.dirtyS b hb)) (Nat.le_trans hdm hM) hdl).mono ?_
  rintro e w' ⟨rfl, hd', hl', ht'⟩
  obtain ⟨k1, k2, k3, k4, k5⟩ := C.syncs_is dl s
  obtain ⟨g1, g2, g3⟩ := h.log.allSafe (s' := C.syncs dl s) (syncs_all h.log hun) k1
  have hlm : LMem w' gl (c.soil (.slice none 0 0)) Sl base recs [] := hL.touch ht' (fun b hb hT => by
    rcases hT with e | e
    · exact Or.inl e
    · exact absurd e (hne b hb)) hl' rfl rfl (OwnI.nil w') (fun b hb => by cases hb) (fun b hb => hb) fun b hb => Nat.lt_of_lt_of_le (hL.lt b hb) ht'.size
  refine ⟨rfl, ⟨c.soil (.slice none 0 0), C.syncs dl s, G.map C.Gr.sf, ⟨⟨Sl, Sd, [], hlm, hd', hSl, hSd, hne, fun x hx hxs => ?_, fun f hf => (by cases hf), Nat.zero_le _⟩, fun b hb => Nat.lt_of_lt_of_le (h.lt b hb) ht'.size, g1, by rw [g2]; exact h.hold, h.base0, h.tail.sf rfl rfl, h.tc, k2.trans h.off, h.lives.trans k3.symm, h.full, h.age, h.part, h.bud.syncs dl⟩, rfl, rfl, k3, k5, g3, fun hcl => hcl.sf⟩, ht'.mono fun b hb => ?_⟩
  · have := g3 x hx
    rw [hxs] at this; cases this
  · rcases hb with rfl | hb
    · exact hSl _ hL.mem
    · exact hSd b hb
theorem logm_done (w : World) (gl : Nat) (c : LgC) (S : Nat → Prop) (s : C.St) (a : Nat) (G : List C.Gr) (base : List UInt8) (recs drecs : List (List UInt8)) (n M : Nat) (h : LogM w gl c S s a G base recs drecs n M) :
    Calls Tryz.prog 18 #[.pointer (some ⟨gl, 0, none⟩)] w fun e w' => e = .returned (.bool false) ∧ Below w.heap.size w w' := by
  obtain ⟨Sl, Sd, dl, hL, hD, _⟩ := h.sets
  have h1 := done_any w gl c Sd s hL.at_ hD
  rw [h.done] at h1
  exact h1
theorem logm_base (w : World) (gl : Nat) (c : LgC) (S : Nat → Prop) (s : C.St) (a : Nat) (G : List C.Gr) (base : List UInt8) (recs drecs : List (List UInt8)) (n M : Nat) (h : LogM w gl c S s a G base recs drecs n M) :
    Calls Tryz.prog 19 #[.pointer (some ⟨gl, 0, none⟩)] w fun e w' => (∃ v, e = .returned v ∧ Own w' w.heap.size v base) ∧ Below w.heap.size w w' := by
  obtain ⟨Sl, Sd, dl, hL, hD, _⟩ := h.sets
  obtain ⟨p, cap, hv, hx⟩ := Own.part hL.base
  exact base_any w gl c p base cap hL.at_ hv hx h.small.1
theorem logm_all (w : World) (gl : Nat) (c : LgC) (S : Nat → Prop) (s : C.St) (a : Nat) (G : List C.Gr) (base : List UInt8) (recs : List (List UInt8)) (n M : Nat) (h : LogM w gl c S s a G base recs recs n M) (hk : recs.length ≤ 100000) :
    Calls Tryz.prog 13 #[.pointer (some ⟨gl, 0, none⟩)] w fun e w' => (∃ v, e = .returned v ∧ RecsOwn w' w.heap.size v recs) ∧ Below w.heap.size w w' := by
  obtain ⟨Sl, Sd, dl, hL, hD, _⟩ := h.sets
  obtain ⟨ps, h1, h2, h3, h4⟩ := hL.recs
  have hok : ∀ x ∈ ps, x.ok w := fun x hx => (h3 x hx).1.okAt rfl
  obtain ⟨p, qs, cap, hv, hp, ho, hq, _, _⟩ := h1.rows hok
  have hsm := h.small.2
  have := all_any w gl c p qs cap hL.at_ hv hp ho (fun x hx => hsm _ (by rw [← h4, ← hq]; exact List.mem_map_of_mem hx)) (by
    have e := congrArg List.length (hq.trans h4)
    rw [List.length_map] at e
    rw [e]; exact hk)
  rw [hq, h4] at this
  exact this
end Go.Proofs.YtnhplbdbgiimkaaGreatDoor

namespace Go.Proofs.YtnhplbdbgiimkaaGreatDoor
open Go.RowKit Go.Lib
set_option linter.unusedVariables false

/-- Worlds of a kind. -/
structure HW (P : World → Prop) where
  v : World
  h : P v
theorem LgAt.drew {w : World} {g : Nat} {c : LgC} (h : LgAt w g c) : LgAt w.drew g c := h
theorem LogM.super {w : World} {gl : Nat} {c : LgC} {S T : Nat → Prop} {s : C.St} {a : Nat} {G : List C.Gr} {base : List UInt8} {recs drecs : List (List UInt8)} {n M : Nat} (h : LogM w gl c S s a G base recs drecs n M) (hs : ∀ b, S b → T b) (ht : ∀ b, T b → b < w.heap.size) : LogM w gl c T s a G base recs drecs n M := by
  obtain ⟨Sl, Sd, dl, h1, h2, h3, h4, h5⟩ := h.sets
  exact ⟨⟨Sl, Sd, dl, h1, h2, fun b hb => hs b (h3 b hb), fun b hb => hs b (h4 b hb), h5⟩, ht, h.log, h.hold, h.base0, h.tail, h.tc, h.off, h.lives, h.full, h.age, h.part, h.bud⟩
theorem free_ref {s : C.St} {f : Nat} (hoff : s.off = false) (hf : f ≤ (C.fs s).length) (hl : (C.fs s).length < 999) : refE s (f : Int) = 0 := by
  unfold refE
  rw [if_neg (by rw [hoff]; decide), if_neg (by omega)]
theorem ps_ents {a n : Nat} {ps : List Part} (hr : ∀ x ∈ ps, x.l.length ≤ 570) : (C.ents a n (ps.map Part.l)).length ≤ 600 * ps.length := by
  have h := C.ents_six a n (ps.map Part.l) fun r hr' => by
    obtain ⟨x, hx, rfl⟩ := List.mem_map.1 hr'
    exact hr x hx
  rw [List.length_map] at h
  exact h
set_option maxRecDepth 100000 in
set_option maxHeartbeats 8000000 in
theorem logm_fits (w : World) (gl : Nat) (c : LgC) (S : Nat → Prop) (s : C.St) (a : Nat) (G : List C.Gr) (base : List UInt8) (recs : List (List UInt8)) (n M : Nat) (p : Option Addr) (ps : List Part) (cap : Nat) (h : LogM w gl c S s a G base recs recs n M) (hT : TStay w S) (ho : Stay w S p ps) (hr : ∀ x ∈ ps, x.l.length ≤ 570) (hn : n + ps.length ≤ 998) (hroom : 600 * (n + ps.length) ≤ s.room ∨ ps.length = 1) (hM : M + 1 ≤ 100000) (hlen : recs.length ≤ 100000) (hps : 0 < ps.length) :
    Calls Tryz.prog 35 #[.pointer (some ⟨gl, 0, none⟩), .slice p ps.length cap] w fun e w' => e = .returned (.bool true) ∧ (∃ s', LogM w' gl c (Ext w w' S) s' a G base recs recs n (M + 1) ∧ s'.lives = s.lives ∧ s'.room = s.room ∧ C.used s'.ws = C.used s.ws) ∧ Turn w w' S := by
  obtain ⟨Sl, Sd, dl, hL, hD, hSl, hSd, hne, hun, hdl, hdm⟩ := h.sets
  obtain ⟨lp, lc, hlv, -, -⟩ := hL.recs.len
  obtain ⟨m, hm⟩ : ∃ m, m = ps.length := ⟨_, rfl⟩
  have HM : Hid (m = ps.length) := hm
  rw [← hm]
  obtain ⟨ln, hln⟩ : ∃ ln, ln = recs.length := ⟨_, rfl⟩
  rw [← hln] at hlv
  have hln1 : ln ≤ 100000 := by omega
  have HLN : Hid (ln = recs.length) := hln
  by_cases h1 : m = 1
  · have hb : ((m : Int) == 1) = true := by rw [h1]; rfl
    have HH : Hid (LogM w gl c S s a G base recs recs n M) := h
    clear h ho hL hD hSl hSd hne hun hdl hdm hT hln hlv hm hroom
    go_enter Tryz.func35, Tryz.ntmps35
    go_wp2
    go_ret
    exact ⟨rfl, ⟨s, (HH.out.mono (Nat.le_refl _) (Nat.le_succ _)).super (fun b hb => Or.inl hb) (ext_lt HH.out.lt (Turn.refl w S)), rfl, rfl, rfl⟩, Turn.refl w S⟩
  · have hb : ((m : Int) == 1) = false := by rw [beq_eq_false_iff_ne]; omega
    have HFR : Hid _ := free_any w gl c Sd s hL.at_ hD (by have := h.bud.made; omega) h.off
    have HH : Hid (LogM w gl c S s a G base recs recs n M) := h
    have HL : Hid (LMem w gl c Sl base recs dl) := hL
    have HLA : Hid (LgAt w gl c) := hL.at_
    have HD : Hid (Disk w c.d Sd s) := hD
    have HSL : Hid (∀ b, Sl b → S b) := hSl
    have HSD : Hid (∀ b, Sd b → S b) := hSd
    have HNE : Hid (∀ b, Sl b → ¬ Sd b) := hne
    have HUN : Hid (∀ x ∈ C.flat G, x.safe = false → x.file ∈ dl) := hun
    have HDL : Hid (∀ f ∈ dl, s.is f = true) := hdl
    have HDM : Hid (dl.length ≤ M) := hdm
    have HT : Hid (TStay w S) := hT
    have HO : Hid (Stay w S p ps) := ho
    have HR : Hid (∀ x ∈ ps, x.l.length ≤ 570) := hr
    have HN : Hid (n + ps.length ≤ 998) := hn
    have HRM : Hid (600 * (n + ps.length) ≤ s.room) := by
      rcases hroom with e | e
      · exact e
      · exact absurd (hm.trans e) h1
    have HMM : Hid (M + 1 ≤ 100000) := hM
    have HLV : Hid (c.recs = .slice lp ln lc) := hlv
    clear h ho hL hD hSl hSd hne hun hdl hdm hT hln hlv hm hr hn hroom hM hlen hps
    go_enter Tryz.func35, Tryz.ntmps35
    go_wp2_with fail
    refine Calls.mono HFR.out ?_
    rintro e w1 ⟨⟨f, rfl, hf1, hf2⟩, hb1⟩
    have HF : Hid (¬ f ∈ C.fs s ∧ f ≤ (C.fs s).length) := ⟨hf1, hf2⟩
    have HB1 : Hid (Below w.heap.size w w1) := hb1
    have HL1 : Hid (LgAt w1 gl c) := HLA.out.below hb1
    clear hb1 hf1 hf2 HFR
    go_wp2_with fail
    have d0 : ∀ t : HW (fun v => LgAt v gl c), t.v.cell? ⟨gl, 0, none⟩ = some (.pointer (some ⟨c.d, 0, none⟩)) := fun t => (t.h.cell 0).trans rfl
    have d6 : ∀ t : HW (fun v => LgAt v gl c), t.v.cell? ⟨gl, 6, none⟩ = some (.slice lp ln lc) := fun t => (t.h.cell 6).trans (by rw [← HLV.out]; rfl)
    have hne : Nonempty (HW (fun v => LgAt v gl c)) := ⟨⟨w1, HL1.out⟩⟩
    have hC : ∃ t : HW (fun v => LgAt v gl c), w1.drew = t.v := ⟨⟨w1.drew, HL1.out⟩, rfl⟩
    refine wp_region_held_drew (S := fun w' => ∃ t : HW (fun v => LgAt v gl c), w' = t.v) (by kernel_rfl) hC (fun _ => ?_)
    have HB1d : Hid (Below w.heap.size w w1.drew) := HB1.out.drew
    have HL1d : Hid (LgAt w1.drew gl c) := HL1.out
    generalize hW0 : w1.drew = W0 at *
    clear hW0
    refine takeList (i := 0) rfl (by kernel_rfl) (by kernel_rfl) (by kernel_rfl) (fun _ _ _ _ h => h) rfl rfl hC (fun K hK => ?_)
    go_big_quiet_op
    refine hK _ ?_
    clear hK K
    refine takeNil (i := 1) rfl rfl rfl (by kernel_rfl) (by kernel_rfl) (by kernel_rfl) (fun _ _ _ _ h => h) rfl hC ?_
    go_simp
    refine takeList (i := 2) rfl (by kernel_rfl) (by kernel_rfl) (by kernel_rfl) (fun _ _ _ _ h => h) rfl rfl hC (fun K hK => ?_)
    go_big_quiet_op
    refine hK _ ?_
    clear hK K
    refine takeList (i := 3) rfl (by kernel_rfl) (by kernel_rfl) (by kernel_rfl) (fun _ _ _ _ h => h) rfl rfl hC (fun K hK => ?_)
    go_big_quiet_op
    refine hK _ ?_
    clear hK K
    refine takeList (i := 4) rfl (by kernel_rfl) (by kernel_rfl) (by kernel_rfl) (fun _ _ _ _ h => h) rfl rfl hC (fun K hK => ?_)
    go_big_quiet_op
    refine hK _ ?_
    clear hK K
    refine takeList (i := 5) rfl (by kernel_rfl) (by kernel_rfl) (by kernel_rfl) (fun _ _ _ _ h => h) rfl rfl hC (fun K hK => ?_)
    go_big_quiet_op
    refine hK _ ?_
    clear hK K
    refine takeList (i := 6) rfl (by kernel_rfl) (by kernel_rfl) (by kernel_rfl) (fun _ _ _ _ h => h) rfl rfl hC (fun K hK => ?_)
    go_big_quiet_op
    refine hK _ ?_
    clear hK K
    refine takeNil (i := 7) rfl rfl rfl (by kernel_rfl) (by kernel_rfl) (by kernel_rfl) (fun _ _ _ _ h => h) rfl hC ?_
    go_simp
    refine takeList (i := 8) rfl (by kernel_rfl) (by kernel_rfl) (by kernel_rfl) (fun _ _ _ _ h => h) rfl rfl hC (fun K hK => ?_)
    go_big_quiet_op
    refine hK _ ?_
    clear hK K
    refine takeList (i := 9) rfl (by kernel_rfl) (by kernel_rfl) (by kernel_rfl) (fun _ _ _ _ h => h) rfl rfl hC (fun K hK => ?_)
    go_big_quiet_op
    refine hK _ ?_
    clear hK K
    refine takeVal (i := 10) (.int .i64 (ln : Int)) rfl (by kernel_rfl) (by kernel_rfl) (by kernel_rfl) (fun _ _ _ _ h => h) rfl hC (fun w' _ => by go_simp) ?_
    go_simp
    refine takeList (i := 11) rfl (by kernel_rfl) (by kernel_rfl) (by kernel_rfl) (fun _ _ _ _ h => h) rfl rfl hC (fun K hK => ?_)
    go_big_quiet_op
    refine hK _ ?_
    clear hK K
    refine takeList (i := 12) rfl (by kernel_rfl) (by kernel_rfl) (by kernel_rfl) (fun _ _ _ _ h => h) rfl rfl hC (fun K hK => ?_)
    go_big_quiet_op
    refine hK _ ?_
    clear hK K
    have HEN : Hid (Calls Tryz.prog 56 #[.pointer (some ⟨gl, 0, none⟩), .int .i64 ((ln : Int) + 1), .slice p m cap] W0 fun e w' => (∃ v, e = .returned v ∧ Own w' W0.heap.size v (C.ents c.age (ln + 1) (ps.map Part.l))) ∧ Below W0.heap.size W0 w') := by
      have h1 := entries_any W0 gl c (ln + 1) p ps cap (HT.out W0 (Turn.of_below HB1d.out)) HL1d.out (HO.out W0 (Turn.of_below HB1d.out)).1 (HO.out W0 (Turn.of_below HB1d.out)).2 (by rw [HH.out.age]; exact HH.out.log.age) (by have := HN.out; omega) (fun x hx => Nat.le_trans (HR.out x hx) (by omega)) (by have := HN.out; omega)
      rw [← HM.out] at h1
      exact h1
    refine callList (i := 13) rfl (by kernel_rfl) rfl (fun K hK => ?_)
    go_simp
    refine Calls.mono (HEN.out) ?_
    rintro e w2 ⟨⟨v2, rfl, ho2⟩, hb2⟩
    have HB2 : Hid (Below w.heap.size w w2) := bt HB1d.out hb2
    have HL2 : Hid (LgAt w2 gl c) := HL1d.out.below hb2
    obtain ⟨p2, c2, rfl, hpk⟩ := Own.part ho2
    have HPK : Hid (Part.ok w2 ⟨p2, C.ents c.age (ln + 1) (ps.map Part.l), c2⟩) := hpk
    clear hpk ho2 hb2 HEN
    refine hK.out _ _ ⟨⟨_, HL2.out⟩, rfl⟩ ?_
    try go_simp
    clear hK K hC
    have hC : ∃ t : HW (fun v => LgAt v gl c), w2 = t.v := ⟨⟨_, HL2.out⟩, rfl⟩
    have HAP : Hid _ := append_ok w2 c.d Sd s f p2 (C.ents c.age (ln + 1) (ps.map Part.l)) c2 (HD.out.below HB2.out) HPK.out (free_ref HH.out.off HF.out.2 (by have := HH.out.bud.files; have := HN.out; omega)) (by have h1 := HH.out.bud.used; have h2 := ps_ents (a := c.age) (n := ln + 1) HR.out; have h3 := HRM.out; omega) (by have := HH.out.bud.made; have := HMM.out; omega)
    refine callList (i := 14) rfl (by kernel_rfl) rfl (fun K hK => ?_)
    go_simp
    refine Calls.mono (HAP.out) ?_
    rintro e w3 ⟨rfl, hd3, ht3⟩
    have HD3 : Hid (Disk w3 c.d (Ext w2 w3 Sd) (C.appS s f (C.ents c.age (ln + 1) (ps.map Part.l)))) := hd3
    have HT3 : Hid (Turn w2 w3 Sd) := ht3
    have HL3 : Hid (LgAt w3 gl c) := (ht3.block gl (Array.getElem?_eq_some_iff.1 HL2.out).1 (fun hx => HNE.out gl HL.out.mem hx)).trans HL2.out
    clear hd3 ht3 HAP
    refine hK.out _ _ ⟨⟨_, HL3.out⟩, rfl⟩ ?_
    try go_simp
    clear hK K hC
    have hC : ∃ t : HW (fun v => LgAt v gl c), w3 = t.v := ⟨⟨_, HL3.out⟩, rfl⟩
    refine takeList (i := 15) rfl (by kernel_rfl) (by kernel_rfl) (by kernel_rfl) (fun _ _ _ _ h => h) rfl rfl hC (fun K hK => ?_)
    go_big_quiet_op
    refine hK _ ?_
    clear hK K
    refine wpAnyH_done (by kernel_rfl) ?_ _
    clear d0 d6 hne hC
    have c0 : w3.cell? ⟨gl, 0, none⟩ = some (.pointer (some ⟨c.d, 0, none⟩)) := (HL3.out.cell 0).trans rfl
    have HDR : Hid _ := drop_ok w3 c.d (Ext w2 w3 Sd) (C.appS s f (C.ents c.age (ln + 1) (ps.map Part.l))) f HD3.out (free_ref (s := s) HH.out.off HF.out.2 (by have := HH.out.bud.files; have := HN.out; omega)) (by simp [C.appS])
    go_wp2_with fail
    refine Calls.mono HDR.out ?_
    rintro e w4 ⟨rfl, hd4, ht4⟩
    have HD4 : Hid (Disk w4 c.d (Ext w2 w3 Sd) (C.dropS (C.appS s f (C.ents c.age (ln + 1) (ps.map Part.l))) f)) := hd4
    have HT4 : Hid (Turn w w4 Sd) := ((Turn.of_below HB2.out).trans HT3.out fun x hx => Or.inl hx).trans ht4 fun x hx => hx.imp id fun h1 => Nat.le_trans HB2.out.size h1.1
    have HS4 : Hid (w3.heap.size ≤ w4.heap.size) := ht4.size
    clear hd4 ht4 HDR c0
    go_wp2
    go_ret
    obtain ⟨k0, -⟩ := C.not_file HH.out.log HH.out.ok HF.out.1
    obtain ⟨k1, k2, k3, k4, k5, k6⟩ := C.drop_new HH.out.ok k0 (C.ents c.age (ln + 1) (ps.map Part.l))
    refine ⟨rfl, ⟨_, ⟨⟨Sl, _, dl, HL.out.turn HT4.out HNE.out, HD4.out, fun b hb => Or.inl (HSL.out b hb), fun b hb => ?_, fun b hb hb2 => ?_, HUN.out, fun x hx => by rw [k2]; exact HDL.out x hx, Nat.le_succ_of_le HDM.out⟩, ext_lt HH.out.lt HT4.out, HH.out.log.congr k1 k2, HH.out.hold, HH.out.base0, HH.out.tail, HH.out.tc, k4.trans HH.out.off, HH.out.lives.trans k5.symm, HH.out.full, HH.out.age, HH.out.part, ⟨?_, ?_, ?_⟩⟩, k5, k6, by rw [k1]⟩, HT4.out.mono HSD.out⟩
    · rcases hb with hb | hb
      · exact Or.inl (HSD.out b hb)
      · exact Or.inr ⟨Nat.le_trans HB2.out.size hb.1, Nat.lt_of_lt_of_le hb.2 HS4.out⟩
    · rcases hb2 with h2 | h2
      · exact HNE.out b hb h2
      · have h3 := HL.out.lt b hb
        have h4 := HB2.out.size
        omega
    · exact Nat.le_trans (C.fs_sub fun k hk => by rw [← k2]; exact hk) HH.out.bud.files
    · rw [k3]; exact Nat.succ_le_succ HH.out.bud.made
    · rw [k1]; exact HH.out.bud.used
end Go.Proofs.YtnhplbdbgiimkaaGreatDoor

namespace Go.Proofs.YtnhplbdbgiimkaaGreatDoor
open Go.RowKit Go.Lib
set_option linter.unusedVariables false

/-- A log whose tail takes more: LogM behind place. -/
structure PlM (w : World) (gl : Nat) (c : LgC) (S : Nat → Prop) (s : C.St) (a : Nat) (G : List C.Gr) (base : List UInt8) (recs drecs : List (List UInt8)) (n M : Nat) : Prop where
  sets : ∃ Sl Sd dl, LMem w gl c Sl base recs dl ∧ Disk w c.d Sd s ∧ (∀ b, Sl b → S b) ∧ (∀ b, Sd b → S b) ∧ (∀ b, Sl b → ¬ Sd b) ∧ (∀ x ∈ C.flat G, x.safe = false → x.file ∈ dl) ∧ (∀ f ∈ dl, s.is f = true) ∧ dl.length ≤ M
  lt : ∀ b, S b → b < w.heap.size
  log : C.LogW s a G
  hold : C.recsL (C.flat G) = C.whole a base drecs
  base0 : a = 0 → base = []
  tt : c.tt = false
  tf : c.tf < 1000
  file : (¬ c.tf ∈ C.fs s) ∨ ∃ G' g, G = G' ++ [g] ∧ c.tf = g.file ∧ ∀ x ∈ g.cs, x.tl = []
  tc : c.tc ≤ drecs.length
  off : s.off = false
  lives : c.lives = s.lives
  full : c.full = false
  age : c.age = a
  part : 1 ≤ c.part ∧ c.part ≤ 1000
  bud : C.Bud s n M
theorem logm_place (w : World) (gl : Nat) (c : LgC) (S : Nat → Prop) (s : C.St) (a : Nat) (G : List C.Gr) (base : List UInt8) (recs drecs : List (List UInt8)) (n M : Nat) (h : LogM w gl c S s a G base recs drecs n M) (hn : n ≤ 998) (hM : M ≤ 1000000) (htc : drecs.length ≤ 1000000) :
    Calls Tryz.prog 57 #[.pointer (some ⟨gl, 0, none⟩)] w fun e w' => (∃ (lim : Nat) (c1 : LgC), e = .returned (.int .i64 (lim : Nat)) ∧ 1 ≤ lim ∧ lim ≤ 1000 ∧ PlM w' gl c1 S s a G base recs drecs n M ∧ c1.d = c.d ∧ c1.part = c.part ∧ c1.recs = c.recs) ∧ Turn w w' S := by
  obtain ⟨Sl, Sd, dl, hL, hD, hSl, hSd, hne, hun, hdl, hdm⟩ := h.sets
  have hfew := h.bud.files
  refine (place_any w gl c Sd s hL.at_ hD (Nat.le_trans h.bud.made hM) h.off (by omega) h.part.2 (Nat.le_trans h.tc htc)).mono ?_
  rintro e w' (⟨h1, h2, rfl, h4, h5⟩ | ⟨h1, f, h2, h3, rfl, h5, h6⟩)
  · have hlt : ((c.part - c.tc : Nat) : Int) = (c.part : Int) - (c.tc : Int) := by omega
    have hp := h.part
    refine ⟨⟨c.part - c.tc, c, by rw [hlt], by omega, by omega, ?_, rfl, rfl, rfl⟩, Turn.of_below h5⟩
    exact ⟨⟨Sl, Sd, dl, hL.below h5, hD.below h5, hSl, hSd, hne, hun, hdl, hdm⟩, fun b hb => Nat.lt_of_lt_of_le (h.lt b hb) h5.size, h.log, h.hold, h.base0, h1, C.tail_lt h.log h.ok h.tail, C.tail_file h.log h.tail h1, h.tc, h.off, h.lives, h.full, h.age, h.part, h.bud⟩
  · have hlm : LMem w' gl (c.tail f) Sl base recs dl := hL.touch h6 (fun b hb hT => Or.inl hT) h5 rfl rfl (row_same hL.dirty fun b hb => h6.block b (row_lt hL.dirty hb) fun e => hL.ne_dirty (by rw [← e]; exact hb)) hL.dirtyS (fun b hb => hb) fun b hb => Nat.lt_of_lt_of_le (hL.lt b hb) h6.size
    refine ⟨⟨c.part, c.tail f, rfl, h.part.1, h.part.2, ?_, rfl, rfl, rfl⟩, h6.mono fun b hb => by rw [hb]; exact hSl gl hL.mem⟩
    refine ⟨⟨Sl, Sd, dl, hlm, hD.turn h6 fun b hb e => hne gl hL.mem (by rw [← e]; exact hb), hSl, hSd, hne, hun, hdl, hdm⟩, fun b hb => Nat.lt_of_lt_of_le (h.lt b hb) h6.size, h.log, h.hold, h.base0, rfl, ?_, Or.inl h2, Nat.zero_le _, h.off, h.lives, h.full, h.age, h.part, h.bud⟩
    show f < 1000
    omega
/-- Behind Append, the count and soil. -/
theorem PlM.wrote {w w2 w3 w4 : World} {gl : Nat} {c1 : LgC} {S Sl Sd : Nat → Prop} {s : C.St} {a : Nat} {G : List C.Gr} {base : List UInt8} {recs drecs rs : List (List UInt8)} {n M : Nat} {dl l' : List Nat} {v' : Value}
    (hP : PlM w gl c1 S s a G base recs drecs n M) (hL : LMem w gl c1 Sl base recs dl) (hD : Disk w c1.d Sd s) (hSl : ∀ b, Sl b → S b) (hSd : ∀ b, Sd b → S b) (hne : ∀ b, Sl b → ¬ Sd b) (hun : ∀ x ∈ C.flat G, x.safe = false → x.file ∈ dl) (hdl : ∀ f ∈ dl, s.is f = true) (hdm : dl.length ≤ M)
    (hb2 : Below w.heap.size w w2) (hd3 : Disk w3 c1.d (Ext w2 w3 Sd) (C.appS s c1.tf (C.ents a (drecs.length + 1) rs))) (ht3 : Turn w2 w3 Sd)
    (hl4 : LgAt w4 gl (({ c1 with tc := c1.tc + rs.length } : LgC).soil v')) (ho4 : OwnI w4 v' l') (hl' : l' = dl ∨ l' = dl ++ [c1.tf]) (hfm : c1.tf ∈ l') (hv' : ∀ b, v'.ownBlock = some b → c1.dirty.ownBlock = some b ∨ w3.heap.size ≤ b) (ht4 : Turn w3 w4 (fun x => x = gl ∨ c1.dirty.ownBlock = some x))
    (hrs : rs ≠ []) (hr : ∀ r ∈ rs, r.length ≤ 570) (hbig : drecs.length + 1 + rs.length ≤ 4294967296) :
    (∃ G2, LogM w4 gl (({ c1 with tc := c1.tc + rs.length } : LgC).soil v') (Ext w w4 S) (C.appS s c1.tf (C.ents a (drecs.length + 1) rs)) a G2 base recs (drecs ++ rs) (n + rs.length) (M + 1) ∧ C.Kept G2 G) ∧ Turn w w4 S := by
  have hT3 : Turn w w3 Sd := (Turn.of_below hb2).trans ht3 fun x hx => Or.inl hx
  have hL3 : LMem w3 gl c1 Sl base recs dl := hL.turn hT3 hne
  have hz2 := hb2.size
  have hz3 := ht3.size
  have hz4 := ht4.size
  have hS4 : ∀ b, Ext w3 w4 Sl b → b < w4.heap.size := fun b hb => by
    rcases hb with hb | hb
    · exact Nat.lt_of_lt_of_le (hL3.lt b hb) hz4
    · exact hb.2
  have hL4 : LMem w4 gl (({ c1 with tc := c1.tc + rs.length } : LgC).soil v') (Ext w3 w4 Sl) base recs l' := hL3.touch ht4 (fun b hb hT => hT) hl4 rfl rfl ho4 (fun b hb => by
    rcases hv' b hb with e | e
    · exact Or.inl (hL.dirtyS b e)
    · exact Or.inr ⟨e, row_lt ho4 hb⟩) (fun b hb => Or.inl hb) hS4
  have hsep : ∀ b, Ext w2 w3 Sd b → ¬ (b = gl ∨ c1.dirty.ownBlock = some b) := fun b hb e => by
    have hslb : Sl b := by
      rcases e with e | e
      · rw [e]; exact hL.mem
      · exact hL.dirtyS b e
    rcases hb with hb | hb
    · exact hne b hslb hb
    · have := hL.lt b hslb
      omega
  obtain ⟨G2, g1, g2, g3, g4, g5⟩ := hP.log.put hD.ok hP.hold hP.file hrs (fun r hm => Nat.le_trans (hr r hm) (by omega)) hbig
  have hTall : Turn w w4 S := (hT3.mono hSd).trans ht4 fun x hx => Or.inl (by
    rcases hx with e | e
    · rw [e]; exact hSl gl hL.mem
    · exact hSl x (hL.dirtyS x e))
  have hrl : 0 < rs.length := List.length_pos_iff.2 hrs
  refine ⟨⟨G2, ⟨⟨Ext w3 w4 Sl, Ext w2 w3 Sd, l', hL4, hd3.turn ht4 hsep, fun b hb => ?_, fun b hb => ?_, fun b hb hb2' => ?_, fun x hx hs => ?_, fun f hf => ?_, ?_⟩, ext_lt hP.lt hTall, g1, g2, hP.base0, ?_, ?_, hP.off, hP.lives, hP.full, hP.age, hP.part, hP.bud.app (C.ents_six a _ rs hr) hrl⟩, g5⟩, hTall⟩
  · rcases hb with hb | hb
    · exact Or.inl (hSl b hb)
    · exact Or.inr ⟨by omega, hb.2⟩
  · rcases hb with hb | hb
    · exact Or.inl (hSd b hb)
    · exact Or.inr ⟨by omega, by omega⟩
  · rcases hb with h1 | h1
    · rcases hb2' with h2 | h2
      · exact hne b h1 h2
      · have := hL.lt b h1
        omega
    · rcases hb2' with h2 | h2
      · have := hD.lt h2
        omega
      · omega
  · rcases g4 x hx hs with ⟨h1, h2⟩ | h1
    · have h3 := hun x h1 h2
      rcases hl' with e | e
      · rw [e]; exact h3
      · rw [e]; exact List.mem_append_left _ h3
    · rw [h1]; exact hfm
  · show (s.is f || f == c1.tf) = true
    rcases hl' with e | e
    · rw [e] at hf
      rw [hdl f hf]; rfl
    · rw [e] at hf
      rcases List.mem_append.1 hf with hf | hf
      · rw [hdl f hf]; rfl
      · obtain rfl := List.mem_singleton.1 hf
        simp
  · rcases hl' with e | e
    · rw [e]; exact Nat.le_succ_of_le hdm
    · rw [e, List.length_append]; simp; exact hdm
  · obtain ⟨G', g, e1, e2, e3⟩ := g3
    exact Or.inr ⟨G', g, e1, e2, fun _ => e3⟩
  · show c1.tc + rs.length ≤ (drecs ++ rs).length
    rw [List.length_append]
    have := hP.tc
    omega
end Go.Proofs.YtnhplbdbgiimkaaGreatDoor
