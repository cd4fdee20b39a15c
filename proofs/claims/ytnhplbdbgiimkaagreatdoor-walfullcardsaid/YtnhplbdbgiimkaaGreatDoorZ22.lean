/-
  Several texts in one: WSoil, WSyncL, WLogM.
-/
import Derived.Test.YtnhplbdbgiimkaaGreatDoorZ21
namespace Go.Proofs.YtnhplbdbgiimkaaGreatDoor
open Go.RowKit Go.Lib
set_option linter.unusedVariables false

def intsV (l : List Nat) : List Value := l.map fun k => .int .i64 (k : Nat)
/-- A row of file numbers of the log's own. -/
def OwnI (w : World) (v : Value) (l : List Nat) : Prop := w.ownsRow 0 3 1 v l.length (intsV l)
theorem info_ints : (Tryz.prog.info? 3).map (fun i => (i.zero, i.size, i.bytes)) = some (some (.int .i64 0), 1, 8) := by kernel_rfl
theorem intsV_one (l : List Nat) : ∀ u ∈ intsV l, u.oneCell' = true := fun u hu => by
  obtain ⟨k, _, rfl⟩ := List.mem_map.1 hu
  rfl
theorem OwnI.shape {w : World} {v : Value} {l : List Nat} (h : OwnI w v l) : ∃ p c, v = .slice p l.length c ∧ (0 < l.length → ∃ b, p = some ⟨b, 0, none⟩ ∧ ∀ i k, l[i]? = some k → w.cell? ⟨b, i, none⟩ = some (.int .i64 (k : Nat))) := by
  rcases h.2 with ⟨rfl, h0⟩ | ⟨b, cap, cur, rfl, _⟩
  · exact ⟨none, 0, by rw [h0], fun hl => by omega⟩
  · refine ⟨some ⟨b, 0, none⟩, cap, rfl, fun _ => ⟨b, rfl, fun i k hk => ?_⟩⟩
    have h1 := World.ownsRow.cells h rfl i (.int .i64 (k : Nat)) (by rw [intsV, List.getElem?_map, hk]; rfl)
    rw [WideShapes.add_plain] at h1
    simpa using h1
def LgC.soil (c : LgC) (v : Value) : LgC := { c with dirty := v }
theorem LgAt.setDirty {w : World} {g : Nat} {c : LgC} (h : LgAt w g c) (v : Value) : LgAt (w.setCell ⟨g, 11, none⟩ v) g (c.soil v) := by
  have h1 := set_block (o := 11) (v := v) h
  unfold LgAt
  rw [h1]
  obtain ⟨d, lives, full, part, age, base, recs, tf, tc, te, tt, dirty⟩ := c
  simp [LgC.cells, LgC.soil]
theorem soil_row {w4 : World} {v4 : Value} {l : List Nat} {f : Nat} (hr4 : w4.ownsRow 0 3 1 v4 (l.length + 1) (intsV l ++ intsV [f])) : Hid (OwnI w4 v4 (l ++ [f])) ∧ ∃ p c, v4 = .slice p (l.length + 1) c := by
  have h1 : OwnI w4 v4 (l ++ [f]) := by
    unfold OwnI
    rw [List.length_append]
    have e : intsV (l ++ [f]) = intsV l ++ intsV [f] := by simp [intsV]
    rw [e]
    exact hr4
  obtain ⟨p, c, hv, _⟩ := h1.shape
  rw [List.length_append] at hv
  exact ⟨h1, p, c, hv⟩
set_option maxRecDepth 100000 in
set_option maxHeartbeats 4000000 in
theorem soil_any (w : World) (g : Nat) (c : LgC) (l : List Nat) (f : Nat) (h : LgAt w g c) (hd : OwnI w c.dirty l) (hg : c.dirty.ownBlock ≠ some g) (hl : l.length ≤ 100000) :
    Calls Tryz.prog 58 #[.pointer (some ⟨g, 0, none⟩), .int .i64 (f : Nat)] w fun e w' => e = .returned (.tuple #[]) ∧ ∃ v' l', LgAt w' g (c.soil v') ∧ OwnI w' v' l' ∧ (l' = l ∨ l' = l ++ [f]) ∧ f ∈ l' ∧ v'.ownBlock ≠ some g ∧ (∀ b, v'.ownBlock = some b → c.dirty.ownBlock = some b ∨ w.heap.size ≤ b) ∧ Turn w w' (fun x => x = g ∨ c.dirty.ownBlock = some x) := by
  obtain ⟨p, k, hv, hsh⟩ := hd.shape
  obtain ⟨n, hn⟩ : ∃ n, n = l.length := ⟨_, rfl⟩
  have HN : Hid (n = l.length) := hn
  rw [← hn] at hv hl
  have HL : Hid (LgAt w g c) := h
  have HD : Hid (OwnI w c.dirty l) := hd
  have HG : Hid (c.dirty.ownBlock ≠ some g) := hg
  have HV : Hid (c.dirty = .slice p n k) := hv
  have HSH : Hid (0 < n → ∃ b, p = some ⟨b, 0, none⟩ ∧ ∀ i k, l[i]? = some k → w.cell? ⟨b, i, none⟩ = some (.int .i64 (k : Nat))) := by show _ → _; rw [hn]; exact hsh
  have hgl : g < w.heap.size := (Array.getElem?_eq_some_iff.1 h).1
  have HGL : Hid (g < w.heap.size) := hgl
  have c11 : w.cell? ⟨g, 11, none⟩ = some (.slice p n k) := by rw [← hv]; exact (h.cell 11).trans rfl
  have a11 : ∀ ob, (w.alloc ob).cell? ⟨g, 11, none⟩ = some (.slice p n k) := fun ob => ((below_new w ob).cell (p := ⟨g, 11, none⟩) hgl).trans c11
  by_cases hsame : ∃ z, l[n - 1]? = some z ∧ 0 < n ∧ z = f
  · obtain ⟨z, hz, hn0, rfl⟩ := hsame
    obtain ⟨b, hp, hc⟩ := HSH.out hn0
    subst hp
    have z0 : w.cell? ⟨b, n - 1, none⟩ = some (.int .i64 (z : Nat)) := hc _ _ hz
    have HZ : Hid (l[n - 1]? = some z) := hz
    obtain ⟨j, rfl⟩ : ∃ j, n = j + 1 := ⟨n - 1, by omega⟩
    have hj1 : ((j + 1 : Nat) : Int) - 1 = (j : Int) := by omega
    have hj2 : (j : Int) < ((j + 1 : Nat) : Int) := by omega
    have hj3 : ¬ ((j + 1 : Nat) : Int) = 0 := by omega
    have hj4 : (((j + 1 : Nat) : Int) == 0) = false := by simpa using hj3
    simp only [Nat.add_sub_cancel] at z0 HZ
    clear h hd hg hv hsh hn hc hz
    go_enter Tryz.func58, Tryz.ntmps58
    go_wp2_with fail
    refine bodyPost_end (results_none rfl _ _ _) rfl ⟨rfl, c.dirty, l, HL.out, HD.out, Or.inl rfl, List.mem_of_getElem? HZ.out, HG.out, fun b hb => Or.inl hb, Turn.refl _ _⟩
  · have hcase : n = 0 ∨ ∃ z j, n = j + 1 ∧ l[j]? = some z ∧ z ≠ f := by
      rcases Nat.eq_zero_or_pos n with h0 | h0
      · exact Or.inl h0
      · obtain ⟨z, hz⟩ : ∃ z, l[n - 1]? = some z := ⟨_, List.getElem?_eq_getElem (by omega)⟩
        exact Or.inr ⟨z, n - 1, by omega, hz, fun e => hsame ⟨z, hz, h0, e⟩⟩
    have HOA : Hid ((w.alloc (.cells #[.int .i64 (f : Nat)] 3)).ownsRow 0 3 1 (.slice p n k) l.length (intsV l)) := by
      have h1 : OwnI (w.alloc (.cells #[.int .i64 (f : Nat)] 3)) c.dirty l := row_same hd fun b hb => (below_new w _).block b (row_lt hd hb)
      rw [hv] at h1
      exact h1
    have HSA : Hid (SrcAt (w.alloc (.cells #[.int .i64 (f : Nat)] 3)) 1 (.slice (some ⟨w.heap.size, 0, none⟩) 1 1) 1 (intsV [f])) := by
      refine ⟨some ⟨w.heap.size, 0, none⟩, 1, rfl, rfl, (fun e => by cases e), fun a ha j u hj => ?_⟩
      cases ha
      have hj0 : j = 0 := by have := (List.getElem?_eq_some_iff.1 hj).1; simp [intsV] at this; omega
      subst hj0
      have hu : u = .int .i64 (f : Nat) := by simp [intsV] at hj; exact hj.symm
      subst hu
      rw [WideShapes.add_plain]
      exact (blk_cell (heap_alloc_new w (.cells #[.int .i64 (f : Nat)] 3)) 0).trans rfl
    have HGB : Hid (∀ w4, (w.alloc (.cells #[.int .i64 (f : Nat)] 3)).grownBy w4 (Value.slice p n k).ownBlock → LgAt w4 g c ∧ Turn w w4 (fun x => x = g ∨ c.dirty.ownBlock = some x)) := fun w4 hg4 => by
      refine ⟨?_, ?_⟩
      · have h1 : LgAt (w.alloc (.cells #[.int .i64 (f : Nat)] 3)) g c := HL.out.below (below_new _ _)
        show w4.heap[g]? = _
        rw [hg4.block g (Array.getElem?_eq_some_iff.1 h1).1 fun e => HG.out (by rw [HV.out]; exact e.symm)]
        exact h1
      · exact (Turn.of_below (below_new w _)).trans (Turn.of_grown (S := fun x => c.dirty.ownBlock = some x) hg4 fun b hb => by rw [HV.out]; exact hb) fun x hx => Or.inl (Or.inr hx)
    have HN1 : Hid (l.length + 1 ≤ maxLen) := by show _ ≤ _; unfold maxLen; omega
    have HN2 : Hid ((l.length + 1) * 8 ≤ 140737488355328) := by show _ ≤ _; omega
    clear h hd hg hv hsh hsame
    rcases hcase with h0 | ⟨z, j, hnj, hz, hzf⟩
    · subst h0
      clear hn
      go_enter Tryz.func58, Tryz.ntmps58
      go_wp2_with (at_builtin; go_must ((refine wpList_append_src Tryz.underlying44 info_ints rfl (by decide) rfl _ _ rfl rfl HOA.out rfl HSA.out (intsV_one _) HN1.out HN2.out ?_; intro v4 w4 hr4 hg4 hb4; obtain ⟨HL4, HT4⟩ := HGB.out w4 hg4; have c4 := HL4.cell 11; have f4 := HL4.fz 11; simp only [LgC.cells, List.getElem?_cons_succ, List.getElem?_cons_zero] at c4; obtain ⟨HO4, p4, k4, hv4⟩ := soil_row hr4; have HB4 : Hid (v4.ownBlock = _ ∨ v4.ownBlock = _) := hb4; have HLL : Hid (LgAt w4 g c) := HL4; have HTT : Hid (Turn w w4 (fun x => x = g ∨ c.dirty.ownBlock = some x)) := HT4; subst hv4; clear hr4 hg4 hb4 HL4 HT4)))
      have hneg : ∀ b, (Value.slice p4 (l.length + 1) k4).ownBlock = some b → (c.dirty.ownBlock = some b ∨ w.heap.size ≤ b) ∧ b ≠ g := fun b hb => by
        rcases HB4.out with h1 | h1
        · have h2 : c.dirty.ownBlock = some b := by rw [HV.out]; exact h1.symm.trans hb
          exact ⟨Or.inl h2, fun e => HG.out (by rw [h2, e])⟩
        · have h2 := h1.symm.trans hb
          have h3 : b = (w.alloc (.cells #[.int .i64 (f : Nat)] 3)).heap.size := (Option.some.inj h2).symm
          have h4 : w.heap.size ≤ b := by rw [h3]; simp
          exact ⟨Or.inr h4, fun e => by have := HGL.out; omega⟩
      refine bodyPost_end (results_none rfl _ _ _) rfl ⟨rfl, .slice p4 (l.length + 1) k4, l ++ [f], HLL.out.setDirty _, row_same HO4.out (fun b hb => set_other (hneg b hb).2), Or.inr rfl, by simp, fun e => (hneg g e).2 rfl, fun b hb => (hneg b hb).1, ?_⟩
      exact Turn.setCell (S := fun x => x = g ∨ c.dirty.ownBlock = some x) HTT.out (Or.inl rfl) _
    · subst hnj
      obtain ⟨b, hp, hc⟩ := HSH.out (by omega)
      subst hp
      have z0 : w.cell? ⟨b, j, none⟩ = some (.int .i64 (z : Nat)) := hc _ _ hz
      have hj1 : ((j + 1 : Nat) : Int) - 1 = (j : Int) := by omega
      have hj2 : (j : Int) < ((j + 1 : Nat) : Int) := by omega
      have hj3 : ¬ ((j + 1 : Nat) : Int) = 0 := by omega
      have hj4 : (((j + 1 : Nat) : Int) == 0) = false := by simpa using hj3
      have hzz : ((z : Int) != (f : Int)) = true := by rw [bne_iff_ne]; omega
      clear hc hz hn hzf
      go_enter Tryz.func58, Tryz.ntmps58
      go_wp2_with (at_builtin; go_must ((refine wpList_append_src Tryz.underlying44 info_ints rfl (by decide) rfl _ _ rfl rfl HOA.out rfl HSA.out (intsV_one _) HN1.out HN2.out ?_; intro v4 w4 hr4 hg4 hb4; obtain ⟨HL4, HT4⟩ := HGB.out w4 hg4; have c4 := HL4.cell 11; have f4 := HL4.fz 11; simp only [LgC.cells, List.getElem?_cons_succ, List.getElem?_cons_zero] at c4; obtain ⟨HO4, p4, k4, hv4⟩ := soil_row hr4; have HB4 : Hid (v4.ownBlock = _ ∨ v4.ownBlock = _) := hb4; have HLL : Hid (LgAt w4 g c) := HL4; have HTT : Hid (Turn w w4 (fun x => x = g ∨ c.dirty.ownBlock = some x)) := HT4; subst hv4; clear hr4 hg4 hb4 HL4 HT4)))
      have hneg : ∀ b, (Value.slice p4 (l.length + 1) k4).ownBlock = some b → (c.dirty.ownBlock = some b ∨ w.heap.size ≤ b) ∧ b ≠ g := fun b hb => by
        rcases HB4.out with h1 | h1
        · have h2 : c.dirty.ownBlock = some b := by rw [HV.out]; exact h1.symm.trans hb
          exact ⟨Or.inl h2, fun e => HG.out (by rw [h2, e])⟩
        · have h2 := h1.symm.trans hb
          have h3 : b = (w.alloc (.cells #[.int .i64 (f : Nat)] 3)).heap.size := (Option.some.inj h2).symm
          have h4 : w.heap.size ≤ b := by rw [h3]; simp
          exact ⟨Or.inr h4, fun e => by have := HGL.out; omega⟩
      refine bodyPost_end (results_none rfl _ _ _) rfl ⟨rfl, .slice p4 (l.length + 1) k4, l ++ [f], HLL.out.setDirty _, row_same HO4.out (fun b hb => set_other (hneg b hb).2), Or.inr rfl, by simp, fun e => (hneg g e).2 rfl, fun b hb => (hneg b hb).1, ?_⟩
      exact Turn.setCell (S := fun x => x = g ∨ c.dirty.ownBlock = some x) HTT.out (Or.inl rfl) _
end Go.Proofs.YtnhplbdbgiimkaaGreatDoor

namespace Go.Proofs.YtnhplbdbgiimkaaGreatDoor
open Go.RowKit Go.Lib
set_option linter.unusedVariables false

namespace C
def syncs (l : List Nat) (s : St) : St := l.foldl syncS s
theorem syncs_snoc (l : List Nat) (f : Nat) (s : St) : syncs (l ++ [f]) s = syncS (syncs l s) f := by simp [syncs]
theorem syncs_is : ∀ (l : List Nat) (s : St), (syncs l s).is = s.is ∧ (syncs l s).off = s.off ∧ (syncs l s).lives = s.lives ∧ (syncs l s).made = s.made ∧ (syncs l s).room = s.room
  | [], s => ⟨rfl, rfl, rfl, rfl, rfl⟩
  | f :: l, s => syncs_is l (syncS s f)
/-- All of these files safe. -/
theorem syncs_ws : ∀ (l : List Nat) (s : St), (syncs l s).ws.map wkey = s.ws.map fun x => (x.file, x.bytes, x.safe || decide (x.file ∈ l))
  | [], s => by simp [syncs, wkey]
  | f :: l, s => by
    show (syncs l (syncS s f)).ws.map wkey = _
    rw [syncs_ws l (syncS s f)]
    show ((s.ws.map (synW f)).map _) = _
    rw [List.map_map]
    refine List.map_congr_left fun x _ => ?_
    simp only [Function.comp, synW_file, synW_bytes]
    by_cases hx : x.file = f
    · rw [synW_same hx]; simp [hx]
    · rw [synW_other hx]; simp [hx]
end C
set_option maxRecDepth 100000 in
set_option maxHeartbeats 4000000 in
theorem lsync_any (w : World) (g : Nat) (c : LgC) (S : Nat → Prop) (s : C.St) (l : List Nat) (h : LgAt w g c) (hd : Disk w c.d S s) (hdone : doneB c s = false) (ho : OwnI w c.dirty l) (hg : ¬ S g) (hdi : ∀ b, c.dirty.ownBlock = some b → ¬ S b) (hl : l.length ≤ 100000) (hf : ∀ f ∈ l, s.is f = true) :
    Calls Tryz.prog 15 #[.pointer (some ⟨g, 0, none⟩)] w fun e w' => e = .returned (.int .i64 0) ∧ Disk w' c.d S (C.syncs l s) ∧ LgAt w' g (c.soil (.slice none 0 0)) ∧ Turn w w' (fun x => x = g ∨ S x) := by
  have HDN : Hid _ := done_any w g c S s h hd
  rw [hdone] at HDN
  have hoff : s.off = false := by unfold doneB at hdone; simp at hdone; exact hdone.2.1
  obtain ⟨p, k, hv, hsh⟩ := ho.shape
  obtain ⟨n, hn⟩ : ∃ n, n = l.length := ⟨_, rfl⟩
  have HN : Hid (n = l.length) := hn
  rw [← hn] at hv hl
  have HSH : Hid (0 < n → ∃ b, p = some ⟨b, 0, none⟩ ∧ (¬ S b) ∧ ∀ i k, l[i]? = some k → w.cell? ⟨b, i, none⟩ = some (.int .i64 (k : Nat))) := fun h0 => by
    obtain ⟨b, hp, hc⟩ := hsh (by omega)
    exact ⟨b, hp, hdi b (by rw [hv, hp]; rfl), hc⟩
  have HC0 : Hid (∀ w', Turn w w' S → LgAt w' g c) := fun w' ht => (ht.block g (Array.getElem?_eq_some_iff.1 h).1 hg).trans h
  have HV : Hid (c.dirty = .slice p n k) := hv
  have HGS : Hid (∀ b, S b → b ≠ g) := fun b hb e => hg (by rw [← e]; exact hb)
  have HD : Hid (Disk w c.d S s) := hd
  have HOFF : Hid (s.off = false) := hoff
  have HIS : Hid (∀ f ∈ l, s.is f = true ∧ f < 1000) := fun f hfl => ⟨hf f hfl, hd.ok.files f (hf f hfl)⟩
  clear h hd hdone ho hg hdi hf hoff hv hsh hn
  go_enter Tryz.func15, Tryz.ntmps15
  go_wp2_with fail
  refine Calls.mono HDN.out ?_
  rintro e w1 ⟨rfl, hb1⟩
  have HB1 : Hid (Below w.heap.size w w1) := hb1
  have HT1 : Hid (Turn w w1 S) := Turn.of_below hb1
  have c11 : w1.cell? ⟨g, 11, none⟩ = some (.slice p n k) := by rw [← HV.out]; exact ((HC0.out w1 HT1.out).cell 11).trans rfl
  clear hb1 HDN
  go_wp2_with fail
  clear c11
  go_loopw [12] (fun s12 wr => ∃ (j : Nat), s12 = .int .i64 j ∧ j ≤ n ∧ Hid (Disk wr c.d S (C.syncs (l.take j) s)) ∧ Hid (Turn w wr S)) (fun s12 _ => n - (intOf s12).toNat)
  case atStart => exact ⟨0, rfl, Nat.zero_le _, HD.out.below HB1.out, HT1.out⟩
  case round =>
    obtain ⟨j, rfl, hj, HDK, HTU⟩ := hrel
    have HLG : Hid (LgAt wr g c) := HC0.out wr HTU.out
    by_cases hlt : j < n
    · obtain ⟨f, hf⟩ : ∃ f, l[j]? = some f := ⟨_, List.getElem?_eq_getElem (by have := HN.out; omega)⟩
      obtain ⟨b, hp, hns, hc⟩ := HSH.out (by omega)
      subst hp
      have hjz : (j : Int) < (n : Int) := by omega
      have y0 := cell_turn HTU.out (hc j f hf) hns
      have d0 : wr.cell? ⟨g, 0, none⟩ = some (.pointer (some ⟨c.d, 0, none⟩)) := (HLG.out.cell 0).trans rfl
      have hi := HIS.out f (List.mem_of_getElem? hf)
      have HSN : Hid (C.syncs (l.take (j + 1)) s = C.syncS (C.syncs (l.take j) s) f) := by
        show _ = _
        rw [List.take_add_one, hf]
        exact C.syncs_snoc _ f s
      have HSY : Hid _ := sync_ok wr c.d S (C.syncs (l.take j) s) f HDK.out (by
        unfold refE
        rw [if_neg (by rw [(C.syncs_is _ s).2.1, HOFF.out]; decide), if_neg (by have := hi.2; omega)]) (by rw [(C.syncs_is _ s).1]; exact hi.1)
      clear hc hf hi hns
      go_wp2_with fail
      refine Calls.mono HSY.out ?_
      rintro e w3 ⟨rfl, hd3, ht3⟩
      have HD3 : Hid (Disk w3 c.d S (C.syncS (C.syncs (l.take j) s) f)) := hd3
      have HT3 : Hid (Turn w w3 S) := HTU.out.trans ht3 fun x hx => Or.inl hx
      clear hd3 ht3 HSY y0 d0
      go_wp2
      go_roundw
      case rel => exact ⟨j + 1, by go_num, by omega, by show Disk _ _ _ _; rw [HSN.out]; exact HD3.out, HT3.out⟩
      case measure => simp [intOf]; omega
    · obtain rfl : j = n := by omega
      have htk : l.take j = l := List.take_of_length_le (by have := HN.out; omega)
      rw [htk] at HDK
      have c11 : wr.cell? ⟨g, 11, none⟩ = some (.slice p j k) := by rw [← HV.out]; exact (HLG.out.cell 11).trans rfl
      have f11 := HLG.out.fz 11
      clear htk
      go_wp2
      go_ret
      exact ⟨rfl, HDK.out.turn (T := fun x => x = g) (Turn.setCell (S := fun x => x = g) (Turn.refl wr _) rfl _) HGS.out, HLG.out.setDirty _, Turn.setCell (S := fun x => x = g ∨ S x) (HTU.out.mono fun b hb => Or.inr hb) (Or.inl rfl) _⟩
end Go.Proofs.YtnhplbdbgiimkaaGreatDoor

namespace Go.Proofs.YtnhplbdbgiimkaaGreatDoor
open Go.RowKit Go.Lib
set_option linter.unusedVariables false

/-- Rows of bytes whose blocks are all in S. -/
def RecsIn (w : World) (S : Nat → Prop) (v : Value) (L : List (List UInt8)) : Prop :=
  ∃ ps : List Part, OwnP w 0 v ps ∧ (∀ b, v.ownBlock = some b → S b) ∧ (∀ x ∈ ps, Own w 0 x.v x.l ∧ ∀ b, x.v.ownBlock = some b → S b) ∧ ps.map Part.l = L
theorem RecsIn.nil (w : World) (S : Nat → Prop) : RecsIn w S (.slice none 0 0) [] := ⟨[], OwnP.nil _ _, fun b h => (by cases h), fun x h => (by cases h), rfl⟩
theorem RecsIn.same {w w' : World} {S : Nat → Prop} {v : Value} {L : List (List UInt8)} (h : RecsIn w S v L) (hs : ∀ b, S b → w'.heap[b]? = w.heap[b]?) : RecsIn w' S v L := by
  obtain ⟨ps, h1, h2, h3, h4⟩ := h
  exact ⟨ps, h1.same fun b hb => hs b (h2 b hb), h2, fun x hx => ⟨(h3 x hx).1.same fun b hb => hs b ((h3 x hx).2 b hb), (h3 x hx).2⟩, h4⟩
theorem RecsIn.mono {w : World} {S T : Nat → Prop} {v : Value} {L : List (List UInt8)} (h : RecsIn w S v L) (hs : ∀ b, S b → T b) : RecsIn w T v L := by
  obtain ⟨ps, h1, h2, h3, h4⟩ := h
  exact ⟨ps, h1, fun b hb => hs b (h2 b hb), fun x hx => ⟨(h3 x hx).1, fun b hb => hs b ((h3 x hx).2 b hb)⟩, h4⟩
theorem RecsIn.of_own {w : World} {B : Nat} {v : Value} {L : List (List UInt8)} (h : RecsOwn w B v L) : RecsIn w (fun b => B ≤ b ∧ b < w.heap.size) v L := by
  obtain ⟨ps, h1, h2, h3⟩ := h
  exact ⟨ps, row_lower h1 (Nat.zero_le _), fun b hb => ⟨OwnP.ge h1 b hb, row_lt h1 hb⟩, fun x hx => ⟨(h2 x hx).lower (Nat.zero_le _), fun b hb => ⟨(h2 x hx).ge b hb, row_lt (h2 x hx) hb⟩⟩, h3⟩
theorem RecsIn.len {w : World} {S : Nat → Prop} {v : Value} {L : List (List UInt8)} (h : RecsIn w S v L) : ∃ p c, v = .slice p L.length c ∧ L.length ≤ c ∧ c ≤ maxLen := by
  obtain ⟨ps, h1, _, _, rfl⟩ := h
  rcases h1.2 with ⟨rfl, h0⟩ | ⟨g, cap, cur, rfl, _, _, hn, hm, _⟩
  · exact ⟨none, 0, by rw [List.length_map, h0], by rw [List.length_map, h0]; exact Nat.le_refl _, Nat.zero_le _⟩
  · exact ⟨_, cap, by rw [List.length_map], by rw [List.length_map]; exact hn, hm⟩
/-- A log, its base, its records, the files that are not safe; its blocks are all in Sl. -/
structure LMem (w : World) (g : Nat) (c : LgC) (Sl : Nat → Prop) (base : List UInt8) (recs : List (List UInt8)) (dl : List Nat) : Prop where
  at_ : LgAt w g c
  mem : Sl g
  base : Own w 0 c.base base
  baseS : ∀ b, c.base.ownBlock = some b → Sl b
  recs : RecsIn w Sl c.recs recs
  dirty : OwnI w c.dirty dl
  dirtyS : ∀ b, c.dirty.ownBlock = some b → Sl b
  lt : ∀ b, Sl b → b < w.heap.size
section
variable {w w' : World} {g : Nat} {c : LgC} {Sl S : Nat → Prop} {base : List UInt8} {recs : List (List UInt8)} {dl : List Nat}
theorem LMem.same (h : LMem w g c Sl base recs dl) (hs : ∀ b, Sl b → w'.heap[b]? = w.heap[b]?) (hz : w.heap.size ≤ w'.heap.size) : LMem w' g c Sl base recs dl :=
  ⟨(hs g h.mem).trans h.at_, h.mem, h.base.same fun b hb => hs b (h.baseS b hb), h.baseS, h.recs.same hs, row_same h.dirty fun b hb => hs b (h.dirtyS b hb), h.dirtyS, fun b hb => Nat.lt_of_lt_of_le (h.lt b hb) hz⟩
theorem LMem.below (h : LMem w g c Sl base recs dl) (hb : Below w.heap.size w w') : LMem w' g c Sl base recs dl := h.same (fun b hs => hb.block b (h.lt b hs)) hb.size
theorem LMem.turn (h : LMem w g c Sl base recs dl) (ht : Turn w w' S) (hn : ∀ b, Sl b → ¬ S b) : LMem w' g c Sl base recs dl := h.same (fun b hs => ht.block b (h.lt b hs) (hn b hs)) ht.size
/-- The log's block is no row of its own. -/
theorem LMem.ne_recs (h : LMem w g c Sl base recs dl) : c.recs.ownBlock ≠ some g := fun e => by
  obtain ⟨ps, h1, _⟩ := h.recs
  obtain ⟨cur, hc⟩ := row_type h1 e
  exact cells_ne hc h.at_ (by decide) rfl
theorem LMem.ne_base (h : LMem w g c Sl base recs dl) : c.base.ownBlock ≠ some g := fun e => by
  obtain ⟨cur, hc⟩ := row_type h.base e
  exact cells_ne hc h.at_ (by decide) rfl
theorem LMem.ne_dirty (h : LMem w g c Sl base recs dl) : c.dirty.ownBlock ≠ some g := fun e => by
  obtain ⟨cur, hc⟩ := row_type h.dirty e
  exact cells_ne hc h.at_ (by decide) rfl
theorem LMem.base_recs (h : LMem w g c Sl base recs dl) {b : Nat} (hb : c.base.ownBlock = some b) : c.recs.ownBlock ≠ some b := fun e => by
  obtain ⟨cur, hc⟩ := row_type h.base hb
  obtain ⟨ps, h1, _⟩ := h.recs
  obtain ⟨cur2, hc2⟩ := row_type h1 e
  exact cells_ne hc hc2 (by decide) rfl
theorem LMem.dirty_recs (h : LMem w g c Sl base recs dl) {b : Nat} (hb : c.dirty.ownBlock = some b) : c.recs.ownBlock ≠ some b := fun e => by
  obtain ⟨cur, hc⟩ := row_type h.dirty hb
  obtain ⟨ps, h1, _⟩ := h.recs
  obtain ⟨cur2, hc2⟩ := row_type h1 e
  exact cells_ne hc hc2 (by decide) rfl
end
end Go.Proofs.YtnhplbdbgiimkaaGreatDoor
