/-
  disk.Disk: Sync.
-/
import Derived.Test.YtlfcpgncgldieaaWLaw
namespace Go.Proofs.Ytlfcpgncgldieaa
namespace C
def synW (f : Nat) (x : Wr) : Wr := if x.file = f then { x with safe := true } else x
theorem synW_file (f : Nat) (x : Wr) : (synW f x).file = x.file := by unfold synW; split <;> rfl
theorem synW_num (f : Nat) (x : Wr) : (synW f x).num = x.num := by unfold synW; split <;> rfl
theorem synW_bytes (f : Nat) (x : Wr) : (synW f x).bytes = x.bytes := by unfold synW; split <;> rfl
theorem synW_same {f : Nat} {x : Wr} (h : x.file = f) : (synW f x).safe = true := by unfold synW; rw [if_pos h]
theorem synW_other {f : Nat} {x : Wr} (h : x.file ≠ f) : synW f x = x := if_neg h
def syncS (s : St) (f : Nat) : St := { s with ws := s.ws.map (synW f) }
theorem sync_dat (f k : Nat) : ∀ ws : List Wr, dat (ws.map (synW f)) k = dat ws k
  | [] => rfl
  | x :: r => by simp only [List.map_cons, dat, synW_file, synW_bytes, sync_dat f k r]
theorem sync_used (f : Nat) : ∀ ws : List Wr, used (ws.map (synW f)) = used ws
  | [] => rfl
  | x :: r => by simp only [List.map_cons, used, synW_bytes, sync_used f r]
theorem sync_saf_same (f : Nat) : ∀ ws : List Wr, saf (ws.map (synW f)) f = (dat ws f).length
  | [] => rfl
  | x :: r => by
    simp only [List.map_cons, saf, dat, synW_file, synW_bytes, sync_saf_same f r, List.length_append]
    by_cases h : x.file = f
    · rw [if_pos ⟨h, synW_same h⟩, if_pos h]
    · rw [if_neg (fun h' => h h'.1), if_neg h]; simp
theorem sync_saf_other {f k : Nat} (hk : k ≠ f) : ∀ ws : List Wr, saf (ws.map (synW f)) k = saf ws k
  | [] => rfl
  | x :: r => by
    simp only [List.map_cons, saf, synW_file, synW_bytes, sync_saf_other hk r]
    by_cases h : x.file = f
    · rw [if_neg (fun h' => hk (h'.1.symm.trans h)), if_neg (fun h' => hk (h'.1.symm.trans h))]
    · rw [synW_other h]
theorem sync_pof_same (f : Nat) : ∀ ws : List Wr, pof (ws.map (synW f)) f = []
  | [] => rfl
  | x :: r => by
    have ih := sync_pof_same f r
    unfold pof at ih ⊢
    rw [List.map_cons, List.filter_cons, ih]
    by_cases h : x.file = f
    · simp [synW_same h]
    · simp [synW_file, h]
theorem sync_pof_other {f k : Nat} (hk : k ≠ f) : ∀ ws : List Wr, pof (ws.map (synW f)) k = pof ws k
  | [] => rfl
  | x :: r => by
    have ih := sync_pof_other hk r
    unfold pof at ih ⊢
    rw [List.map_cons, List.filter_cons, List.filter_cons, ih]
    by_cases h : x.file = f
    · have : (x.file == k) = false := beq_eq_false_iff_ne.2 (fun e => hk (e.symm.trans h))
      simp [synW_file, this]
    · rw [synW_other h]
theorem syncS_ok {s : St} (h : s.Ok) (f : Nat) : (syncS s f).Ok := by
  refine ⟨h.room, h.files, fun x hx => ?_, ?_, fun x hx => ?_, ?_, ?_⟩
  · obtain ⟨y, hy, rfl⟩ := List.mem_map.1 hx
    rw [synW_file]; exact h.has y hy
  · refine List.pairwise_map.2 (h.nums.imp fun {a b} hab => ?_)
    rw [synW_num, synW_num]; exact hab
  · obtain ⟨y, hy, rfl⟩ := List.mem_map.1 hx
    rw [synW_num]; exact h.made y hy
  · refine List.pairwise_map.2 (h.ahead.imp fun {a b} hab hf hs => ?_)
    rw [synW_file, synW_file] at hf
    by_cases e : a.file = f
    · exact synW_same e
    · rw [synW_other e]
      rw [synW_other (fun e' => e (hf.trans e'))] at hs
      exact hab hf hs
  · show used (s.ws.map (synW f)) ≤ _
    rw [sync_used]; exact h.used
end C
open Go.RowKit Go.Lib Go.Maps
open C (upd upd_same upd_other)
set_option linter.unusedVariables false

set_option maxRecDepth 100000 in
set_option maxHeartbeats 4000000 in
theorem sync_ok (w : World) (g : Nat) (S : Nat → Prop) (s : C.St) (f : Nat) (h : Disk w g S s) (hr : refE s f = 0) (hf : s.is f = true) :
    Calls Try.prog 11 #[.pointer (some ⟨g, 0, none⟩), .int .i64 (f : Nat)] w fun e w' => e = .returned (.int .i64 0) ∧ Disk w' g S (C.syncS s f) ∧ Turn w w' S := by
  obtain ⟨L, rfl, his, M, hF, hS, hok⟩ := h
  have HC : Hid _ := find_ok w L S s f his M hF hS hok hr hf
  have hk : L.is f = true := by rw [his]; exact hf
  have hcb := M.cont f hk
  obtain ⟨p, c, hv, hpo⟩ := Own.part (M.dat f hk)
  have hcb' := hcb
  rw [hv] at hcb'
  have c0 := blk_cell hcb' 0
  have c1 := blk_cell hcb' 1
  have c2 := blk_cell hcb' 2
  have f1 := blk_free hcb' 1
  have f2 := blk_free hcb' 2
  simp only [List.getElem?_toArray, List.getElem?_cons_zero, List.getElem?_cons_succ] at c0 c1 c2
  have HFIN : Hid (Disk ((w.setCell ⟨L.c f, 1, none⟩ (.int .i64 ((C.dat s.ws f).length : Nat))).setCell ⟨L.c f, 2, none⟩ (.slice none 0 0)) L.g S (C.syncS s f) ∧ Turn w ((w.setCell ⟨L.c f, 1, none⟩ (.int .i64 ((C.dat s.ws f).length : Nat))).setCell ⟨L.c f, 2, none⟩ (.slice none 0 0)) S) := by
    have hSc : S (L.c f) := hF _ (Or.inr (Or.inr ⟨f, hk, Or.inl rfl⟩))
    have ht : Turn w ((w.setCell ⟨L.c f, 1, none⟩ (.int .i64 ((C.dat s.ws f).length : Nat))).setCell ⟨L.c f, 2, none⟩ (.slice none 0 0)) S := ((Turn.refl w S).setCell hSc _).setCell hSc _
    refine ⟨⟨L.file f (L.d f) (.slice none 0 0), rfl, his, ?_, ?_, ?_, C.syncS_ok hok f⟩, ht⟩
    · have l2 : (Value.slice none 0 0).ownBlock = (L.w f).ownBlock ∨ ∀ b, (Value.slice none 0 0).ownBlock = some b → w.heap.size ≤ b := Or.inr (fun b e => by cases e)
      have M' := M.file hk (L.d f) (.slice none 0 0) (C.dat s.ws f).length (C.dat s.ws f) [] (w' := (w.setCell ⟨L.c f, 1, none⟩ (.int .i64 ((C.dat s.ws f).length : Nat))).setCell ⟨L.c f, 2, none⟩ (.slice none 0 0)) (fun b _ hne _ _ => by rw [set_other hne, set_other hne]) (by rw [set_block (set_block hcb)]; simp)
        (Own.same (M.dat f hk) fun b hb => by rw [set_other (M.d_c hk hk hb), set_other (M.d_c hk hk hb)]) (OwnW.nil _) (Or.inl rfl) l2
      have hh : headOf s = headOf (C.syncS s f) := by unfold headOf C.syncS; simp only; rw [C.sync_used]
      rw [hh] at M'
      refine M'.congr (fun k _ => ?_) (fun k _ => ?_) (fun k _ => ?_)
      · show _ = C.saf (s.ws.map (C.synW f)) k
        by_cases e : k = f
        · subst e; rw [upd_same, C.sync_saf_same]
        · rw [upd_other _ _ e, C.sync_saf_other e]
      · show _ = C.dat (s.ws.map (C.synW f)) k
        rw [C.sync_dat]
        by_cases e : k = f
        · subst e; rw [upd_same]
        · rw [upd_other _ _ e]
      · show _ = C.pof (s.ws.map (C.synW f)) k
        by_cases e : k = f
        · subst e; rw [upd_same, C.sync_pof_same]
        · rw [upd_other _ _ e, C.sync_pof_other e]
    · intro b hb
      rcases Lay.file_foot (N := w.heap.size) hk (Or.inl rfl) (Or.inr (fun b e => by cases e)) b hb with h | h
      · exact hF b h
      · exfalso
        rcases hb with rfl | rfl | ⟨j, hj, rfl | hb | hb⟩
        · have := M.foot_lt (Or.inl rfl : L.foot L.g); exact absurd h (Nat.not_le_of_lt this)
        · have := M.foot_lt (Or.inr (Or.inl rfl) : L.foot L.mb); exact absurd h (Nat.not_le_of_lt this)
        · have := M.foot_lt (Or.inr (Or.inr ⟨j, hj, Or.inl rfl⟩) : L.foot (L.c j)); exact absurd h (Nat.not_le_of_lt this)
        · by_cases e : j = f
          · subst e
            simp only [Lay.file, upd_same] at hb
            have := row_lt (M.dat j hj) hb; omega
          · simp only [Lay.file, upd_other _ _ e] at hb
            have := row_lt (M.dat j hj) hb; omega
        · by_cases e : j = f
          · subst e
            simp only [Lay.file, upd_same] at hb
            cases hb
          · simp only [Lay.file, upd_other _ _ e] at hb
            have := row_lt (M.wr j hj) hb; omega
    · intro b hb
      exact Nat.lt_of_lt_of_le (hS b hb) ht.size
  have hdl : (C.dat s.ws f).length ≤ 1048576 := by have := C.dat_le s.ws f; have := hok.used; have := hok.room; omega
  generalize (C.dat s.ws f).length = n at *
  generalize L.c f = cb at *
  generalize L.g = g at *
  clear M hF hS hok hr hf his hk hpo hv hcb hcb'
  go_enter Try.func11, Try.ntmps11
  go_wp2_with fail
  refine Calls.mono HC.out ?_
  rintro e w1 ⟨rfl, hw⟩
  subst w1
  go_wp2
  go_ret
  exact ⟨rfl, HFIN.out⟩
theorem dk_sync (w0 w : World) (g : Nat) (s : C.St) (f : Nat) (h : DK w0 w g s) (hr : refE s f = 0) (hf : s.is f = true) :
    Calls Try.prog 11 #[.pointer (some ⟨g, 0, none⟩), .int .i64 (f : Nat)] w fun e w' => e = .returned (.int .i64 0) ∧ DK w0 w' g (C.syncS s f) := by
  obtain ⟨S, h1, h2, h3⟩ := h
  exact (sync_ok w g S s f h1 hr hf).mono fun e w' ⟨he, hd, ht⟩ => ⟨he, S, hd, h2, h3.trans (ht.below h3.size h2)⟩
end Go.Proofs.Ytlfcpgncgldieaa
