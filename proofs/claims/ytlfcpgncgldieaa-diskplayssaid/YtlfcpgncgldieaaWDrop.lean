/-
  disk.Disk: Drop; Sync and Drop of what is none.
-/
import Derived.Test.YtlfcpgncgldieaaWFiles2
namespace Go.Proofs.Ytlfcpgncgldieaa
namespace C
def dropL (ws : List Wr) (f : Nat) : List Wr := ws.filter fun x => !(x.file == f)
def dropS (s : St) (f : Nat) : St := { s with is := fun k => s.is k && !(k == f), ws := dropL s.ws f }
theorem drop_cons (x : Wr) (r : List Wr) (f : Nat) : dropL (x :: r) f = if x.file = f then dropL r f else x :: dropL r f := by
  unfold dropL
  rw [List.filter_cons]
  by_cases h : x.file = f <;> simp [h]
theorem drop_dat {f k : Nat} (hk : k ≠ f) : ∀ ws : List Wr, dat (dropL ws f) k = dat ws k
  | [] => rfl
  | x :: r => by
    rw [drop_cons, dat]
    by_cases h : x.file = f
    · rw [if_pos h, if_neg (fun e => hk (e.symm.trans h)), drop_dat hk r]; rfl
    · rw [if_neg h, dat, drop_dat hk r]
theorem drop_saf {f k : Nat} (hk : k ≠ f) : ∀ ws : List Wr, saf (dropL ws f) k = saf ws k
  | [] => rfl
  | x :: r => by
    rw [drop_cons, saf]
    by_cases h : x.file = f
    · rw [if_pos h, if_neg (fun e => hk (e.1.symm.trans h)), drop_saf hk r]; omega
    · rw [if_neg h, saf, drop_saf hk r]
theorem drop_pof {f k : Nat} (hk : k ≠ f) (ws : List Wr) : pof (dropL ws f) k = pof ws k := by
  unfold pof dropL
  rw [List.filter_filter]
  congr 1
  funext x
  by_cases h : x.file = k
  · have : (x.file == f) = false := beq_eq_false_iff_ne.2 (by rw [h]; exact hk)
    simp [this]
  · have : (x.file == k) = false := beq_eq_false_iff_ne.2 h
    simp [this]
theorem drop_used (f : Nat) : ∀ ws : List Wr, used (dropL ws f) + (dat ws f).length = used ws
  | [] => rfl
  | x :: r => by
    have ih := drop_used f r
    rw [drop_cons, dat, used, List.length_append]
    by_cases h : x.file = f
    · rw [if_pos h, if_pos h]; omega
    · rw [if_neg h, if_neg h, used]; simp only [List.length_nil]; omega
theorem dropS_ok {s : St} (h : s.Ok) (f : Nat) : (dropS s f).Ok := by
  have hmem : ∀ x ∈ dropL s.ws f, x ∈ s.ws ∧ x.file ≠ f := fun x hx => by
    unfold dropL at hx
    rw [List.mem_filter] at hx
    exact ⟨hx.1, by simpa using hx.2⟩
  refine ⟨h.room, fun k hk => ?_, fun x hx => ?_, h.nums.filter _, fun x hx => h.made x (hmem x hx).1, h.ahead.filter _, ?_⟩
  · simp only [dropS, Bool.and_eq_true] at hk
    exact h.files k hk.1
  · obtain ⟨h1, h2⟩ := hmem x hx
    simp only [dropS, h.has x h1, Bool.true_and, Bool.not_eq_true', beq_eq_false_iff_ne]
    exact h2
  · have := drop_used f s.ws
    have := h.used
    show used (dropL s.ws f) ≤ s.room
    omega
end C
open Go.RowKit Go.Lib Go.Maps
open C (upd upd_same upd_other)
set_option linter.unusedVariables false

def Lay.less (L : Lay) (f : Nat) : Lay := { L with is := fun k => L.is k && !(k == f) }
theorem Lay.less_is {L : Lay} {f k : Nat} (h : (L.less f).is k = true) : L.is k = true ∧ k ≠ f := by
  simp only [Lay.less, Bool.and_eq_true, Bool.not_eq_true', beq_eq_false_iff_ne] at h; exact h
theorem Lay.less_foot {L : Lay} {f b : Nat} (h : (L.less f).foot b) : L.foot b := by
  rcases h with rfl | rfl | ⟨k, hk, h⟩
  · exact Or.inl rfl
  · exact Or.inr (Or.inl rfl)
  · exact Or.inr (Or.inr ⟨k, (Lay.less_is hk).1, h⟩)
theorem DMem.less {w w' : World} {L : Lay} {n : Nat} {h : Head} {sa : Nat → Nat} {da : Nat → List UInt8} {pn : Nat → List C.Wr} (M : DMem w L n h sa da pn) (f : Nat) (hm : IMap w' L.mb n (mput L.at (f : Int) none)) (hs : ∀ b, L.foot b → b ≠ L.mb → w'.heap[b]? = w.heap[b]?) : DMem w' (L.less f) n h sa da pn := by
  refine ⟨(hs _ (Or.inl rfl) M.g_mb).trans M.blk, hm.congr fun x => ?_, fun k hk => ?_, fun k hk => ?_, fun k hk => ?_, fun k j hk hj => M.cinj k j (Lay.less_is hk).1 (Lay.less_is hj).1, fun k j b hk hj => M.dinj k j b (Lay.less_is hk).1 (Lay.less_is hj).1, fun k j b hk hj => M.winj k j b (Lay.less_is hk).1 (Lay.less_is hj).1⟩
  · unfold mput Lay.at
    by_cases hx : x = (f : Int)
    · subst hx; simp [Lay.less]
    · rw [if_neg hx]
      by_cases h0 : 0 ≤ x
      · have e : x.toNat ≠ f := fun e => hx (by omega)
        have : (x.toNat == f) = false := beq_eq_false_iff_ne.2 e
        simp only [Lay.less, this, Bool.not_false, Bool.and_true]
      · rw [if_neg (fun h => h0 h.1), if_neg (fun h => h0 h.1)]
  · have hk' := (Lay.less_is hk).1
    exact (hs _ (Or.inr (Or.inr ⟨k, hk', Or.inl rfl⟩)) (M.c_mb hk')).trans (M.cont k hk')
  · have hk' := (Lay.less_is hk).1
    exact (M.dat k hk').same fun b hb => hs b (Or.inr (Or.inr ⟨k, hk', Or.inr (Or.inl hb)⟩)) (M.d_mb hk' hb)
  · have hk' := (Lay.less_is hk).1
    exact row_same (M.wr k hk') fun b hb => hs b (Or.inr (Or.inr ⟨k, hk', Or.inr (Or.inr hb)⟩)) (M.w_mb hk' hb)
set_option maxRecDepth 100000 in
set_option maxHeartbeats 4000000 in
theorem drop_ok (w : World) (g : Nat) (S : Nat → Prop) (s : C.St) (f : Nat) (h : Disk w g S s) (hr : refE s f = 0) (hf : s.is f = true) :
    Calls Try.prog 17 #[.pointer (some ⟨g, 0, none⟩), .int .i64 (f : Nat)] w fun e w' => e = .returned (.int .i64 0) ∧ Disk w' g S (C.dropS s f) ∧ Turn w w' S := by
  obtain ⟨L, rfl, his, M, hF, hS, hok⟩ := h
  have HC : Hid _ := find_ok w L S s f his M hF hS hok hr hf
  have h0 := refE_zero hr
  have hk : L.is f = true := by rw [his]; exact hf
  have hcb := M.cont f hk
  obtain ⟨p, c, hv, hpo⟩ := Own.part (M.dat f hk)
  rw [hv] at hcb
  have y0 := blk_cell hcb 0
  have c1 := blk_cell M.blk 1
  have c2 := blk_cell M.blk 2
  have f1 := blk_free M.blk 1
  simp only [Head.cells, headOf, List.getElem?_toArray, List.getElem?_cons_zero, List.getElem?_cons_succ] at y0 c1 c2
  have hus := C.drop_used f s.ws
  have hum := hok.used
  have hrm := hok.room
  have hsub : ((C.used s.ws : Nat) : Int) - ((C.dat s.ws f).length : Nat) = (C.used (C.dropL s.ws f) : Nat) := by omega
  have M1 : DMem (w.setCell ⟨L.g, 1, none⟩ (.int .i64 (C.used (C.dropL s.ws f) : Nat))) L s.made ⟨s.room, C.used (C.dropL s.ws f), s.made, !s.off, s.lives⟩ (C.saf s.ws) (C.dat s.ws) (C.pof s.ws) := M.head _ (by rw [set_block M.blk]; simp [Head.cells, headOf]) (fun b _ hne => set_other hne)
  have HMP : Hid (∀ n, IMap ((w.setCell ⟨L.g, 1, none⟩ (.int .i64 (C.used (C.dropL s.ws f) : Nat))).drewN n) L.mb s.made L.at) := fun n => M1.map.same rfl
  have HFIN : Hid (∀ n w', IMap w' L.mb s.made (mput L.at (f : Int) none) → ((w.setCell ⟨L.g, 1, none⟩ (.int .i64 (C.used (C.dropL s.ws f) : Nat))).drewN n).grownBy w' (some L.mb) → Disk w' L.g S (C.dropS s f) ∧ Turn w w' S) := fun n w' hm hg => by
    have ht : Turn w w' S := by
      have t1 : Turn w ((w.setCell ⟨L.g, 1, none⟩ (.int .i64 (C.used (C.dropL s.ws f) : Nat))).drewN n) S := by
        have := (Turn.refl w S).setCell (o := 1) (hF _ (Or.inl rfl)) (.int .i64 (C.used (C.dropL s.ws f) : Nat))
        exact ⟨this.os, this.tape, this.output, this.size, this.block⟩
      exact t1.trans (Turn.of_grown (S := fun b => b = L.mb) hg (fun b e => by cases e; rfl)) (fun x hx => Or.inl (by subst hx; exact hF _ (Or.inr (Or.inl rfl))))
    refine ⟨⟨L.less f, rfl, by show (fun k => L.is k && !(k == f)) = _; rw [his]; rfl, ?_, fun b hb => hF b (Lay.less_foot hb), fun b hb => Nat.lt_of_lt_of_le (hS b hb) ht.size, C.dropS_ok hok f⟩, ht⟩
    have M2 := M1.less (w' := w') f hm (fun b hb hne => hg.block b (by have := M1.foot_lt hb; exact this) (fun e => hne (Option.some.inj e)))
    refine M2.congr (fun k hk' => ?_) (fun k hk' => ?_) (fun k hk' => ?_)
    · exact (C.drop_saf (Lay.less_is hk').2 s.ws).symm
    · exact (C.drop_dat (Lay.less_is hk').2 s.ws).symm
    · exact (C.drop_pof (Lay.less_is hk').2 s.ws).symm
  have hwf : (Lit.int .i64 (f : Int)).wf = true := wf_small h0.2.1 (by omega)
  have hgc := M.g_c hk
  have HSUB : Hid _ := hsub
  have hdl : (C.dat s.ws f).length ≤ 1048576 := by have := C.dat_le s.ws f; omega
  have hu1 : C.used s.ws ≤ 1048576 := by omega
  have hle : (C.dat s.ws f).length ≤ C.used s.ws := C.dat_le s.ws f
  generalize C.used (C.dropL s.ws f) = u' at *
  generalize C.used s.ws = u at *
  generalize (C.dat s.ws f).length = n at *
  generalize L.c f = cb at *
  generalize L.mb = mb at *
  generalize L.g = g at *
  clear M M1 hF hS hok hr hf his hk hpo hv hcb hsub hus hum hrm
  go_enter Try.func17, Try.ntmps17
  go_wp2_with fail
  refine Calls.mono HC.out ?_
  rintro e w1 ⟨rfl, hw⟩
  subst w1
  go_wp2
  go_region
  all_goals
    rw [HSUB.out]
    have hne2 : ¬ g = cb := hgc
    go_wp2_with (at_delete; go_must (refine wpList_drop_imap rfl _ _ _ _ rfl u_map (HMP.out 1) (f : Int) hwf rfl rfl ?_); intro w2 hm2 hg2)
    go_ret
    exact ⟨rfl, HFIN.out 1 _ hm2 hg2⟩
set_option maxHeartbeats 1000000 in
theorem drop_none (w : World) (g : Nat) (S : Nat → Prop) (s : C.St) (f : Int) (h : Disk w g S s) (hr : refE s f = 0) (hf : s.is f.toNat = false) :
    Calls Try.prog 17 #[.pointer (some ⟨g, 0, none⟩), .int .i64 f] w fun e w' => e = .returned (.int .i64 4) ∧ w' = w := by
  have HC : Hid _ := find_none w g S s f h hr hf
  clear h hr hf
  go_enter Try.func17, Try.ntmps17
  go_wp2_with fail
  refine Calls.mono HC.out ?_
  rintro e w1 ⟨rfl, hw⟩
  subst w1
  go_wp2
  go_ret
  exact ⟨rfl, rfl⟩
set_option maxHeartbeats 1000000 in
theorem sync_none (w : World) (g : Nat) (S : Nat → Prop) (s : C.St) (f : Int) (h : Disk w g S s) (hr : refE s f = 0) (hf : s.is f.toNat = false) :
    Calls Try.prog 11 #[.pointer (some ⟨g, 0, none⟩), .int .i64 f] w fun e w' => e = .returned (.int .i64 4) ∧ w' = w := by
  have HC : Hid _ := find_none w g S s f h hr hf
  clear h hr hf
  go_enter Try.func11, Try.ntmps11
  go_wp2_with fail
  refine Calls.mono HC.out ?_
  rintro e w1 ⟨rfl, hw⟩
  subst w1
  go_wp2
  go_ret
  exact ⟨rfl, rfl⟩
end Go.Proofs.Ytlfcpgncgldieaa
