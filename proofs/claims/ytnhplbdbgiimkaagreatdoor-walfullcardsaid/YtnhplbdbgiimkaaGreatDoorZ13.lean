/-
  Several texts in one: WFiles2, WDrop, WSpoil.
-/
import Derived.Test.YtnhplbdbgiimkaaGreatDoorZ12
namespace Go.Proofs.YtnhplbdbgiimkaaGreatDoor
open Go.RowKit Go.Lib Go.Maps
open C (upd upd_same upd_other)
set_option linter.unusedVariables false

/-- A row of numbers as it lies. -/
def ZAt (w : World) (p : Option Addr) (l : List Int) : Prop := 0 < l.length → ∃ b o, p = some ⟨b, o, none⟩ ∧ ∀ i, i < l.length → w.cell? ⟨b, o + i, none⟩ = some (.int .i64 (l.getD i 0))
theorem ZAt.below {w w' : World} {p : Option Addr} {l : List Int} (h : ZAt w p l) (hb : Below w.heap.size w w') : ZAt w' p l := fun hl => by
  obtain ⟨b, o, hp, hc⟩ := h hl
  refine ⟨b, o, hp, fun i hi => ?_⟩
  rw [hb.cell (p := ⟨b, o + i, none⟩) (World.block_lt_of_cell? _ _ (hc i hi))]; exact hc i hi
theorem zat_of_row {w : World} {base n : Nat} {v : Value} {l : List Int} (h : w.ownsRow base 3 1 v n (l.map encZ)) : ∃ p c, v = .slice p n c ∧ n = l.length ∧ ZAt w p l ∧ ∀ a, p = some a → base ≤ a.block := by
  have hn : n = l.length := by have := h.1; simp at this; omega
  rcases h.2 with ⟨rfl, h0⟩ | ⟨g, cap, cur, rfl, hbs, hg, _, _, _, ht⟩
  · exact ⟨none, 0, by rw [h0], hn, (fun hl => by omega), (fun a e => by cases e)⟩
  · refine ⟨_, cap, rfl, hn, fun _ => ⟨g, 0, rfl, fun i hi => ?_⟩, fun a e => by cases e; exact hbs⟩
    rw [Nat.zero_add, blk_cell hg i]
    have hh := congrArg (fun q => q[i]?) ht
    simp only [List.getElem?_take, Nat.mul_one] at hh
    rw [if_pos (by omega)] at hh
    rw [← Array.getElem?_toList, hh]
    simp [List.getD, hi, encZ]
theorem zat_new (w : World) (l : List Int) (t : TypeId) : ZAt (w.alloc (.cells (l.map fun z => Value.int .i64 z).toArray t)) (some ⟨w.heap.size, 0, none⟩) l := fun hl => by
  refine ⟨_, 0, rfl, fun i hi => ?_⟩
  rw [World.cell?_alloc_mark]
  simp [hi]
def filesE (s : C.St) : List Int := if s.off = true then [] else filesL s.is
set_option maxRecDepth 100000 in
set_option maxHeartbeats 1000000 in
theorem files_any (w : World) (g : Nat) (S : Nat → Prop) (s : C.St) (h : Disk w g S s) (hm : s.made ≤ 1000000) :
    Calls Tryz.prog 22 #[.pointer (some ⟨g, 0, none⟩)] w fun e w' => (∃ p n c, e = .returned (.slice p n c) ∧ n = (filesE s).length ∧ ZAt w' p (filesE s) ∧ ∀ a, p = some a → w.heap.size ≤ a.block) ∧ Below w.heap.size w w' := by
  obtain ⟨L, rfl, his, M, hF, hS, hok⟩ := h
  have c4 := blk_cell M.blk 4
  have c2 := blk_cell M.blk 2
  simp only [Head.cells, headOf, List.getElem?_toArray, List.getElem?_cons_succ, List.getElem?_cons_zero] at c4 c2
  cases ho : s.off with
  | true =>
    rw [ho] at c4
    simp only [Bool.not_true] at c4
    have e1 : filesE s = [] := if_pos ho
    rw [e1]
    generalize L.g = g at *
    clear M hF hS hok his c2 ho e1
    go_enter Tryz.func22, Tryz.ntmps22
    go_wp2
    go_ret
    exact ⟨⟨none, 0, 0, rfl, rfl, (fun h => absurd h (Nat.lt_irrefl 0)), (fun a e => by cases e)⟩, Below.refl _ _⟩
  | false =>
    rw [ho] at c4
    simp only [Bool.not_false] at c4
    have e1 : filesE s = filesL s.is := if_neg (by rw [ho]; simp)
    rw [e1]
    obtain ⟨D, hown, hr⟩ := M.map
    have hsz : Maps.size D ≤ s.made := hown.size_le
    have HK : Hid _ := keysI_any (some L.mb) w
    have HS : Hid _ := sortedI_any L.mb _ D w hown (by unfold maxLen; omega) (by omega)
    have HF2 : Hid (∀ ss : List Int, ss.Perm (intKeys D) → ss.mergeSort (fun x y => decide (x ≤ y)) = filesL s.is) := fun ss hp => by
      obtain ⟨h1, h2⟩ := keys_files hown hr hp
      rw [← his]
      exact sorted_files h1 h2 (fun k hk => hok.files k (his ▸ hk))
    generalize L.mb = mb at *
    generalize L.g = g at *
    clear M hF hS hok his ho e1 hown hr hsz
    go_enter Tryz.func22, Tryz.ntmps22
    go_wp2_with fail
    refine Calls.mono HK.out ?_
    rintro e w1 ⟨rfl, hw⟩
    subst hw
    go_wp2_with fail
    refine Calls.mono HS.out ?_
    rintro e w2 ⟨v, ss, rfl, hp, ho2, hn2, hb2⟩
    have hfl := HF2.out ss hp
    rw [hfl] at ho2
    have hlen : ss.length = (filesL s.is).length := by rw [← hfl, List.length_mergeSort]
    obtain ⟨p, c, rfl, hn, hz, hge⟩ := zat_of_row ho2
    have HGE : Hid _ := hge
    have HZ : Hid _ := hz
    have HB2 : Hid _ := hb2
    have HN : Hid _ := hn
    clear hz hn hlen ho2 hn2 hfl hb2 hp hge
    go_wp2
    go_ret
    exact ⟨⟨p, _, c, rfl, HN.out, HZ.out, fun a e => Nat.le_of_succ_le (HGE.out a e)⟩, bt (below_new _ _) (by have := HB2.out; rw [← World.size_alloc w (.cells #[.map (some mb)] 53)] at this; exact this)⟩
end Go.Proofs.YtnhplbdbgiimkaaGreatDoor

namespace Go.Proofs.YtnhplbdbgiimkaaGreatDoor
namespace C
def dropL (ws : List Wr) (f : Nat) : List Wr := ws.filter fun x => !(x.file == f)
def dropS (s : St) (f : Nat) : St := { s with is := fun k => s.is k && !(k == f), ws := dropL s.ws f }
theorem drop_cons (x : Wr) (r : List Wr) (f : Nat) : dropL (x :: r) f = if x.file = f then dropL r f else x :: dropL r f := by
  unfold dropL
  rw [List.filter_cons]
  by_cases h : x.file = f <;> simp [h]
theorem drop_dat {f k : Nat} (hk : k ≠ f) : ∀ ws : List Wr, dat (dropL ws f) k = dat ws k
  | [] => rfl
  | x :: r => by
    rw [drop_cons, dat]
    by_cases h : x.file = f
    · rw [if_pos h, if_neg (fun e => hk (e.symm.trans h)), drop_dat hk r]; rfl
    · rw [if_neg h, dat, drop_dat hk r]
theorem drop_saf {f k : Nat} (hk : k ≠ f) : ∀ ws : List Wr, saf (dropL ws f) k = saf ws k
  | [] => rfl
  | x :: r => by
    rw [drop_cons, saf]
    by_cases h : x.file = f
    · rw [if_pos h, if_neg (fun e => hk (e.1.symm.trans h)), drop_saf hk r]; omega
    · rw [if_neg h, saf, drop_saf hk r]
theorem drop_pof {f k : Nat} (hk : k ≠ f) (ws : List Wr) : pof (dropL ws f) k = pof ws k := by
  unfold pof dropL
  rw [List.filter_filter]
  congr 1
  funext x
  by_cases h : x.file = k
  · have : (x.file == f) = false := beq_eq_false_iff_ne.2 (by rw [h]; exact hk)
    simp [this]
  · have : (x.file == k) = false := beq_eq_false_iff_ne.2 h
    simp [this]
theorem drop_used (f : Nat) : ∀ ws : List Wr, used (dropL ws f) + (dat ws f).length = used ws
  | [] => rfl
  | x :: r => by
    have ih := drop_used f r
    rw [drop_cons, dat, used, List.length_append]
    by_cases h : x.file = f
    · rw [if_pos h, if_pos h]; omega
    · rw [if_neg h, if_neg h, used]; simp only [List.length_nil]; omega
theorem dropS_ok {s : St} (h : s.Ok) (f : Nat) : (dropS s f).Ok := by
  have hmem : ∀ x ∈ dropL s.ws f, x ∈ s.ws ∧ x.file ≠ f := fun x hx => by
    unfold dropL at hx
    rw [List.mem_filter] at hx
    exact ⟨hx.1, by simpa using hx.2⟩
  refine ⟨h.room, fun k hk => ?_, fun x hx => ?_, h.nums.filter _, fun x hx => h.made x (hmem x hx).1, h.ahead.filter _, ?_⟩
  · simp only [dropS, Bool.and_eq_true] at hk
    exact h.files k hk.1
  · obtain ⟨h1, h2⟩ := hmem x hx
    simp only [dropS, h.has x h1, Bool.true_and, Bool.not_eq_true', beq_eq_false_iff_ne]
    exact h2
  · have := drop_used f s.ws
    have := h.used
    show used (dropL s.ws f) ≤ s.room
    omega
end C
open Go.RowKit Go.Lib Go.Maps
open C (upd upd_same upd_other)
set_option linter.unusedVariables false

def Lay.less (L : Lay) (f : Nat) : Lay := { L with is := fun k => L.is k && !(k == f) }
theorem Lay.less_is {L : Lay} {f k : Nat} (h : (L.less f).is k = true) : L.is k = true ∧ k ≠ f := by
  simp only [Lay.less, Bool.and_eq_true, Bool.not_eq_true', beq_eq_false_iff_ne] at h; exact h
theorem Lay.less_foot {L : Lay} {f b : Nat} (h : (L.less f).foot b) : L.foot b := by
  rcases h with rfl | rfl | ⟨k, hk, h⟩
  · exact Or.inl rfl
  · exact Or.inr (Or.inl rfl)
  · exact Or.inr (Or.inr ⟨k, (Lay.less_is hk).1, h⟩)
theorem DMem.less {w w' : World} {L : Lay} {n : Nat} {h : Head} {sa : Nat → Nat} {da : Nat → List UInt8} {pn : Nat → List C.Wr} (M : DMem w L n h sa da pn) (f : Nat) (hm : IMap w' L.mb n (mput L.at (f : Int) none)) (hs : ∀ b, L.foot b → b ≠ L.mb → w'.heap[b]? = w.heap[b]?) : DMem w' (L.less f) n h sa da pn := by
  refine ⟨(hs _ (Or.inl rfl) M.g_mb).trans M.blk, hm.congr fun x => ?_, fun k hk => ?_, fun k hk => ?_, fun k hk => ?_, fun k j hk hj => M.cinj k j (Lay.less_is hk).1 (Lay.less_is hj).1, fun k j b hk hj => M.dinj k j b (Lay.less_is hk).1 (Lay.less_is hj).1, fun k j b hk hj => M.winj k j b (Lay.less_is hk).1 (Lay.less_is hj).1⟩
  · unfold mput Lay.at
    by_cases hx : x = (f : Int)
    · subst hx; simp [Lay.less]
    · rw [if_neg hx]
      by_cases h0 : 0 ≤ x
      · have e : x.toNat ≠ f := fun e => hx (by omega)
        have : (x.toNat == f) = false := beq_eq_false_iff_ne.2 e
        simp only [Lay.less, this, Bool.not_false, Bool.and_true]
      · rw [if_neg (fun h => h0 h.1), if_neg (fun h => h0 h.1)]
  · have hk' := (Lay.less_is hk).1
    exact (hs _ (Or.inr (Or.inr ⟨k, hk', Or.inl rfl⟩)) (M.c_mb hk')).trans (M.cont k hk')
  · have hk' := (Lay.less_is hk).1
    exact (M.dat k hk').same fun b hb => hs b (Or.inr (Or.inr ⟨k, hk', Or.inr (Or.inl hb)⟩)) (M.d_mb hk' hb)
  · have hk' := (Lay.less_is hk).1
    exact row_same (M.wr k hk') fun b hb => hs b (Or.inr (Or.inr ⟨k, hk', Or.inr (Or.inr hb)⟩)) (M.w_mb hk' hb)
set_option maxRecDepth 100000 in
set_option maxHeartbeats 4000000 in
theorem drop_ok (w : World) (g : Nat) (S : Nat → Prop) (s : C.St) (f : Nat) (h : Disk w g S s) (hr : refE s f = 0) (hf : s.is f = true) :
    Calls Tryz.prog 54 #[.pointer (some ⟨g, 0, none⟩), .int .i64 (f : Nat)] w fun e w' => e = .returned (.int .i64 0) ∧ Disk w' g S (C.dropS s f) ∧ Turn w w' S := by
  obtain ⟨L, rfl, his, M, hF, hS, hok⟩ := h
  have HC : Hid _ := find_ok w L S s f his M hF hS hok hr hf
  have h0 := refE_zero hr
  have hk : L.is f = true := by rw [his]; exact hf
  have hcb := M.cont f hk
  obtain ⟨p, c, hv, hpo⟩ := Own.part (M.dat f hk)
  rw [hv] at hcb
  have y0 := blk_cell hcb 0
  have c1 := blk_cell M.blk 1
  have c2 := blk_cell M.blk 2
  have f1 := blk_free M.blk 1
  simp only [Head.cells, headOf, List.getElem?_toArray, List.getElem?_cons_zero, List.getElem?_cons_succ] at y0 c1 c2
  have hus := C.drop_used f s.ws
  have hum := hok.used
  have hrm := hok.room
  have hsub : ((C.used s.ws : Nat) : Int) - ((C.dat s.ws f).length : Nat) = (C.used (C.dropL s.ws f) : Nat) := by omega
  have M1 : DMem (w.setCell ⟨L.g, 1, none⟩ (.int .i64 (C.used (C.dropL s.ws f) : Nat))) L s.made ⟨s.room, C.used (C.dropL s.ws f), s.made, !s.off, s.lives⟩ (C.saf s.ws) (C.dat s.ws) (C.pof s.ws) := M.head _ (by rw [set_block M.blk]; simp [Head.cells, headOf]) (fun b _ hne => set_other hne)
  have HMP : Hid (∀ n, IMap ((w.setCell ⟨L.g, 1, none⟩ (.int .i64 (C.used (C.dropL s.ws f) : Nat))).drewN n) L.mb s.made L.at) := fun n => M1.map.same rfl
  have HFIN : Hid (∀ n w', IMap w' L.mb s.made (mput L.at (f : Int) none) → ((w.setCell ⟨L.g, 1, none⟩ (.int .i64 (C.used (C.dropL s.ws f) : Nat))).drewN n).grownBy w' (some L.mb) → Disk w' L.g S (C.dropS s f) ∧ Turn w w' S) := fun n w' hm hg => by
    have ht : Turn w w' S := by
      have t1 : Turn w ((w.setCell ⟨L.g, 1, none⟩ (.int .i64 (C.used (C.dropL s.ws f) : Nat))).drewN n) S := by
        have := (Turn.refl w S).setCell (o := 1) (hF _ (Or.inl rfl)) (.int .i64 (C.used (C.dropL s.ws f) : Nat))
        exact ⟨this.os, this.tape, this.output, this.size, this.block⟩
      exact t1.trans (Turn.of_grown (S := fun b => b = L.mb) hg (fun b e => by cases e; rfl)) (fun x hx => Or.inl (by subst hx; exact hF _ (Or.inr (Or.inl rfl))))
    refine ⟨⟨L.less f, rfl, by show (fun k => L.is k && !(k == f)) = _; rw [his]; rfl, ?_, fun b hb => hF b (Lay.less_foot hb), fun b hb => Nat.lt_of_lt_of_le (hS b hb) ht.size, C.dropS_ok hok f⟩, ht⟩
    have M2 := M1.less (w' := w') f hm (fun b hb hne => hg.block b (by have := M1.foot_lt hb; exact this) (fun e => hne (Option.some.inj e)))
    refine M2.congr (fun k hk' => ?_) (fun k hk' => ?_) (fun k hk' => ?_)
    · exact (C.drop_saf (Lay.less_is hk').2 s.ws).symm
    · exact (C.drop_dat (Lay.less_is hk').2 s.ws).symm
    · exact (C.drop_pof (Lay.less_is hk').2 s.ws).symm
  have hwf : (Lit.int .i64 (f : Int)).wf = true := wf_small h0.2.1 (by omega)
  have hgc := M.g_c hk
  have HSUB : Hid _ := hsub
  have hdl : (C.dat s.ws f).length ≤ 1048576 := by have := C.dat_le s.ws f; omega
  have hu1 : C.used s.ws ≤ 1048576 := by omega
  have hle : (C.dat s.ws f).length ≤ C.used s.ws := C.dat_le s.ws f
  generalize C.used (C.dropL s.ws f) = u' at *
  generalize C.used s.ws = u at *
  generalize (C.dat s.ws f).length = n at *
  generalize L.c f = cb at *
  generalize L.mb = mb at *
  generalize L.g = g at *
  clear M M1 hF hS hok hr hf his hk hpo hv hcb hsub hus hum hrm
  go_enter Tryz.func54, Tryz.ntmps54
  go_wp2_with fail
  refine Calls.mono HC.out ?_
  rintro e w1 ⟨rfl, hw⟩
  subst w1
  go_wp2
  go_region
  all_goals
    rw [HSUB.out]
    have hne2 : ¬ g = cb := hgc
    go_wp2_with (at_delete; go_must (refine wpList_drop_imap rfl _ _ _ _ rfl u_map (HMP.out 1) (f : Int) hwf rfl rfl ?_); intro w2 hm2 hg2)
    go_ret
    exact ⟨rfl, HFIN.out 1 _ hm2 hg2⟩
set_option maxHeartbeats 1000000 in
theorem drop_none (w : World) (g : Nat) (S : Nat → Prop) (s : C.St) (f : Int) (h : Disk w g S s) (hr : refE s f = 0) (hf : s.is f.toNat = false) :
    Calls Tryz.prog 54 #[.pointer (some ⟨g, 0, none⟩), .int .i64 f] w fun e w' => e = .returned (.int .i64 4) ∧ w' = w := by
  have HC : Hid _ := find_none w g S s f h hr hf
  clear h hr hf
  go_enter Tryz.func54, Tryz.ntmps54
  go_wp2_with fail
  refine Calls.mono HC.out ?_
  rintro e w1 ⟨rfl, hw⟩
  subst w1
  go_wp2
  go_ret
  exact ⟨rfl, rfl⟩
set_option maxHeartbeats 1000000 in
theorem sync_none (w : World) (g : Nat) (S : Nat → Prop) (s : C.St) (f : Int) (h : Disk w g S s) (hr : refE s f = 0) (hf : s.is f.toNat = false) :
    Calls Tryz.prog 30 #[.pointer (some ⟨g, 0, none⟩), .int .i64 f] w fun e w' => e = .returned (.int .i64 4) ∧ w' = w := by
  have HC : Hid _ := find_none w g S s f h hr hf
  clear h hr hf
  go_enter Tryz.func30, Tryz.ntmps30
  go_wp2_with fail
  refine Calls.mono HC.out ?_
  rintro e w1 ⟨rfl, hw⟩
  subst w1
  go_wp2
  go_ret
  exact ⟨rfl, rfl⟩
end Go.Proofs.YtnhplbdbgiimkaaGreatDoor

namespace Go.Proofs.YtnhplbdbgiimkaaGreatDoor
namespace C
def spoL : List Wr → Nat → Nat → UInt8 → List Wr
  | [], _, _, _ => []
  | x :: r, f, a, b => if x.file = f then (if a < x.bytes.length then { x with bytes := x.bytes.set a (x.bytes.getD a 0 ^^^ b) } :: r else x :: spoL r f (a - x.bytes.length) b) else x :: spoL r f a b
def spoS (s : St) (f a : Nat) (b : UInt8) : St := { s with ws := spoL s.ws f a b }
/-- What a write is but for its bytes. -/
def keyW (x : Wr) : Nat × Nat × Nat × Bool := (x.num, x.file, x.bytes.length, x.safe)
theorem spo_keys : ∀ (ws : List Wr) (f a : Nat) (b : UInt8), (spoL ws f a b).map keyW = ws.map keyW
  | [], _, _, _ => rfl
  | x :: r, f, a, b => by
    rw [spoL]
    split
    · split
      · simp [keyW]
      · simp [spo_keys r]
    · simp [spo_keys r]
theorem spo_dat_same (f : Nat) (b : UInt8) : ∀ (ws : List Wr) (a : Nat), a < (dat ws f).length → dat (spoL ws f a b) f = (dat ws f).set a ((dat ws f).getD a 0 ^^^ b)
  | [], a, h => by simp [dat] at h
  | x :: r, a, h => by
    rw [spoL, dat]
    by_cases hf : x.file = f
    · simp only [dat, hf, if_true, List.length_append] at h ⊢
      by_cases ha : a < x.bytes.length
      · rw [if_pos ha, dat]
        simp only [if_true]
        rw [List.set_append_left _ _ ha]
        congr 2
        simp [List.getD, ha, List.getElem?_append_left ha]
      · rw [if_neg ha, dat]
        simp only [hf, if_true]
        rw [spo_dat_same f b r (a - x.bytes.length) (by omega), List.set_append_right _ _ (by omega)]
        congr 2
        simp [List.getD, List.getElem?_append_right (show x.bytes.length ≤ a by omega)]
    · simp only [dat, hf, if_false, List.nil_append] at h ⊢
      exact spo_dat_same f b r a h
theorem spo_dat_other {f k : Nat} (hk : k ≠ f) (b : UInt8) : ∀ (ws : List Wr) (a : Nat), dat (spoL ws f a b) k = dat ws k
  | [], a => rfl
  | x :: r, a => by
    rw [spoL, dat]
    by_cases hf : x.file = f
    · rw [if_pos hf]
      split
      · rw [dat, if_neg (fun e => hk (e.symm.trans hf)), if_neg (fun e => hk (e.symm.trans hf))]
      · rw [dat, spo_dat_other hk b r]
    · rw [if_neg hf, dat, spo_dat_other hk b r]
theorem of_keys_saf : ∀ (a b : List Wr), a.map keyW = b.map keyW → ∀ k, saf a k = saf b k
  | [], [], _, _ => rfl
  | [], y :: q, h, _ => by cases h
  | x :: p, [], h, _ => by cases h
  | x :: p, y :: q, h, k => by
    simp only [List.map_cons, List.cons.injEq] at h
    obtain ⟨h1, h2⟩ := h
    simp only [keyW, Prod.mk.injEq] at h1
    rw [saf, saf, of_keys_saf p q h2 k, h1.2.1, h1.2.2.1, h1.2.2.2]
theorem of_keys_used : ∀ (a b : List Wr), a.map keyW = b.map keyW → used a = used b
  | [], [], _ => rfl
  | [], y :: q, h => by cases h
  | x :: p, [], h => by cases h
  | x :: p, y :: q, h => by
    simp only [List.map_cons, List.cons.injEq] at h
    obtain ⟨h1, h2⟩ := h
    simp only [keyW, Prod.mk.injEq] at h1
    rw [used, used, of_keys_used p q h2, h1.2.2.1]
theorem of_keys_pof : ∀ (a b : List Wr), a.map keyW = b.map keyW → ∀ k, (pof a k).map keyW = (pof b k).map keyW
  | [], [], _, _ => rfl
  | [], y :: q, h, _ => by cases h
  | x :: p, [], h, _ => by cases h
  | x :: p, y :: q, h, k => by
    simp only [List.map_cons, List.cons.injEq] at h
    obtain ⟨h1, h2⟩ := h
    have ih := of_keys_pof p q h2 k
    have h1' := h1
    simp only [keyW, Prod.mk.injEq] at h1
    unfold pof at ih ⊢
    rw [List.filter_cons, List.filter_cons, h1.2.1, h1.2.2.2]
    split
    · rw [List.map_cons, List.map_cons, ih, h1']
    · exact ih
theorem spoS_ok {s : St} (h : s.Ok) (f a : Nat) (b : UInt8) : (spoS s f a b).Ok := by
  have hk := spo_keys s.ws f a b
  have hmem : ∀ x ∈ spoL s.ws f a b, ∃ y ∈ s.ws, y.num = x.num ∧ y.file = x.file := fun x hx => by
    have h1 : keyW x ∈ (spoL s.ws f a b).map keyW := List.mem_map.2 ⟨x, hx, rfl⟩
    rw [hk] at h1
    obtain ⟨y, hy, e⟩ := List.mem_map.1 h1
    simp only [keyW, Prod.mk.injEq] at e
    exact ⟨y, hy, e.1, e.2.1⟩
  refine ⟨h.room, h.files, fun x hx => ?_, ?_, fun x hx => ?_, ?_, ?_⟩
  · obtain ⟨y, hy, _, e⟩ := hmem x hx
    rw [← e]; exact h.has y hy
  · have h1 : ((spoL s.ws f a b).map keyW).Pairwise fun p q => p.1 < q.1 := by rw [hk]; exact List.pairwise_map.2 h.nums
    have := List.pairwise_map.1 h1
    exact this
  · obtain ⟨y, hy, e, _⟩ := hmem x hx
    rw [← e]; exact h.made y hy
  · have h1 : ((spoL s.ws f a b).map keyW).Pairwise fun p q => p.2.1 = q.2.1 → q.2.2.2 = true → p.2.2.2 = true := by rw [hk]; exact List.pairwise_map.2 h.ahead
    have := List.pairwise_map.1 h1
    exact this
  · show used (spoL s.ws f a b) ≤ s.room
    rw [of_keys_used _ _ hk]; exact h.used
end C
open Go.RowKit Go.Lib Go.Maps
open C (upd upd_same upd_other)
set_option linter.unusedVariables false

theorem rowW_keys : ∀ (a b : List C.Wr), a.map C.keyW = b.map C.keyW → rowW a = rowW b ∧ a.length = b.length
  | [], [], _ => ⟨rfl, rfl⟩
  | [], y :: q, h => by cases h
  | x :: p, [], h => by cases h
  | x :: p, y :: q, h => by
    simp only [List.map_cons, List.cons.injEq] at h
    obtain ⟨h1, h2⟩ := h
    obtain ⟨k1, k2⟩ := rowW_keys p q h2
    simp only [C.keyW, Prod.mk.injEq] at h1
    refine ⟨?_, by simp [k2]⟩
    have e1 : rowW (x :: p) = encW x ++ rowW p := rfl
    have e2 : rowW (y :: q) = encW y ++ rowW q := rfl
    rw [e1, e2, k1]
    congr 1
    unfold encW
    rw [h1.1, h1.2.1, h1.2.2.1]
theorem OwnW.keys {w : World} {v : Value} {a b : List C.Wr} (h : OwnW w v a) (hk : a.map C.keyW = b.map C.keyW) : OwnW w v b := by
  obtain ⟨h1, h2⟩ := rowW_keys a b hk
  unfold OwnW at h ⊢
  rw [← h1, ← h2]; exact h
theorem xor8n (x y : UInt8) : bits .xor .u8 (x.toNat : Int) (y.toNat : Int) = ((x ^^^ y).toNat : Nat) := by
  rw [u8_xor_nat _ _ x.toNat_lt y.toNat_lt, UInt8.toNat_xor]
set_option maxRecDepth 100000 in
set_option maxHeartbeats 4000000 in
theorem spoil_ok (w : World) (g : Nat) (S : Nat → Prop) (s : C.St) (f a : Nat) (b : UInt8) (h : Disk w g S s) (hr : refE s f = 0) (hf : s.is f = true) (ha : a < (C.dat s.ws f).length) (hb : b.toNat ≠ 0) :
    Calls Tryz.prog 24 #[.pointer (some ⟨g, 0, none⟩), .int .i64 (f : Nat), .int .i64 (a : Nat), .int .u8 (b.toNat : Nat)] w fun e w' => e = .returned (.bool true) ∧ Disk w' g S (C.spoS s f a b) ∧ Turn w w' S := by
  obtain ⟨L, rfl, his, M, hF, hS, hok⟩ := h
  have HC : Hid _ := find_ok w L S s f his M hF hS hok hr hf
  have hk : L.is f = true := by rw [his]; exact hf
  have hcb := M.cont f hk
  have ho := M.dat f hk
  obtain ⟨db, cc, hv, _⟩ := Own.shape ho (by omega)
  have hcb' := hcb
  rw [hv] at hcb' ho
  have y0 := blk_cell hcb' 0
  simp only [List.getElem?_toArray, List.getElem?_cons_zero] at y0
  obtain ⟨hc, hfz⟩ := Own.cell ho rfl a ha
  have hcap := Own.cap ho
  have hdl : (C.dat s.ws f).length ≤ 1048576 := by have := C.dat_le s.ws f; have := hok.used; have := hok.room; omega
  have hx := (((C.dat s.ws f).getD a 0)).toNat_lt
  have HXO : Hid (bits .xor .u8 (((C.dat s.ws f).getD a 0).toNat : Int) (b.toNat : Int) = (((C.dat s.ws f).getD a 0 ^^^ b).toNat : Nat)) := xor8n _ _
  have HFIN : Hid (Disk (w.setCell ⟨db, a, none⟩ (.int .u8 (((C.dat s.ws f).getD a 0 ^^^ b).toNat : Nat))) L.g S (C.spoS s f a b) ∧ Turn w (w.setCell ⟨db, a, none⟩ (.int .u8 (((C.dat s.ws f).getD a 0 ^^^ b).toNat : Nat))) S) := by
    have hdS : S db := hF _ (Or.inr (Or.inr ⟨f, hk, Or.inr (Or.inl (by rw [hv]; rfl))⟩))
    have hdc : ∀ j, L.is j = true → db ≠ L.c j := fun j hj => M.d_c hk hj (by rw [hv]; rfl)
    have ht : Turn w (w.setCell ⟨db, a, none⟩ (.int .u8 (((C.dat s.ws f).getD a 0 ^^^ b).toNat : Nat))) S := (Turn.refl w S).setCell hdS _
    refine ⟨⟨L, rfl, his, ?_, hF, fun b hb => Nat.lt_of_lt_of_le (hS b hb) ht.size, C.spoS_ok hok f a b⟩, ht⟩
    have M' := M.file hk (L.d f) (L.w f) (C.saf s.ws f) ((C.dat s.ws f).set a ((C.dat s.ws f).getD a 0 ^^^ b)) (C.pof s.ws f) (w' := w.setCell ⟨db, a, none⟩ (.int .u8 (((C.dat s.ws f).getD a 0 ^^^ b).toNat : Nat))) (fun b' _ _ h2 _ => set_other (fun e => h2 (by rw [hv, e]; rfl)))
      ((set_other (hdc f hk).symm).trans hcb) (by rw [hv]; exact Own.set ho rfl a _) (row_same (M.wr f hk) fun b' hb' => set_other (M.w_d hk hk hb' (by rw [hv]; rfl))) (Or.inl rfl) (Or.inl rfl)
    rw [Lay.file_self] at M'
    have hkk := C.spo_keys s.ws f a b
    have hh : headOf s = headOf (C.spoS s f a b) := by unfold headOf C.spoS; simp only; rw [C.of_keys_used _ _ hkk]
    rw [hh] at M'
    have M2 : DMem (w.setCell ⟨db, a, none⟩ (.int .u8 (((C.dat s.ws f).getD a 0 ^^^ b).toNat : Nat))) L s.made (headOf (C.spoS s f a b)) (C.saf (C.spoL s.ws f a b)) (C.dat (C.spoL s.ws f a b)) (C.pof s.ws) := by
      refine M'.congr (fun k _ => ?_) (fun k _ => ?_) (fun k _ => ?_)
      · rw [C.of_keys_saf _ _ hkk k]
        by_cases e : k = f
        · subst e; rw [upd_same]
        · rw [upd_other _ _ e]
      · by_cases e : k = f
        · subst e; rw [upd_same, C.spo_dat_same k b s.ws a ha]
        · rw [upd_other _ _ e, C.spo_dat_other e]
      · by_cases e : k = f
        · subst e; rw [upd_same]
        · rw [upd_other _ _ e]
    exact ⟨M2.blk, M2.map, M2.cont, M2.dat, fun k hk' => OwnW.keys (M2.wr k hk') (C.of_keys_pof _ _ hkk.symm k), M2.cinj, M2.dinj, M2.winj⟩
  generalize ((C.dat s.ws f).getD a 0 ^^^ b).toNat = z at *
  generalize ((C.dat s.ws f).getD a 0).toNat = x at *
  have hb2 := b.toNat_lt
  generalize b.toNat = y at *
  generalize (C.dat s.ws f).length = n at *
  generalize L.c f = cb at *
  generalize L.g = g at *
  have hy0 : ((y : Int) == 0) = false := by simpa using hb
  have hi1 : (a : Int) < (n : Int) := by omega
  have hi2 : decide ((n : Int) ≤ (a : Int)) = false := by simp; omega
  have hcm : cc ≤ 9223372036854775807 := Nat.le_trans hcap.2.2.1 (by decide)
  clear M hF hS hok hr hf his hk hv hcb hcb' ho hcap
  go_enter Tryz.func24, Tryz.ntmps24
  go_wp2_with fail
  refine Calls.mono HC.out ?_
  rintro e w1 ⟨rfl, hw⟩
  subst w1
  have hxo := HXO.out
  go_wp2
  go_ret
  exact ⟨rfl, HFIN.out⟩
/-- Why Spoil says no. -/
def spoN (s : C.St) (f a : Int) (b : UInt8) : Prop := readE s f ≠ 0 ∨ a < 0 ∨ (C.dat s.ws f.toNat).length ≤ a ∨ b.toNat = 0
set_option maxRecDepth 100000 in
set_option maxHeartbeats 4000000 in
theorem spoil_no (w : World) (g : Nat) (S : Nat → Prop) (s : C.St) (f a : Int) (b : UInt8) (h : Disk w g S s) (hn : spoN s f a b) :
    Calls Tryz.prog 24 #[.pointer (some ⟨g, 0, none⟩), .int .i64 f, .int .i64 a, .int .u8 (b.toNat : Nat)] w fun e w' => e = .returned (.bool false) ∧ w' = w := by
  by_cases hr : refE s f = 0
  · cases hf : s.is f.toNat with
    | false =>
      have HC : Hid _ := find_none w g S s f h hr hf
      clear h hr hf hn
      go_enter Tryz.func24, Tryz.ntmps24
      go_wp2_with fail
      refine Calls.mono HC.out ?_
      rintro e w1 ⟨rfl, hw⟩
      subst w1
      go_wp2
      go_ret
      exact ⟨rfl, rfl⟩
    | true =>
      have h0 := refE_zero hr
      obtain ⟨k, rfl⟩ : ∃ k : Nat, f = (k : Int) := ⟨f.toNat, by omega⟩
      rw [Int.toNat_natCast] at hf
      have hre : readE s k = 0 := by unfold readE; rw [if_pos hr, Int.toNat_natCast, if_pos hf]
      have hn' : a < 0 ∨ ((C.dat s.ws k).length : Int) ≤ a ∨ b.toNat = 0 := by
        rcases hn with h1 | h1 | h1 | h1
        · exact absurd hre h1
        · exact Or.inl h1
        · rw [Int.toNat_natCast] at h1; exact Or.inr (Or.inl h1)
        · exact Or.inr (Or.inr h1)
      obtain ⟨L, rfl, his, M, hF, hS, hok⟩ := h
      have HC : Hid _ := find_ok w L S s k his M hF hS hok hr hf
      have hk : L.is k = true := by rw [his]; exact hf
      have hcb := M.cont k hk
      obtain ⟨p, c, hv, _⟩ := Own.part (M.dat k hk)
      rw [hv] at hcb
      have y0 := blk_cell hcb 0
      simp only [List.getElem?_toArray, List.getElem?_cons_zero] at y0
      generalize (C.dat s.ws k).length = n at *
      generalize L.c k = cb at *
      generalize L.g = g at *
      clear M hF hS hok hr hf his hk hv hcb hn hre h0
      by_cases ha : a < 0
      · clear hn'
        go_enter Tryz.func24, Tryz.ntmps24
        go_wp2_with fail
        refine Calls.mono HC.out ?_
        rintro e w1 ⟨rfl, hw⟩
        subst w1
        go_wp2
        go_ret
        exact ⟨rfl, rfl⟩
      by_cases ha2 : (n : Int) ≤ a
      · clear hn'
        go_enter Tryz.func24, Tryz.ntmps24
        go_wp2_with fail
        refine Calls.mono HC.out ?_
        rintro e w1 ⟨rfl, hw⟩
        subst w1
        go_wp2
        go_ret
        exact ⟨rfl, rfl⟩
      · have hb0 : b.toNat = 0 := by omega
        clear hn'
        rw [hb0]
        go_enter Tryz.func24, Tryz.ntmps24
        go_wp2_with fail
        refine Calls.mono HC.out ?_
        rintro e w1 ⟨rfl, hw⟩
        subst w1
        go_wp2
        go_ret
        exact ⟨rfl, rfl⟩
  · have HC : Hid _ := find_bad w g S s f (refE s f) h rfl hr
    generalize refE s f = r at *
    clear h hn
    go_enter Tryz.func24, Tryz.ntmps24
    go_wp2_with fail
    refine Calls.mono HC.out ?_
    rintro e w1 ⟨rfl, hw⟩
    subst w1
    go_wp2
    go_ret
    exact ⟨rfl, rfl⟩
end Go.Proofs.YtnhplbdbgiimkaaGreatDoor
