/-
  disk.Disk: Spoil.
-/
import Derived.Test.YtlfcpgncgldieaaWDrop
namespace Go.Proofs.Ytlfcpgncgldieaa
namespace C
def spoL : List Wr → Nat → Nat → UInt8 → List Wr
  | [], _, _, _ => []
  | x :: r, f, a, b => if x.file = f then (if a < x.bytes.length then { x with bytes := x.bytes.set a (x.bytes.getD a 0 ^^^ b) } :: r else x :: spoL r f (a - x.bytes.length) b) else x :: spoL r f a b
def spoS (s : St) (f a : Nat) (b : UInt8) : St := { s with ws := spoL s.ws f a b }
/-- What a write is but for its bytes. -/
def keyW (x : Wr) : Nat × Nat × Nat × Bool := (x.num, x.file, x.bytes.length, x.safe)
theorem spo_keys : ∀ (ws : List Wr) (f a : Nat) (b : UInt8), (spoL ws f a b).map keyW = ws.map keyW
  | [], _, _, _ => rfl
  | x :: r, f, a, b => by
    rw [spoL]
    split
    · split
      · simp [keyW]
      · simp [spo_keys r]
    · simp [spo_keys r]
theorem spo_dat_same (f : Nat) (b : UInt8) : ∀ (ws : List Wr) (a : Nat), a < (dat ws f).length → dat (spoL ws f a b) f = (dat ws f).set a ((dat ws f).getD a 0 ^^^ b)
  | [], a, h => by simp [dat] at h
  | x :: r, a, h => by
    rw [spoL, dat]
    by_cases hf : x.file = f
    · simp only [dat, hf, if_true, List.length_append] at h ⊢
      by_cases ha : a < x.bytes.length
      · rw [if_pos ha, dat]
        simp only [if_true]
        rw [List.set_append_left _ _ ha]
        congr 2
        simp [List.getD, ha, List.getElem?_append_left ha]
      · rw [if_neg ha, dat]
        simp only [hf, if_true]
        rw [spo_dat_same f b r (a - x.bytes.length) (by omega), List.set_append_right _ _ (by omega)]
        congr 2
        simp [List.getD, List.getElem?_append_right (show x.bytes.length ≤ a by omega)]
    · simp only [dat, hf, if_false, List.nil_append] at h ⊢
      exact spo_dat_same f b r a h
theorem spo_dat_other {f k : Nat} (hk : k ≠ f) (b : UInt8) : ∀ (ws : List Wr) (a : Nat), dat (spoL ws f a b) k = dat ws k
  | [], a => rfl
  | x :: r, a => by
    rw [spoL, dat]
    by_cases hf : x.file = f
    · rw [if_pos hf]
      split
      · rw [dat, if_neg (fun e => hk (e.symm.trans hf)), if_neg (fun e => hk (e.symm.trans hf))]
      · rw [dat, spo_dat_other hk b r]
    · rw [if_neg hf, dat, spo_dat_other hk b r]
theorem of_keys_saf : ∀ (a b : List Wr), a.map keyW = b.map keyW → ∀ k, saf a k = saf b k
  | [], [], _, _ => rfl
  | [], y :: q, h, _ => by cases h
  | x :: p, [], h, _ => by cases h
  | x :: p, y :: q, h, k => by
    simp only [List.map_cons, List.cons.injEq] at h
    obtain ⟨h1, h2⟩ := h
    simp only [keyW, Prod.mk.injEq] at h1
    rw [saf, saf, of_keys_saf p q h2 k, h1.2.1, h1.2.2.1, h1.2.2.2]
theorem of_keys_used : ∀ (a b : List Wr), a.map keyW = b.map keyW → used a = used b
  | [], [], _ => rfl
  | [], y :: q, h => by cases h
  | x :: p, [], h => by cases h
  | x :: p, y :: q, h => by
    simp only [List.map_cons, List.cons.injEq] at h
    obtain ⟨h1, h2⟩ := h
    simp only [keyW, Prod.mk.injEq] at h1
    rw [used, used, of_keys_used p q h2, h1.2.2.1]
theorem of_keys_pof : ∀ (a b : List Wr), a.map keyW = b.map keyW → ∀ k, (pof a k).map keyW = (pof b k).map keyW
  | [], [], _, _ => rfl
  | [], y :: q, h, _ => by cases h
  | x :: p, [], h, _ => by cases h
  | x :: p, y :: q, h, k => by
    simp only [List.map_cons, List.cons.injEq] at h
    obtain ⟨h1, h2⟩ := h
    have ih := of_keys_pof p q h2 k
    have h1' := h1
    simp only [keyW, Prod.mk.injEq] at h1
    unfold pof at ih ⊢
    rw [List.filter_cons, List.filter_cons, h1.2.1, h1.2.2.2]
    split
    · rw [List.map_cons, List.map_cons, ih, h1']
    · exact ih
theorem spoS_ok {s : St} (h : s.Ok) (f a : Nat) (b : UInt8) : (spoS s f a b).Ok := by
  have hk := spo_keys s.ws f a b
  have hmem : ∀ x ∈ spoL s.ws f a b, ∃ y ∈ s.ws, y.num = x.num ∧ y.file = x.file := fun x hx => by
    have h1 : keyW x ∈ (spoL s.ws f a b).map keyW := List.mem_map.2 ⟨x, hx, rfl⟩
    rw [hk] at h1
    obtain ⟨y, hy, e⟩ := List.mem_map.1 h1
    simp only [keyW, Prod.mk.injEq] at e
    exact ⟨y, hy, e.1, e.2.1⟩
  refine ⟨h.room, h.files, fun x hx => ?_, ?_, fun x hx => ?_, ?_, ?_⟩
  · obtain ⟨y, hy, _, e⟩ := hmem x hx
    rw [← e]; exact h.has y hy
  · have h1 : ((spoL s.ws f a b).map keyW).Pairwise fun p q => p.1 < q.1 := by rw [hk]; exact List.pairwise_map.2 h.nums
    have := List.pairwise_map.1 h1
    exact this
  · obtain ⟨y, hy, e, _⟩ := hmem x hx
    rw [← e]; exact h.made y hy
  · have h1 : ((spoL s.ws f a b).map keyW).Pairwise fun p q => p.2.1 = q.2.1 → q.2.2.2 = true → p.2.2.2 = true := by rw [hk]; exact List.pairwise_map.2 h.ahead
    have := List.pairwise_map.1 h1
    exact this
  · show used (spoL s.ws f a b) ≤ s.room
    rw [of_keys_used _ _ hk]; exact h.used
end C
open Go.RowKit Go.Lib Go.Maps
open C (upd upd_same upd_other)
set_option linter.unusedVariables false

theorem rowW_keys : ∀ (a b : List C.Wr), a.map C.keyW = b.map C.keyW → rowW a = rowW b ∧ a.length = b.length
  | [], [], _ => ⟨rfl, rfl⟩
  | [], y :: q, h => by cases h
  | x :: p, [], h => by cases h
  | x :: p, y :: q, h => by
    simp only [List.map_cons, List.cons.injEq] at h
    obtain ⟨h1, h2⟩ := h
    obtain ⟨k1, k2⟩ := rowW_keys p q h2
    simp only [C.keyW, Prod.mk.injEq] at h1
    refine ⟨?_, by simp [k2]⟩
    have e1 : rowW (x :: p) = encW x ++ rowW p := rfl
    have e2 : rowW (y :: q) = encW y ++ rowW q := rfl
    rw [e1, e2, k1]
    congr 1
    unfold encW
    rw [h1.1, h1.2.1, h1.2.2.1]
theorem OwnW.keys {w : World} {v : Value} {a b : List C.Wr} (h : OwnW w v a) (hk : a.map C.keyW = b.map C.keyW) : OwnW w v b := by
  obtain ⟨h1, h2⟩ := rowW_keys a b hk
  unfold OwnW at h ⊢
  rw [← h1, ← h2]; exact h
theorem xor8n (x y : UInt8) : bits .xor .u8 (x.toNat : Int) (y.toNat : Int) = ((x ^^^ y).toNat : Nat) := by
  rw [u8_xor_nat _ _ x.toNat_lt y.toNat_lt, UInt8.toNat_xor]
set_option maxRecDepth 100000 in
set_option maxHeartbeats 4000000 in
theorem spoil_ok (w : World) (g : Nat) (S : Nat → Prop) (s : C.St) (f a : Nat) (b : UInt8) (h : Disk w g S s) (hr : refE s f = 0) (hf : s.is f = true) (ha : a < (C.dat s.ws f).length) (hb : b.toNat ≠ 0) :
    Calls Try.prog 12 #[.pointer (some ⟨g, 0, none⟩), .int .i64 (f : Nat), .int .i64 (a : Nat), .int .u8 (b.toNat : Nat)] w fun e w' => e = .returned (.bool true) ∧ Disk w' g S (C.spoS s f a b) ∧ Turn w w' S := by
  obtain ⟨L, rfl, his, M, hF, hS, hok⟩ := h
  have HC : Hid _ := find_ok w L S s f his M hF hS hok hr hf
  have hk : L.is f = true := by rw [his]; exact hf
  have hcb := M.cont f hk
  have ho := M.dat f hk
  obtain ⟨db, cc, hv, _⟩ := Own.shape ho (by omega)
  have hcb' := hcb
  rw [hv] at hcb' ho
  have y0 := blk_cell hcb' 0
  simp only [List.getElem?_toArray, List.getElem?_cons_zero] at y0
  obtain ⟨hc, hfz⟩ := Own.cell ho rfl a ha
  have hcap := Own.cap ho
  have hdl : (C.dat s.ws f).length ≤ 1048576 := by have := C.dat_le s.ws f; have := hok.used; have := hok.room; omega
  have hx := (((C.dat s.ws f).getD a 0)).toNat_lt
  have HXO : Hid (bits .xor .u8 (((C.dat s.ws f).getD a 0).toNat : Int) (b.toNat : Int) = (((C.dat s.ws f).getD a 0 ^^^ b).toNat : Nat)) := xor8n _ _
  have HFIN : Hid (Disk (w.setCell ⟨db, a, none⟩ (.int .u8 (((C.dat s.ws f).getD a 0 ^^^ b).toNat : Nat))) L.g S (C.spoS s f a b) ∧ Turn w (w.setCell ⟨db, a, none⟩ (.int .u8 (((C.dat s.ws f).getD a 0 ^^^ b).toNat : Nat))) S) := by
    have hdS : S db := hF _ (Or.inr (Or.inr ⟨f, hk, Or.inr (Or.inl (by rw [hv]; rfl))⟩))
    have hdc : ∀ j, L.is j = true → db ≠ L.c j := fun j hj => M.d_c hk hj (by rw [hv]; rfl)
    have ht : Turn w (w.setCell ⟨db, a, none⟩ (.int .u8 (((C.dat s.ws f).getD a 0 ^^^ b).toNat : Nat))) S := (Turn.refl w S).setCell hdS _
    refine ⟨⟨L, rfl, his, ?_, hF, fun b hb => Nat.lt_of_lt_of_le (hS b hb) ht.size, C.spoS_ok hok f a b⟩, ht⟩
    have M' := M.file hk (L.d f) (L.w f) (C.saf s.ws f) ((C.dat s.ws f).set a ((C.dat s.ws f).getD a 0 ^^^ b)) (C.pof s.ws f) (w' := w.setCell ⟨db, a, none⟩ (.int .u8 (((C.dat s.ws f).getD a 0 ^^^ b).toNat : Nat))) (fun b' _ _ h2 _ => set_other (fun e => h2 (by rw [hv, e]; rfl)))
      ((set_other (hdc f hk).symm).trans hcb) (by rw [hv]; exact Own.set ho rfl a _) (row_same (M.wr f hk) fun b' hb' => set_other (M.w_d hk hk hb' (by rw [hv]; rfl))) (Or.inl rfl) (Or.inl rfl)
    rw [Lay.file_self] at M'
    have hkk := C.spo_keys s.ws f a b
    have hh : headOf s = headOf (C.spoS s f a b) := by unfold headOf C.spoS; simp only; rw [C.of_keys_used _ _ hkk]
    rw [hh] at M'
    have M2 : DMem (w.setCell ⟨db, a, none⟩ (.int .u8 (((C.dat s.ws f).getD a 0 ^^^ b).toNat : Nat))) L s.made (headOf (C.spoS s f a b)) (C.saf (C.spoL s.ws f a b)) (C.dat (C.spoL s.ws f a b)) (C.pof s.ws) := by
      refine M'.congr (fun k _ => ?_) (fun k _ => ?_) (fun k _ => ?_)
      · rw [C.of_keys_saf _ _ hkk k]
        by_cases e : k = f
        · subst e; rw [upd_same]
        · rw [upd_other _ _ e]
      · by_cases e : k = f
        · subst e; rw [upd_same, C.spo_dat_same k b s.ws a ha]
        · rw [upd_other _ _ e, C.spo_dat_other e]
      · by_cases e : k = f
        · subst e; rw [upd_same]
        · rw [upd_other _ _ e]
    exact ⟨M2.blk, M2.map, M2.cont, M2.dat, fun k hk' => OwnW.keys (M2.wr k hk') (C.of_keys_pof _ _ hkk.symm k), M2.cinj, M2.dinj, M2.winj⟩
  generalize ((C.dat s.ws f).getD a 0 ^^^ b).toNat = z at *
  generalize ((C.dat s.ws f).getD a 0).toNat = x at *
  have hb2 := b.toNat_lt
  generalize b.toNat = y at *
  generalize (C.dat s.ws f).length = n at *
  generalize L.c f = cb at *
  generalize L.g = g at *
  have hy0 : ((y : Int) == 0) = false := by simpa using hb
  have hi1 : (a : Int) < (n : Int) := by omega
  have hi2 : decide ((n : Int) ≤ (a : Int)) = false := by simp; omega
  have hcm : cc ≤ 9223372036854775807 := Nat.le_trans hcap.2.2.1 (by decide)
  clear M hF hS hok hr hf his hk hv hcb hcb' ho hcap
  go_enter Try.func12, Try.ntmps12
  go_wp2_with fail
  refine Calls.mono HC.out ?_
  rintro e w1 ⟨rfl, hw⟩
  subst w1
  have hxo := HXO.out
  go_wp2
  go_ret
  exact ⟨rfl, HFIN.out⟩
/-- Why Spoil says no. -/
def spoN (s : C.St) (f a : Int) (b : UInt8) : Prop := readE s f ≠ 0 ∨ a < 0 ∨ (C.dat s.ws f.toNat).length ≤ a ∨ b.toNat = 0
set_option maxRecDepth 100000 in
set_option maxHeartbeats 4000000 in
theorem spoil_no (w : World) (g : Nat) (S : Nat → Prop) (s : C.St) (f a : Int) (b : UInt8) (h : Disk w g S s) (hn : spoN s f a b) :
    Calls Try.prog 12 #[.pointer (some ⟨g, 0, none⟩), .int .i64 f, .int .i64 a, .int .u8 (b.toNat : Nat)] w fun e w' => e = .returned (.bool false) ∧ w' = w := by
  by_cases hr : refE s f = 0
  · cases hf : s.is f.toNat with
    | false =>
      have HC : Hid _ := find_none w g S s f h hr hf
      clear h hr hf hn
      go_enter Try.func12, Try.ntmps12
      go_wp2_with fail
      refine Calls.mono HC.out ?_
      rintro e w1 ⟨rfl, hw⟩
      subst w1
      go_wp2
      go_ret
      exact ⟨rfl, rfl⟩
    | true =>
      have h0 := refE_zero hr
      obtain ⟨k, rfl⟩ : ∃ k : Nat, f = (k : Int) := ⟨f.toNat, by omega⟩
      rw [Int.toNat_natCast] at hf
      have hre : readE s k = 0 := by unfold readE; rw [if_pos hr, Int.toNat_natCast, if_pos hf]
      have hn' : a < 0 ∨ ((C.dat s.ws k).length : Int) ≤ a ∨ b.toNat = 0 := by
        rcases hn with h1 | h1 | h1 | h1
        · exact absurd hre h1
        · exact Or.inl h1
        · rw [Int.toNat_natCast] at h1; exact Or.inr (Or.inl h1)
        · exact Or.inr (Or.inr h1)
      obtain ⟨L, rfl, his, M, hF, hS, hok⟩ := h
      have HC : Hid _ := find_ok w L S s k his M hF hS hok hr hf
      have hk : L.is k = true := by rw [his]; exact hf
      have hcb := M.cont k hk
      obtain ⟨p, c, hv, _⟩ := Own.part (M.dat k hk)
      rw [hv] at hcb
      have y0 := blk_cell hcb 0
      simp only [List.getElem?_toArray, List.getElem?_cons_zero] at y0
      generalize (C.dat s.ws k).length = n at *
      generalize L.c k = cb at *
      generalize L.g = g at *
      clear M hF hS hok hr hf his hk hv hcb hn hre h0
      by_cases ha : a < 0
      · clear hn'
        go_enter Try.func12, Try.ntmps12
        go_wp2_with fail
        refine Calls.mono HC.out ?_
        rintro e w1 ⟨rfl, hw⟩
        subst w1
        go_wp2
        go_ret
        exact ⟨rfl, rfl⟩
      by_cases ha2 : (n : Int) ≤ a
      · clear hn'
        go_enter Try.func12, Try.ntmps12
        go_wp2_with fail
        refine Calls.mono HC.out ?_
        rintro e w1 ⟨rfl, hw⟩
        subst w1
        go_wp2
        go_ret
        exact ⟨rfl, rfl⟩
      · have hb0 : b.toNat = 0 := by omega
        clear hn'
        rw [hb0]
        go_enter Try.func12, Try.ntmps12
        go_wp2_with fail
        refine Calls.mono HC.out ?_
        rintro e w1 ⟨rfl, hw⟩
        subst w1
        go_wp2
        go_ret
        exact ⟨rfl, rfl⟩
  · have HC : Hid _ := find_bad w g S s f (refE s f) h rfl hr
    generalize refE s f = r at *
    clear h hn
    go_enter Try.func12, Try.ntmps12
    go_wp2_with fail
    refine Calls.mono HC.out ?_
    rintro e w1 ⟨rfl, hw⟩
    subst w1
    go_wp2
    go_ret
    exact ⟨rfl, rfl⟩
end Go.Proofs.Ytlfcpgncgldieaa
