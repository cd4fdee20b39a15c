/-
  dots.Dots.Put.
-/
import Derived.Test.YtadafllhionhhaaTArg
import Derived.Deep.RegionHeldLaw
namespace Go.Proofs.Ytadafllhionhhaa
open Go.RowKit Go.Lib
set_option linter.unusedVariables false

namespace C
def dbytes (l : List Dt) : List UInt8 := l.flatMap fun d => num d.1 ++ num d.2
def sbytes (s : Ds) : List UInt8 := vbytes s.c ++ (num (s.l.length : Nat) ++ dbytes s.l)
theorem dbytes_snoc (l : List Dt) (x : Dt) : dbytes (l ++ [x]) = dbytes l ++ (num x.1 ++ num x.2) := by simp [dbytes]
theorem may_fits {d : Dt} (h : may d = true) : fits d.1 ∧ fits d.2 := by
  have := (may_iff d).1 h
  unfold fits
  omega
theorem dbytes_len : ∀ (l : List Dt), (∀ d ∈ l, may d = true) → (dbytes l).length ≤ l.length * 20
  | [], _ => Nat.le_refl _
  | d :: t, h => by
    have e : dbytes (d :: t) = num d.1 ++ num d.2 ++ dbytes t := rfl
    have := dbytes_len t fun x hx => h x (List.mem_cons_of_mem _ hx)
    obtain ⟨h1, h2⟩ := may_fits (h d (List.mem_cons_self ..))
    have := (num_ten h1).2
    have := (num_ten h2).2
    rw [e]; simp only [List.length_append, List.length_cons]; omega
theorem vbytes_len {c : V7} (h : fits7 c) : (vbytes c).length ≤ 70 := by
  obtain ⟨h0, h1, h2, h3, h4, h5, h6⟩ := h
  have := (num_ten h0).2; have := (num_ten h1).2; have := (num_ten h2).2; have := (num_ten h3).2; have := (num_ten h4).2; have := (num_ten h5).2; have := (num_ten h6).2
  unfold vbytes
  simp only [List.length_append]
  omega
end C
set_option maxHeartbeats 1000000 in
theorem num_own (pb : Option Addr) (nb cb : Nat) (lb l' : List UInt8) (v : Int) (w : World) (hb : Is w pb nb cb lb) (hv : C.fits v) (hl : lb.length ≤ 90000) (hl' : l' = lb ++ C.num v) :
    Calls Try.prog 34 #[.slice pb nb cb, .int .i64 v] w fun e w' => (∃ x, e = .returned x ∧ Own w' w.heap.size x l') ∧ Below w.heap.size w w' := by
  subst hl'
  have HB : Hid (Is w pb nb cb lb) := hb
  have HL : Hid (lb.length + (C.num v).length ≤ 100000) := by
    have := (C.num_ten hv).2
    show _ ≤ _
    omega
  clear hb
  go_enter Try.func34, Try.ntmps34
  go_wp2_with fail
  refine (groups_is v hv w).mono ?_
  rintro e w1 ⟨⟨p1, n1, c1, rfl, hi1⟩, h1⟩
  have HI1 : Hid (Is w1 p1 n1 c1 (C.num v)) := hi1
  have HB1 : Hid (Below w.heap.size w w1) := h1
  clear hi1 h1
  obtain ⟨rfl, k1⟩ := Is.below HB.out HB1.out
  obtain ⟨rfl, k2⟩ := HI1.out
  have HC : Hid _ := concat_new w1 [⟨pb, lb, cb⟩, ⟨p1, C.num v, c1⟩] 2 w1.heap.size 2 _ (lb ++ C.num v) rfl rfl rfl (by simp) (ok_cons k1 (ok_one k2)) (Nat.le_trans (by simpa [joined] using HL.out) (by decide)) (by simp [joined])
  clear k1 k2
  go_wp2_with fail
  refine Calls.mono HC.out ?_
  rintro e w2 ⟨⟨x, rfl, ho⟩, h2⟩
  have HO : Hid (Own w2 w1.heap.size x (lb ++ C.num v)) := ho
  clear ho
  go_wp2
  go_ret
  exact ⟨⟨_, rfl, HO.out.lower HB1.out.size⟩, bt HB1.out h2⟩
set_option maxRecDepth 100000 in
set_option maxHeartbeats 8000000 in
theorem put_obj (w : World) (g : Nat) (c : V7) (v : Value) (l : List C.Dt) (pb : Option Addr) (nb cb : Nat) (lb : List UInt8) (h : DotsAt w g c v l) (hs : C.Ds.Ok ⟨c, l⟩) (hl : l.length ≤ 1000) (hb : Is w pb nb cb lb) (hlb : lb.length ≤ 50000) :
    Calls Try.prog 11 #[.pointer (some ⟨g, 0, none⟩), .slice pb nb cb] w fun e w' => (∃ p n k, e = .returned (.slice p n k) ∧ Is w' p n k (lb ++ C.sbytes ⟨c, l⟩)) ∧ Below w.heap.size w w' := by
  have HD : Hid (DotsAt w g c v l) := h
  have HS : Hid (C.Ds.Ok ⟨c, l⟩) := hs
  have HBI : Hid (Is w pb nb cb lb) := hb
  have HLL : Hid (l.length ≤ 1000) := hl
  have HLB : Hid (lb.length ≤ 50000) := hlb
  have HF : Hid (C.fits7 c) := good_fits hs.good
  have HVL : Hid ((C.vbytes c).length ≤ 70) := C.vbytes_len HF.out
  have HMY : Hid (∀ d ∈ l, C.may d = true) := fun d hd => C.far_may hs.good (hs.far d hd)
  obtain ⟨q, cp, hv⟩ := h.row.len
  subst hv
  obtain ⟨n, hn⟩ : ∃ n, n = l.length := ⟨_, rfl⟩
  have HN : Hid (n = l.length) := hn
  obtain ⟨pre, hpre⟩ : ∃ pre, pre = C.vbytes c ++ C.num (n : Nat) := ⟨_, rfl⟩
  have HP : Hid (pre = C.vbytes c ++ C.num (n : Nat)) := hpre
  have HPL : Hid (pre.length ≤ 80) := by
    have h1 := (C.num_ten (show C.fits (n : Int) from ⟨by omega, by omega⟩)).2
    have h2 := HVL.out
    show _ ≤ _
    rw [hpre, List.length_append]; omega
  have HSW : Hid (∀ w', Below w.heap.size w w' → w'.cell? ⟨g, 0, none⟩ = some (.int .i64 c.x0) ∧ w'.cell? ⟨g, 1, none⟩ = some (.int .i64 c.x1) ∧ w'.cell? ⟨g, 2, none⟩ = some (.int .i64 c.x2) ∧ w'.cell? ⟨g, 3, none⟩ = some (.int .i64 c.x3) ∧ w'.cell? ⟨g, 4, none⟩ = some (.int .i64 c.x4) ∧ w'.cell? ⟨g, 5, none⟩ = some (.int .i64 c.x5) ∧ w'.cell? ⟨g, 6, none⟩ = some (.int .i64 c.x6) ∧ w'.cell? ⟨g, 7, none⟩ = some (.slice q n cp)) := fun w' hb => by rw [hn]; exact cells8_at (HD.out.below hb).blk
  have HPV : Hid (∀ W, Calls Try.prog 35 #[.slice none 0 0, c.v] W fun e w' => (∃ p n k, e = .returned (.slice p n k) ∧ Is w' p n k (C.vbytes c)) ∧ Below W.heap.size W w') := fun W => put_nil (C.vbytes c) c W HF.out rfl
  clear h hs hb hpre hlb
  rw [← hn] at hl
  clear hn
  obtain ⟨x0, x1, x2, x3, x4, x5, x6⟩ := c
  simp only [V7.v] at HPV
  simp only at HSW
  go_enter Try.func11, Try.ntmps11
  go_wp2_with fail
  go_region_held_law (fun w' => w'.cell? ⟨g, 0, none⟩ = some (.int .i64 x0) ∧ w'.cell? ⟨g, 1, none⟩ = some (.int .i64 x1) ∧ w'.cell? ⟨g, 2, none⟩ = some (.int .i64 x2) ∧ w'.cell? ⟨g, 3, none⟩ = some (.int .i64 x3) ∧ w'.cell? ⟨g, 4, none⟩ = some (.int .i64 x4) ∧ w'.cell? ⟨g, 5, none⟩ = some (.int .i64 x5) ∧ w'.cell? ⟨g, 6, none⟩ = some (.int .i64 x6) ∧ w'.cell? ⟨g, 7, none⟩ = some (.slice q n cp))
    ((refine HSW.out _ ?_; repeat (first | assumption | exact Below.refl _ _ | refine Below.drew ?_)))
    (first
    | (go_at_call 35; refine (HPV.out _).mono ?_; rintro e w1 ⟨⟨p1, n1, k1, rfl, hi1⟩, hb1⟩; have hB1 : Below w.heap.size w w1 := bt ((Below.refl _ w).drew) hb1; clear hb1)
    | (go_at_call 34; refine (num_own p1 n1 k1 _ pre (n : Int) _ hi1 (⟨by omega, by omega⟩) (by have := HVL.out; omega) HP.out).mono ?_; rintro e w2 ⟨⟨vt, rfl, ho2⟩, hb2⟩; have hB2 : Below w.heap.size w w2 := bt hB1 hb2; have HO2 : Hid (Own w2 w1.heap.size vt pre) := ho2; have hW1 := hB1.size; have HW1 : Hid (w.heap.size ≤ w1.heap.size) := hW1; clear hb2 ho2 hi1 hB1 hW1))
  have HB2 : Hid (Below w.heap.size w w2) := hB2
  have HO3 : Hid (Own w2 0 vt (pre ++ C.dbytes (l.take 0))) := by show Own _ _ _ _; simpa [C.dbytes] using HO2.out.lower (Nat.zero_le _)
  have HF3 : Hid (∀ b, vt.ownBlock = some b → w.heap.size ≤ b) := fun b hb => Nat.le_trans HW1.out (HO2.out.ge b hb)
  have hc7 := (HSW.out _ HB2.out).2.2.2.2.2.2.2
  clear hB2 HO2 HW1
  rename_i hHeld
  clear hHeld
  go_wp2_with fail
  clear hc7
  go_loopw [5, 24] (fun s5 s24 wr => ∃ (k : Nat), s24 = .int .i64 k ∧ k ≤ n ∧ Hid (Own wr 0 s5 (pre ++ C.dbytes (l.take k))) ∧ Hid (∀ b, s5.ownBlock = some b → w.heap.size ≤ b) ∧ Hid (Below w.heap.size w wr)) (fun _ s24 _ => n - (intOf s24).toNat)
  case atStart => exact ⟨0, rfl, Nat.zero_le _, HO3.out, HF3.out, HB2.out⟩
  case round =>
    clear HO3 HF3 HB2
    obtain ⟨k, rfl, hkn, HO, HF2, HB⟩ := hrel
    by_cases hlt : k < n
    · obtain ⟨x, hx⟩ : ∃ x, l[k]? = some x := ⟨_, List.getElem?_eq_getElem (by have := HN.out; omega)⟩
      have hmx := HMY.out x (List.mem_of_getElem? hx)
      have HFX : Hid (C.fits x.1 ∧ C.fits x.2) := C.may_fits hmx
      have hrow := (HD.out.below HB.out).row
      obtain ⟨gb, cap, hvs⟩ := hrow.at (by have := HN.out; omega)
      rw [← HN.out] at hvs
      cases hvs
      obtain ⟨a0, a1⟩ := OwnD.cell hrow k x hx
      have HDN : Hid (C.dbytes (l.take (k + 1)) = C.dbytes (l.take k) ++ (C.num x.1 ++ C.num x.2)) := by show _ = _; rw [C.take_snoc hx, C.dbytes_snoc]
      have HTL : Hid ((pre ++ C.dbytes (l.take k)).length ≤ 30000) := by
        have h1 := C.dbytes_len (l.take k) fun d hd => HMY.out d (List.mem_of_mem_take hd)
        have h2 := HPL.out
        have h3 := List.length_take_le k l
        show _ ≤ _
        rw [List.length_append]; omega
      obtain ⟨l1, e1⟩ : ∃ l1, l1 = [] ++ C.num x.1 := ⟨_, rfl⟩
      obtain ⟨l2, e2⟩ : ∃ l2, l2 = l1 ++ C.num x.2 := ⟨_, rfl⟩
      have HL1 : Hid (l1.length ≤ 10) := by show _ ≤ _; rw [e1]; exact (C.num_ten HFX.out.1).2
      have HL2 : Hid (l2.length ≤ 20) := by have h1 := HL1.out; have h2 := (C.num_ten HFX.out.2).2; show _ ≤ _; rw [e2, List.length_append]; omega
      have HL12 : Hid (C.num x.1 ++ C.num x.2 = l2) := by show _ = l2; rw [e2, e1]; rfl
      have E1 : Hid (l1 = [] ++ C.num x.1) := e1
      have E2 : Hid (l2 = l1 ++ C.num x.2) := e2
      clear hrow hx hmx e1 e2
      obtain ⟨d1, d2⟩ := x
      simp only at a0 a1
      obtain ⟨W1, hW1⟩ : ∃ W1, W1 = wr.alloc (.cells #[.int .i64 d1, .int .i64 d2] 29) := ⟨_, rfl⟩
      have HB1 : Hid (Below wr.heap.size wr W1) := by show Below _ _ _; rw [hW1]; exact below_new _ _
      have HD1 : Hid (W1.heap[wr.heap.size]? = some (.cells #[.int .i64 d1, .int .i64 d2] 29)) := by show _ = _; rw [hW1]; exact heap_alloc_new _ _
      have HSD : Hid (∀ w', Below W1.heap.size W1 w' → w'.cell? ⟨wr.heap.size, 0, none⟩ = some (.int .i64 d1) ∧ w'.cell? ⟨wr.heap.size, 1, none⟩ = some (.int .i64 d2)) := fun w' hb => box2 (keep_on hb HD1.out)
      have HOB : Hid (∀ w', Below W1.heap.size W1 w' → Own w' 0 u5 (pre ++ C.dbytes (l.take k))) := fun w' hb => HO.out.below (bt HB1.out hb)
      go_wp2_with fail
      rw [← hW1]
      clear a0 a1 hW1
      go_region_held_law (fun w' => w'.cell? ⟨wr.heap.size, 0, none⟩ = some (.int .i64 d1) ∧ w'.cell? ⟨wr.heap.size, 1, none⟩ = some (.int .i64 d2))
        ((first | assumption | (refine HSD.out _ ?_; repeat (first | assumption | exact Below.refl _ _ | refine Below.drew ?_))))
        (first
        | (go_at_call 34; refine (num_at none 0 0 [] l1 d1 _ (Is.nil _) HFX.out.1 (by decide) E1.out).mono ?_; rintro e w3 ⟨⟨p3, n3, k3, rfl, hi3⟩, hb3⟩; have hB3 : Below W1.heap.size W1 w3 := bt ((Below.refl _ W1).drew) hb3; clear hb3)
        | (go_at_call 34; refine (num_at p3 n3 k3 l1 l2 d2 _ hi3 HFX.out.2 (by have := HL1.out; omega) E2.out).mono ?_; rintro e w4 ⟨⟨p4, n4, k4, rfl, hi4⟩, hb4⟩; have hB4 : Below W1.heap.size W1 w4 := bt hB3 hb4; clear hb4 hi3)
        | (obtain ⟨rfl, hk4⟩ := hi4; refine step_append_src Try.underlying30 info_u8 rfl (by decide) rfl _ _ rfl rfl (HOB.out _ hB4) rfl (Part.src hk4) (one_bytes _) (by have := HTL.out; have := HL2.out; simp only; unfold maxLen; omega) (by have := HTL.out; have := HL2.out; simp only; omega) ?_; intro v5 w5 ho5 hg5 hb5; have hS5 : w5.cell? ⟨wr.heap.size, 0, none⟩ = some (.int .i64 d1) ∧ w5.cell? ⟨wr.heap.size, 1, none⟩ = some (.int .i64 d2) := box2 ((hg5.block wr.heap.size (Array.getElem?_eq_some_iff.1 (keep_on hB4 HD1.out)).1 (fun e => by have := row_lt HO.out e.symm; omega)).trans (keep_on hB4 HD1.out)); have HO5 : Hid (Own w5 0 v5 (pre ++ C.dbytes (l.take k) ++ l2)) := (show Own w5 0 v5 _ from (by unfold Own; rw [List.length_append, ← bytesV_append]; exact ho5)); have HB5 : Hid (Below w.heap.size w w5) := Below.grown (bt HB.out (bt HB1.out hB4)) hg5 (bt HB.out (bt HB1.out hB4)).size HF2.out; have HF5 : Hid (∀ b, v5.ownBlock = some b → w.heap.size ≤ b) := (fun b hb => by rcases hb5 with h | h; exact HF2.out b (h.symm.trans hb); rw [h] at hb; cases hb; exact (bt HB.out (bt HB1.out hB4)).size); clear ho5 hg5 hb5 hB4 hk4))
      rename_i hHeld
      clear hHeld hS5
      go_wp2
      go_roundw
      case rel => exact ⟨k + 1, by go_num, by omega, by show Own _ _ _ _; rw [HDN.out, HL12.out, ← List.append_assoc]; exact HO5.out, HF5.out, HB5.out⟩
      case measure => simp [intOf]; omega
    · obtain rfl : k = n := by omega
      have htk : l.take k = l := List.take_of_length_le (by have := HN.out; omega)
      rw [htk] at HO
      obtain ⟨p6, n6, c6, hv6, hi6⟩ := Own.is HO.out
      have HI6 : Hid (Is wr p6 n6 c6 (pre ++ C.dbytes l)) := hi6
      subst hv6
      have HTL : Hid ((pre ++ C.dbytes l).length ≤ 30000) := by
        have h1 := C.dbytes_len l HMY.out
        have h2 := HPL.out
        have h3 := HLL.out
        show _ ≤ _
        rw [List.length_append]; omega
      clear hi6 htk HO
      go_wp2_with fail
      refine (concat_two pb nb cb lb p6 n6 c6 (pre ++ C.dbytes l) _ _ wr rfl (Is.below HBI.out HB.out) HI6.out (by have := HTL.out; have := HLB.out; omega)).mono ?_
      rintro e w7 ⟨⟨p7, n7, c7, rfl, hi7⟩, hb7⟩
      have HI7 : Hid _ := hi7
      have HB7 : Hid (Below w.heap.size w w7) := bt HB.out hb7
      clear hi7 hb7
      go_wp2
      go_ret
      refine ⟨⟨p7, n7, c7, rfl, ?_⟩, HB7.out⟩
      have h := HI7.out
      rw [HP.out, HN.out, List.append_assoc] at h
      exact h
end Go.Proofs.Ytadafllhionhhaa
