/-
  orset.put: a text and its dots, written.
-/
import Derived.Test.YtoglhhoniojbaaaOAll
import Derived.Test.YtoglhhoniojbaaaTPut
namespace Go.Proofs.Ytoglhhoniojbaaa
open Go.RowKit Go.Lib
set_option linter.unusedVariables false

namespace C
/-- A text's bytes and its dots'. -/
def rowB (x : Tx) (l : List Dt) : List UInt8 := (byt x.data.toList ++ num (l.length : Nat)) ++ dbytes l
theorem byt_len {l : List UInt8} {m : Nat} (h : l.length ≤ m) (hm : m ≤ 40000) : (byt l).length ≤ m + 10 := by
  have h1 := (num_ten (show fits (l.length : Int) from ⟨by omega, by omega⟩)).2
  show (num (l.length : Int) ++ l).length ≤ _
  rw [List.length_append]
  omega
theorem rowB_len {x : Tx} {l : List Dt} (hx : x.size ≤ 100) (hm : ∀ d ∈ l, may d = true) (hl : l.length ≤ 1000) : (rowB x l).length ≤ 120 + l.length * 20 := by
  have h1 := (num_ten (show fits (l.length : Int) from ⟨by omega, by omega⟩)).2
  have h2 := dbytes_len l hm
  have h3 := byt_len (l := x.data.toList) (m := 100) (by simpa using hx) (by omega)
  unfold rowB
  rw [List.length_append, List.length_append]
  omega
end C
set_option maxRecDepth 100000 in
set_option maxHeartbeats 8000000 in
theorem oput_any (w : World) (x : Tx) (v : Value) (l : List C.Dt) (h : OwnD w v l) (hm : ∀ d ∈ l, C.may d = true) (hl : l.length ≤ 1000) (hx : x.size ≤ 100) :
    Calls Try.prog 52 #[.string x, v] w fun e w' => (∃ p n k, e = .returned (.slice p n k) ∧ Is w' p n k (C.rowB x l)) ∧ Below w.heap.size w w' := by
  have HD : Hid (OwnD w v l) := h
  have HMY : Hid (∀ d ∈ l, C.may d = true) := hm
  have HLL : Hid (l.length ≤ 1000) := hl
  have HX : Hid (x.data.toList.length ≤ 100) := by show _ ≤ _; simpa using hx
  have HRL : Hid ((C.rowB x l).length ≤ 120 + l.length * 20) := C.rowB_len hx hm hl
  obtain ⟨q, cp, hv⟩ := h.len
  subst hv
  obtain ⟨n, hn⟩ : ∃ n, n = l.length := ⟨_, rfl⟩
  have HN : Hid (n = l.length) := hn
  obtain ⟨bx, hbx⟩ : ∃ bx, bx = C.byt x.data.toList := ⟨_, rfl⟩
  have HBX : Hid (bx = [] ++ C.byt x.data.toList) := by show _ = _; rw [hbx]; rfl
  obtain ⟨nx, hnx⟩ : ∃ nx, nx = C.num (n : Nat) := ⟨_, rfl⟩
  have HNX : Hid (nx = [] ++ C.num (n : Nat)) := by show _ = _; rw [hnx]; rfl
  have HP : Hid (C.rowB x l = (bx ++ nx) ++ C.dbytes l) := by show _ = _; rw [hbx, hnx, hn]; rfl
  have HPL : Hid ((bx ++ nx).length ≤ 120) := by
    have h1 := (C.num_ten (show C.fits (n : Int) from ⟨by omega, by omega⟩)).2
    have h2 := C.byt_len HX.out (by omega)
    show _ ≤ _
    rw [List.length_append, hbx, hnx]; omega
  clear h hm hx hbx hnx
  rw [← hn] at hl
  rw [show l.length = n from hn.symm]
  clear hn
  go_enter Try.func52, Try.ntmps52
  go_wp2_with fail
  refine (text_any none 0 0 [] x w (Is.nil w) (by decide) (Nat.le_trans HX.out (by decide))).mono ?_
  rintro e w1 ⟨⟨p1, n1, c1, rfl, hi1⟩, hb1⟩
  rw [← HBX.out] at hi1
  have HI1 : Hid (Is w1 p1 n1 c1 bx) := hi1
  have HB1 : Hid (Below w.heap.size w w1) := hb1
  clear hi1 hb1
  go_wp2_with fail
  refine (num_at none 0 0 [] nx (n : Int) w1 (Is.nil w1) ⟨by omega, by omega⟩ (by decide) HNX.out).mono ?_
  rintro e w2 ⟨⟨p2, n2, c2, rfl, hi2⟩, hb2⟩
  obtain ⟨rfl, k1⟩ := Is.below HI1.out hb2
  obtain ⟨rfl, k2⟩ := hi2
  have HC : Hid _ := concat_new w2 [⟨p1, bx, c1⟩, ⟨p2, nx, c2⟩] 2 w2.heap.size 2 _ (bx ++ nx) rfl rfl rfl (by simp) (ok_cons k1 (ok_one k2)) (Nat.le_trans (by have := HPL.out; rw [List.length_append] at this; simpa [joined] using this) (show 120 ≤ _ by decide)) (by simp [joined])
  have HB2 : Hid (Below w.heap.size w w2) := bt HB1.out hb2
  clear k1 k2 hb2
  go_wp2_with fail
  refine Calls.mono HC.out ?_
  rintro e w3 ⟨⟨vt, rfl, ho⟩, hb3⟩
  obtain ⟨pre, hpre⟩ : ∃ pre, pre = bx ++ nx := ⟨_, rfl⟩
  rw [← hpre] at HPL HP ho
  have HO3 : Hid (Own w3 0 vt (pre ++ C.dbytes (l.take 0))) := by show Own _ _ _ _; simpa [C.dbytes] using ho.lower (Nat.zero_le _)
  have HF3 : Hid (∀ b, vt.ownBlock = some b → w.heap.size ≤ b) := fun b hb => Nat.le_trans HB2.out.size (ho.ge b hb)
  have HB3 : Hid (Below w.heap.size w w3) := bt HB2.out hb3
  clear ho hb3 hpre HB2 HB1 HC HI1 HBX HNX
  go_wp2_with fail
  go_loopw [5, 17] (fun s5 s17 wr => ∃ (k : Nat), s17 = .int .i64 k ∧ k ≤ n ∧ Hid (Own wr 0 s5 (pre ++ C.dbytes (l.take k))) ∧ Hid (∀ b, s5.ownBlock = some b → w.heap.size ≤ b) ∧ Hid (Below w.heap.size w wr)) (fun _ s17 _ => n - (intOf s17).toNat)
  case atStart => exact ⟨0, rfl, Nat.zero_le _, HO3.out, HF3.out, HB3.out⟩
  case round =>
    clear HO3 HF3 HB3
    obtain ⟨k, rfl, hkn, HO, HF2, HB⟩ := hrel
    by_cases hlt : k < n
    · obtain ⟨x, hx⟩ : ∃ x, l[k]? = some x := ⟨_, List.getElem?_eq_getElem (by have := HN.out; omega)⟩
      have hmx := HMY.out x (List.mem_of_getElem? hx)
      have HFX : Hid (C.fits x.1 ∧ C.fits x.2) := C.may_fits hmx
      have hrow := (HD.out.below HB.out)
      obtain ⟨gb, cap, hvs⟩ := hrow.at (by have := HN.out; omega)
      rw [← HN.out] at hvs
      cases hvs
      obtain ⟨a0, a1⟩ := OwnD.cell hrow k x hx
      have HDN : Hid (C.dbytes (l.take (k + 1)) = C.dbytes (l.take k) ++ (C.num x.1 ++ C.num x.2)) := by show _ = _; rw [C.take_snoc hx, C.dbytes_snoc]
      have HTL : Hid ((pre ++ C.dbytes (l.take k)).length ≤ 30000) := by
        have h1 := C.dbytes_len (l.take k) fun d hd => HMY.out d (List.mem_of_mem_take hd)
        have h2 := HPL.out
        have h3 := List.length_take_le k l
        show _ ≤ _
        rw [List.length_append]; omega
      obtain ⟨l1, e1⟩ : ∃ l1, l1 = [] ++ C.num x.1 := ⟨_, rfl⟩
      obtain ⟨l2, e2⟩ : ∃ l2, l2 = l1 ++ C.num x.2 := ⟨_, rfl⟩
      have HL1 : Hid (l1.length ≤ 10) := by show _ ≤ _; rw [e1]; exact (C.num_ten HFX.out.1).2
      have HL2 : Hid (l2.length ≤ 20) := by have h1 := HL1.out; have h2 := (C.num_ten HFX.out.2).2; show _ ≤ _; rw [e2, List.length_append]; omega
      have HL12 : Hid (C.num x.1 ++ C.num x.2 = l2) := by show _ = l2; rw [e2, e1]; rfl
      have E1 : Hid (l1 = [] ++ C.num x.1) := e1
      have E2 : Hid (l2 = l1 ++ C.num x.2) := e2
      clear hrow hx hmx e1 e2
      obtain ⟨d1, d2⟩ := x
      simp only at a0 a1
      obtain ⟨W1, hW1⟩ : ∃ W1, W1 = wr.alloc (.cells #[.int .i64 d1, .int .i64 d2] 31) := ⟨_, rfl⟩
      have HB1 : Hid (Below wr.heap.size wr W1) := by show Below _ _ _; rw [hW1]; exact below_new _ _
      have HD1 : Hid (W1.heap[wr.heap.size]? = some (.cells #[.int .i64 d1, .int .i64 d2] 31)) := by show _ = _; rw [hW1]; exact heap_alloc_new _ _
      have HSD : Hid (∀ w', Below W1.heap.size W1 w' → w'.cell? ⟨wr.heap.size, 0, none⟩ = some (.int .i64 d1) ∧ w'.cell? ⟨wr.heap.size, 1, none⟩ = some (.int .i64 d2)) := fun w' hb => box2 (keep_on hb HD1.out)
      have HOB : Hid (∀ w', Below W1.heap.size W1 w' → Own w' 0 u5 (pre ++ C.dbytes (l.take k))) := fun w' hb => HO.out.below (bt HB1.out hb)
      go_wp2_with fail
      rw [← hW1]
      clear a0 a1 hW1
      go_region_held_law (fun w' => w'.cell? ⟨wr.heap.size, 0, none⟩ = some (.int .i64 d1) ∧ w'.cell? ⟨wr.heap.size, 1, none⟩ = some (.int .i64 d2))
        ((first | assumption | (refine HSD.out _ ?_; repeat (first | assumption | exact Below.refl _ _ | refine Below.drew ?_))))
        (first
        | (go_at_call 51; refine (num_at none 0 0 [] l1 d1 _ (Is.nil _) HFX.out.1 (by decide) E1.out).mono ?_; rintro e w3 ⟨⟨p3, n3, k3, rfl, hi3⟩, hb3⟩; have hB3 : Below W1.heap.size W1 w3 := bt ((Below.refl _ W1).drew) hb3; clear hb3)
        | (go_at_call 51; refine (num_at p3 n3 k3 l1 l2 d2 _ hi3 HFX.out.2 (by have := HL1.out; omega) E2.out).mono ?_; rintro e w4 ⟨⟨p4, n4, k4, rfl, hi4⟩, hb4⟩; have hB4 : Below W1.heap.size W1 w4 := bt hB3 hb4; clear hb4 hi3)
        | (obtain ⟨rfl, hk4⟩ := hi4; refine step_append_src Try.underlying33 info_u8 rfl (by decide) rfl _ _ rfl rfl (HOB.out _ hB4) rfl (Part.src hk4) (one_bytes _) (by have := HTL.out; have := HL2.out; simp only; unfold maxLen; omega) (by have := HTL.out; have := HL2.out; simp only; omega) ?_; intro v5 w5 ho5 hg5 hb5; have hS5 : w5.cell? ⟨wr.heap.size, 0, none⟩ = some (.int .i64 d1) ∧ w5.cell? ⟨wr.heap.size, 1, none⟩ = some (.int .i64 d2) := box2 ((hg5.block wr.heap.size (Array.getElem?_eq_some_iff.1 (keep_on hB4 HD1.out)).1 (fun e => by have := row_lt HO.out e.symm; omega)).trans (keep_on hB4 HD1.out)); have HO5 : Hid (Own w5 0 v5 (pre ++ C.dbytes (l.take k) ++ l2)) := (show Own w5 0 v5 _ from (by unfold Own; rw [List.length_append, ← bytesV_append]; exact ho5)); have HB5 : Hid (Below w.heap.size w w5) := Below.grown (bt HB.out (bt HB1.out hB4)) hg5 (bt HB.out (bt HB1.out hB4)).size HF2.out; have HF5 : Hid (∀ b, v5.ownBlock = some b → w.heap.size ≤ b) := (fun b hb => by rcases hb5 with h | h; exact HF2.out b (h.symm.trans hb); rw [h] at hb; cases hb; exact (bt HB.out (bt HB1.out hB4)).size); clear ho5 hg5 hb5 hB4 hk4))
      rename_i hHeld
      clear hHeld hS5
      go_wp2
      go_roundw
      case rel => exact ⟨k + 1, by go_num, by omega, by show Own _ _ _ _; rw [HDN.out, HL12.out, ← List.append_assoc]; exact HO5.out, HF5.out, HB5.out⟩
      case measure => simp [intOf]; omega
    · obtain rfl : k = n := by omega
      have htk : l.take k = l := List.take_of_length_le (by have := HN.out; omega)
      rw [htk, ← HP.out] at HO
      obtain ⟨p6, n6, c6, hv6, hi6⟩ := Own.is HO.out
      have HI6 : Hid (Is wr p6 n6 c6 (C.rowB x l)) := hi6
      subst hv6
      clear hi6 htk HO
      go_wp2
      go_ret
      exact ⟨⟨p6, n6, c6, rfl, HI6.out⟩, HB.out⟩
end Go.Proofs.Ytoglhhoniojbaaa
