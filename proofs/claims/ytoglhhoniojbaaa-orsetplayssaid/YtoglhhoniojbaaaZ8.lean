/-
  Several texts in one: WWrite, WFirst, WReader, WTake.
-/
import Derived.Test.YtoglhhoniojbaaaBIs
import Derived.Test.YtoglhhoniojbaaaWGroups
namespace Go.Proofs.Ytoglhhoniojbaaa
open Go.RowKit Go.Lib
set_option linter.unusedVariables false

theorem groups_is (v : Int) (hv : C.fits v) (w : World) :
    Calls Try.prog 73 #[.int .i64 v] w fun e w' => (∃ p n c, e = .returned (.slice p n c) ∧ Is w' p n c (C.num v)) ∧ Below w.heap.size w w' := by
  refine (groups_any v hv w).mono ?_
  rintro e w' ⟨⟨x, rfl, ho⟩, hb⟩
  obtain ⟨p, n, c, rfl, hi⟩ := Own.is ho
  exact ⟨⟨p, n, c, rfl, hi⟩, hb⟩
/-- slices.Concat of two rows, of three, in a row just laid. -/
theorem concat_two (p1 : Option Addr) (n1 c1 : Nat) (l1 : List UInt8) (p2 : Option Addr) (n2 c2 : Nat) (l2 : List UInt8) (B cap : Nat) (w : World) (hB : B = w.heap.size) (h1 : Is w p1 n1 c1 l1) (h2 : Is w p2 n2 c2 l2) (hl : l1.length + l2.length ≤ 100000) :
    Calls Try.prog 53 #[.slice (some ⟨B, 0, none⟩) 2 cap] (w.alloc (.cells #[.slice p1 n1 c1, .slice p2 n2 c2] 33)) fun e w' => (∃ p n c, e = .returned (.slice p n c) ∧ Is w' p n c (l1 ++ l2)) ∧ Below w.heap.size w w' := by
  obtain ⟨rfl, k1⟩ := h1
  obtain ⟨rfl, k2⟩ := h2
  refine (concat_new w [⟨p1, l1, c1⟩, ⟨p2, l2, c2⟩] 2 B cap _ (l1 ++ l2) hB rfl rfl (by simp) (ok_cons k1 (ok_one k2)) (Nat.le_trans (by simpa [joined] using hl) (by decide)) (by simp [joined])).mono ?_
  rintro e w' ⟨⟨x, rfl, ho⟩, hb⟩
  obtain ⟨p, n, c, rfl, hi⟩ := Own.is ho
  exact ⟨⟨p, n, c, rfl, hi⟩, hb⟩
theorem concat_three (p1 : Option Addr) (n1 c1 : Nat) (l1 : List UInt8) (p2 : Option Addr) (n2 c2 : Nat) (l2 : List UInt8) (p3 : Option Addr) (n3 c3 : Nat) (l3 : List UInt8) (B cap : Nat) (w : World) (hB : B = w.heap.size) (h1 : Is w p1 n1 c1 l1) (h2 : Is w p2 n2 c2 l2) (h3 : Is w p3 n3 c3 l3) (hl : l1.length + (l2.length + l3.length) ≤ 100000) :
    Calls Try.prog 53 #[.slice (some ⟨B, 0, none⟩) 3 cap] (w.alloc (.cells #[.slice p1 n1 c1, .slice p2 n2 c2, .slice p3 n3 c3] 33)) fun e w' => (∃ p n c, e = .returned (.slice p n c) ∧ Is w' p n c (l1 ++ (l2 ++ l3))) ∧ Below w.heap.size w w' := by
  obtain ⟨rfl, k1⟩ := h1
  obtain ⟨rfl, k2⟩ := h2
  obtain ⟨rfl, k3⟩ := h3
  refine (concat_new w [⟨p1, l1, c1⟩, ⟨p2, l2, c2⟩, ⟨p3, l3, c3⟩] 3 B cap _ (l1 ++ (l2 ++ l3)) hB rfl rfl (by simp) (ok_cons k1 (ok_cons k2 (ok_one k3))) (Nat.le_trans (by simpa [joined] using hl) (by decide)) (by simp [joined])).mono ?_
  rintro e w' ⟨⟨x, rfl, ho⟩, hb⟩
  obtain ⟨p, n, c, rfl, hi⟩ := Own.is ho
  exact ⟨⟨p, n, c, rfl, hi⟩, hb⟩
set_option maxHeartbeats 1000000 in
theorem num_any (pb : Option Addr) (nb cb : Nat) (lb : List UInt8) (v : Int) (w : World) (hb : Is w pb nb cb lb) (hv : C.fits v) (hl : lb.length ≤ 90000) :
    Calls Try.prog 51 #[.slice pb nb cb, .int .i64 v] w fun e w' => (∃ p n c, e = .returned (.slice p n c) ∧ Is w' p n c (lb ++ C.num v)) ∧ Below w.heap.size w w' := by
  have HB : Hid (Is w pb nb cb lb) := hb
  have HL : Hid (lb.length + (C.num v).length ≤ 100000) := by
    have := (C.num_ten hv).2
    show _ ≤ _
    omega
  clear hb
  go_enter Try.func51, Try.ntmps51
  go_wp2_with fail
  refine (groups_is v hv w).mono ?_
  rintro e w1 ⟨⟨p1, n1, c1, rfl, hi1⟩, h1⟩
  have HI1 : Hid (Is w1 p1 n1 c1 (C.num v)) := hi1
  clear hi1
  go_wp2_with fail
  refine (concat_two pb nb cb lb p1 n1 c1 (C.num v) _ _ w1 rfl (Is.below HB.out h1) HI1.out HL.out).mono ?_
  rintro e w2 ⟨⟨p2, n2, c2, rfl, hi2⟩, h2⟩
  have HI2 : Hid (Is w2 p2 n2 c2 (lb ++ C.num v)) := hi2
  clear hi2
  go_wp2
  go_ret
  exact ⟨⟨_, _, _, rfl, HI2.out⟩, bt h1 h2⟩
set_option maxHeartbeats 1000000 in
theorem bytes_any (pb : Option Addr) (nb cb : Nat) (lb : List UInt8) (px : Option Addr) (nx cx : Nat) (lx : List UInt8) (w : World) (hb : Is w pb nb cb lb) (hx : Is w px nx cx lx) (hl : lb.length ≤ 40000) (hlx : lx.length ≤ 40000) :
    Calls Try.prog 85 #[.slice pb nb cb, .slice px nx cx] w fun e w' => (∃ p n c, e = .returned (.slice p n c) ∧ Is w' p n c (lb ++ C.byt lx)) ∧ Below w.heap.size w w' := by
  have HB : Hid (Is w pb nb cb lb) := hb
  have HX : Hid (Is w px nx cx lx) := hx
  have hn := hx.1
  have HV : Hid (C.fits (nx : Int)) := ⟨by omega, by omega⟩
  have HE : Hid (lb ++ (C.num (nx : Int) ++ lx) = lb ++ C.byt lx) := by show _ = _; rw [hn]; rfl
  have HL : Hid (lb.length + ((C.num (nx : Int)).length + lx.length) ≤ 100000) := by
    have := (C.num_ten HV.out).2
    show _ ≤ _
    omega
  clear hb hx hn
  go_enter Try.func85, Try.ntmps85
  go_wp2_with fail
  refine (groups_is (nx : Int) HV.out w).mono ?_
  rintro e w1 ⟨⟨p1, n1, c1, rfl, hi1⟩, h1⟩
  have HI1 : Hid (Is w1 p1 n1 c1 (C.num (nx : Int))) := hi1
  clear hi1
  go_wp2_with fail
  refine (concat_three pb nb cb lb p1 n1 c1 (C.num (nx : Int)) px nx cx lx _ _ w1 rfl (Is.below HB.out h1) HI1.out (Is.below HX.out h1) HL.out).mono ?_
  rintro e w2 ⟨⟨p2, n2, c2, rfl, hi2⟩, h2⟩
  have HI2 : Hid (Is w2 p2 n2 c2 (lb ++ C.byt lx)) := by rw [HE.out] at hi2; exact hi2
  clear hi2
  go_wp2
  go_ret
  exact ⟨⟨_, _, _, rfl, HI2.out⟩, bt h1 h2⟩
set_option maxHeartbeats 1000000 in
theorem text_any (pb : Option Addr) (nb cb : Nat) (lb : List UInt8) (s : ByteArray) (w : World) (hb : Is w pb nb cb lb) (hl : lb.length ≤ 40000) (hs : s.data.toList.length ≤ 40000) :
    Calls Try.prog 74 #[.slice pb nb cb, .string s] w fun e w' => (∃ p n c, e = .returned (.slice p n c) ∧ Is w' p n c (lb ++ C.byt s.data.toList)) ∧ Below w.heap.size w w' := by
  have HB : Hid (Is w pb nb cb lb) := hb
  have HS : Hid (s.data.toList.length ≤ 40000) := hs
  obtain ⟨p1, n1, c1, w1, hr, hi1, h1⟩ := conv_bytes w s (Nat.le_trans (show s.size ≤ 40000 from by simpa using hs) (by decide))
  have HI1 : Hid (Is w1 p1 n1 c1 s.data.toList) := hi1
  clear hb hi1 hs
  go_enter Try.func74, Try.ntmps74
  go_wp2_with fail
  refine (bytes_any pb nb cb lb p1 n1 c1 s.data.toList w1 (Is.below HB.out h1) HI1.out hl HS.out).mono ?_
  rintro e w2 ⟨⟨p2, n2, c2, rfl, hi2⟩, h2⟩
  have HI2 : Hid (Is w2 p2 n2 c2 (lb ++ C.byt s.data.toList)) := hi2
  clear hi2
  go_wp2
  go_ret
  exact ⟨⟨_, _, _, rfl, HI2.out⟩, bt h1 h2⟩
end Go.Proofs.Ytoglhhoniojbaaa

namespace Go.Proofs.Ytoglhhoniojbaaa
open Go.RowKit Go.Lib
set_option linter.unusedVariables false

theorem and_not_more (x : UInt8) : bits .andNot .u8 (x.toNat : Int) 128 = ((x.toNat % 128 : Nat) : Int) := by
  have h := x.toNat_lt
  have := u8_andNot_nat x.toNat 128 h (by omega)
  have key : ∀ n, n < 256 → n &&& (255 - 128) = n % 128 := by decide +kernel
  rw [← key x.toNat h]
  exact this
theorem acc_lt {k acc y : Nat} (ha : acc < 128 ^ k) (hy : y < 128) : acc + y * 128 ^ k < 128 ^ (k + 1) := by
  rw [Nat.pow_succ, Nat.mul_comm (128 ^ k) 128]
  have : y * 128 ^ k ≤ 127 * 128 ^ k := Nat.mul_le_mul_right _ (by omega)
  omega
theorem or_group (k acc y : Nat) (hk : k ≤ 9) (ha : acc < 128 ^ k) (hy : y < 128) (h9 : k = 9 → y ≤ 1) :
    IntKind.u64.wrap ((y : Int) * 2 ^ (7 * k)) = ((y * 128 ^ k : Nat) : Int) ∧ bits .or .u64 (acc : Int) ((y * 128 ^ k : Nat) : Int) = ((acc + y * 128 ^ k : Nat) : Int) ∧ acc + y * 128 ^ k < 18446744073709551616 := by
  have hp : (128 : Nat) ^ k = 2 ^ (7 * k) := by rw [Nat.pow_mul]
  have hm : y * 128 ^ k + acc < 18446744073709551616 := by
    rcases Nat.lt_or_ge k 9 with h | h
    · have h1 : y * 128 ^ k + acc < 128 ^ (k + 1) := by
        rw [Nat.pow_succ, Nat.mul_comm (128 ^ k) 128]
        have : y * 128 ^ k ≤ 127 * 128 ^ k := Nat.mul_le_mul_right _ (by omega)
        omega
      have h2 : (128 : Nat) ^ (k + 1) ≤ 128 ^ 9 := Nat.pow_le_pow_right (by omega) (by omega)
      have h3 : (128 : Nat) ^ 9 = 9223372036854775808 := by decide
      omega
    · obtain rfl : k = 9 := by omega
      have := h9 rfl
      have h3 : (128 : Nat) ^ 9 = 9223372036854775808 := by decide
      rw [h3] at ha ⊢
      omega
  refine ⟨?_, ?_, by omega⟩
  · have e : ((y : Int) * 2 ^ (7 * k)) = ((y * 128 ^ k : Nat) : Int) := by rw [hp]; push_cast; rfl
    rw [e]
    exact wrap_u64_ge (by omega) (by omega)
  · have := u64_or_nat acc (y * 128 ^ k) (by omega) (by omega)
    rw [this]
    congr 1
    rw [hp] at ha ⊢
    rw [Nat.or_comm, Nat.add_comm, Nat.mul_comm]
    exact (Nat.two_pow_add_eq_or_of_lt ha y).symm
theorem unzig_bits (m : Nat) (hm : m < 18446744073709551616) : bits .xor .i64 (wrap64 ((m : Int) / 2)) (wrap64 (-wrap64 (bits .and .u64 (m : Int) 1))) = C.unzig m := by
  have ha : bits .and .u64 (m : Int) 1 = ((m % 2 : Nat) : Int) := by
    have := u64_and_nat m 1 hm (by omega)
    rw [Nat.and_one_is_mod] at this
    exact this
  have h1 : wrap64 ((m : Int) / 2) = ((m / 2 : Nat) : Int) := by
    have e : (m : Int) / 2 = ((m / 2 : Nat) : Int) := by omega
    rw [e]
    unfold wrap64; omega
  rw [ha, h1]
  unfold C.unzig
  rcases Nat.mod_two_eq_zero_or_one m with h | h
  · rw [h, if_pos rfl]
    have e : wrap64 (-wrap64 ((0 : Nat) : Int)) = 0 := by unfold wrap64; omega
    rw [e]
    show IntKind.i64.wrap ((BitVec.ofInt 64 ((m / 2 : Nat) : Int) ^^^ BitVec.ofInt 64 0).toNat : Int) = _
    rw [show BitVec.ofInt 64 0 = 0#64 from rfl, BitVec.xor_zero, ofInt_u64 _ (by omega), IntKind.wrap_i64]
    omega
  · rw [h, if_neg (by omega)]
    have e : wrap64 (-wrap64 ((1 : Nat) : Int)) = -1 := by unfold wrap64; omega
    rw [e]
    show IntKind.i64.wrap ((BitVec.ofInt 64 ((m / 2 : Nat) : Int) ^^^ BitVec.ofInt 64 (-1)).toNat : Int) = _
    rw [show BitVec.ofInt 64 (-1) = BitVec.allOnes 64 from rfl, BitVec.xor_allOnes, BitVec.toNat_not, ofInt_u64 _ (by omega), IntKind.wrap_i64]
    omega
theorem rawAt_none {i acc : Nat} {x : UInt8} {r : List UInt8} (h : (i = 9 ∧ 1 < x.toNat) ∨ (x.toNat = 0 ∧ 0 < i)) : C.rawAt i acc (x :: r) = none := by
  simp only [C.rawAt]
  rcases h with h | h
  · rw [if_pos h]
  · rw [if_neg (by omega), if_neg (by omega), if_pos h]
theorem rawAt_more {i acc : Nat} {x : UInt8} {r : List UInt8} (h : i ≠ 9) (hx : 128 ≤ x.toNat) : C.rawAt i acc (x :: r) = C.rawAt (i + 1) (acc + x.toNat % 128 * 128 ^ i) r := by
  simp only [C.rawAt]
  rw [if_neg (by omega), if_pos hx]
theorem rawAt_last {i acc : Nat} {x : UInt8} {r : List UInt8} (h : i = 9 → x.toNat ≤ 1) (hx : x.toNat < 128) (h0 : x.toNat = 0 → i = 0) : C.rawAt i acc (x :: r) = some (acc + x.toNat % 128 * 128 ^ i, i + 1) := by
  simp only [C.rawAt]
  rw [if_neg (by omega), if_neg (by omega), if_neg (by omega)]
theorem fst_none {l : List UInt8} (h : C.raw l = none) : C.fst l = (0, 0) := by unfold C.fst; rw [h]
theorem fst_some {l : List UInt8} {n k : Nat} (h : C.raw l = some (n, k)) : C.fst l = (C.unzig n, k) := by unfold C.fst; rw [h]
theorem ret_pair {j k : IntKind} {a b x y : Int} (h1 : a = x) (h2 : b = y) : Ending.returned (.tuple #[.int j a, .int k b]) = .returned (.tuple #[.int j x, .int k y]) := by rw [h1, h2]
theorem ret_none {l : List UInt8} (h : C.raw l = none) : Ending.returned (.tuple #[.int .i64 0, .int .i64 0]) = .returned (.tuple #[.int .i64 (C.fst l).1, .int .i64 ((C.fst l).2 : Nat)]) := by rw [fst_none h]; rfl
theorem ret_some {l : List UInt8} {q k : Nat} {a b : Int} (h : C.raw l = some (q, k)) (ha : a = C.unzig q) (hb : b = (k : Nat)) : Ending.returned (.tuple #[.int .i64 a, .int .i64 b]) = .returned (.tuple #[.int .i64 (C.fst l).1, .int .i64 ((C.fst l).2 : Nat)]) := by rw [fst_some h, ha, hb]
theorem two_pow_63 : (2 : Int) ^ (7 * 9) = 9223372036854775808 := by decide
end Go.Proofs.Ytoglhhoniojbaaa

namespace Go.Proofs.Ytoglhhoniojbaaa
open Go.RowKit Go.Lib
set_option linter.unusedVariables false

/-- A block that holds no byte. -/
def NB (w : World) (g : Nat) : Prop := ∀ o x, w.cell? ⟨g, o, none⟩ ≠ some (.int .u8 x)
theorem BAt.grown {w w' : World} {p : Option Addr} {l : List UInt8} {g : Nat} (h : BAt w p l) (hg : w.grownBy w' (some g)) (hn : NB w g) : BAt w' p l := fun hl => by
  obtain ⟨b, o, hp, hc⟩ := h hl
  refine ⟨b, o, hp, fun i hi => ?_⟩
  refine World.grownBy.cell hg (hc i hi) ?_
  intro e
  cases e
  exact hn _ _ (hc i hi)
theorem Is.grown {w w' : World} {p : Option Addr} {n c : Nat} {l : List UInt8} {g : Nat} (h : Is w p n c l) (hg : w.grownBy w' (some g)) (hn : NB w g) : Is w' p n c l := ⟨h.1, h.2.1, h.2.2.grown hg hn⟩
theorem gtrans {A B C : World} {g : Nat} (h : A.grownBy B (some g)) (k : B.grownBy C (some g)) : A.grownBy C (some g) :=
  ⟨k.os.trans h.os, k.tape.trans h.tape, k.output.trans h.output, Nat.le_trans h.size k.size, fun i hi hne => (k.block i (Nat.lt_of_lt_of_le hi h.size) hne).trans (h.block i hi hne)⟩
theorem gbelow {A B : World} {r : Option Nat} (h : Below A.heap.size A B) : A.grownBy B r := ⟨h.os, h.tape, h.output, h.size, fun i hi _ => h.block i hi⟩
theorem set_grown (w : World) (g o : Nat) (v : Value) : w.grownBy (w.setCell ⟨g, o, none⟩ v) (some g) :=
  ⟨rfl, rfl, rfl, by simp [World.setCell], fun k hk hne => Below.heap_setCell _ _ _ _ (fun e => hne (by rw [e]))⟩
theorem set_block {w : World} {g o : Nat} {v : Value} {cs : Array Value} {t : TypeId} {m : Nat × Nat} (h : w.heap[g]? = some (.cells cs t m)) : (w.setCell ⟨g, o, none⟩ v).heap[g]? = some (.cells (cs.setIfInBounds o v) t m) := by
  simp [World.setCell, Array.getElem?_modify, h]
theorem rnum_all (s : Option (List UInt8)) (a b : Int) : C.rnum s a b = if (C.fst (s.getD [])).2 = 0 ∨ (C.fst (s.getD [])).1 < a ∨ b < (C.fst (s.getD [])).1 then (0, none) else ((C.fst (s.getD [])).1, some ((s.getD []).drop (C.fst (s.getD [])).2)) := by
  cases s with
  | none => simp only [C.rnum, Option.getD_none]; rw [if_pos (Or.inl (show (C.fst []).2 = 0 from rfl))]
  | some l => rfl
theorem Is.drop {w : World} {b o n c : Nat} {l : List UInt8} (h : Is w (some ⟨b, o, none⟩) n c l) (k c' : Nat) : Is w (some ⟨b, o + k, none⟩) (n - k) c' (l.drop k) := by
  refine ⟨by rw [List.length_drop, h.1], by have := h.2.1; simp only [List.length_drop] at *; omega, fun hl => ?_⟩
  simp only [List.length_drop] at hl
  obtain ⟨b', o', hp, hc⟩ := h.2.2 (show 0 < l.length by omega)
  cases hp
  refine ⟨b, o + k, rfl, fun i hi => ?_⟩
  simp only [List.length_drop] at hi
  rw [Nat.add_assoc, hc (k + i) (show k + i < l.length by omega)]
  simp [List.getD]
theorem Is.drop_all {w : World} {p : Option Addr} {n c : Nat} {l : List UInt8} (h : Is w p n c l) (k c' : Nat) (hk : n ≤ k) : Is w p (n - k) c' (l.drop k) := by
  have hl : l.drop k = [] := List.drop_of_length_le (by rw [← h.1]; exact hk)
  rw [hl]
  exact ⟨by simp; omega, Nat.zero_le _, BAt.nil _ _⟩
theorem Is.take {w : World} {p : Option Addr} {n c : Nat} {l : List UInt8} (h : Is w p n c l) (k c' : Nat) (hk : k ≤ n) : Is w p k c' (l.take k) := by
  refine ⟨by rw [List.length_take, ← h.1]; omega, by have := h.2.1; simp only [List.length_take] at *; omega, fun hl => ?_⟩
  simp only [List.length_take] at hl
  obtain ⟨b', o', hp, hc⟩ := h.2.2 (show 0 < l.length by omega)
  refine ⟨b', o', hp, fun i hi => ?_⟩
  simp only [List.length_take] at hi
  rw [hc i (show i < l.length by omega)]
  simp [List.getD, show i < k by omega]
theorem Is.addr {w : World} {p : Option Addr} {n c : Nat} {l : List UInt8} (h : Is w p n c l) (hn : 0 < n) : ∃ b o, p = some ⟨b, o, none⟩ := by
  obtain ⟨b, o, hp, _⟩ := h.2.2 (by rw [← h.1]; exact hn)
  exact ⟨b, o, hp⟩
end Go.Proofs.Ytoglhhoniojbaaa

namespace Go.Proofs.Ytoglhhoniojbaaa
open Go.RowKit Go.Lib
set_option linter.unusedVariables false

theorem rnum_zero (s : Option (List UInt8)) (b : Int) : 0 ≤ (C.rnum s 0 b).1 ∧ ((C.rnum s 0 b).2 = none → (C.rnum s 0 b).1 = 0) := by
  rw [rnum_all]
  split
  · exact ⟨Int.le_refl _, fun _ => rfl⟩
  · exact ⟨by omega, fun h => by cases h⟩
theorem rnum_len (s : Option (List UInt8)) (a b : Int) : ((C.rnum s a b).2.getD []).length ≤ (s.getD []).length := by
  rw [rnum_all]
  split
  · exact Nat.zero_le _
  · simp only [Option.getD_some, List.length_drop]; omega
theorem rbytes_all (s : Option (List UInt8)) (m v : Int) (s1 : Option (List UInt8)) (h : C.rnum s 0 m = (v, s1)) : C.rbytes s m = if ((s1.getD []).length : Int) < v then ([], none) else ((s1.getD []).take v.toNat, s1.map fun l => l.drop v.toNat) := by
  have h0 := rnum_zero s m
  rw [h] at h0
  unfold C.rbytes
  rw [h]
  cases s1 with
  | none =>
    have := h0.2 rfl
    simp only at this
    subst this
    simp
  | some l => simp
theorem rbytes_len (s : Option (List UInt8)) (m : Int) : (C.rbytes s m).1.length ≤ (s.getD []).length ∧ ((C.rbytes s m).2.getD []).length ≤ (s.getD []).length := by
  have h1 := rnum_len s 0 m
  obtain ⟨v, s1, hr⟩ : ∃ v s1, C.rnum s 0 m = (v, s1) := ⟨_, _, rfl⟩
  rw [hr] at h1
  rw [rbytes_all s m v s1 hr]
  by_cases h : ((s1.getD []).length : Int) < v
  · rw [if_pos h]; exact ⟨Nat.zero_le _, Nat.zero_le _⟩
  · rw [if_neg h]
    refine ⟨by simp only [List.length_take] at *; omega, ?_⟩
    cases s1 with
    | none => exact Nat.zero_le _
    | some l => simp only [Option.map_some, Option.getD_some, List.length_drop] at *; omega
end Go.Proofs.Ytoglhhoniojbaaa
