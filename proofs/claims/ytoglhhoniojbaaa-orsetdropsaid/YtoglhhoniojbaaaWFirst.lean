/-
  pack.first: the number that bytes begin with.
-/
import Derived.Test.YtoglhhoniojbaaaWWrite
namespace Go.Proofs.Ytoglhhoniojbaaa
open Go.RowKit Go.Lib
set_option linter.unusedVariables false

theorem and_not_more (x : UInt8) : bits .andNot .u8 (x.toNat : Int) 128 = ((x.toNat % 128 : Nat) : Int) := by
  have h := x.toNat_lt
  have := u8_andNot_nat x.toNat 128 h (by omega)
  have key : ∀ n, n < 256 → n &&& (255 - 128) = n % 128 := by decide +kernel
  rw [← key x.toNat h]
  exact this
theorem acc_lt {k acc y : Nat} (ha : acc < 128 ^ k) (hy : y < 128) : acc + y * 128 ^ k < 128 ^ (k + 1) := by
  rw [Nat.pow_succ, Nat.mul_comm (128 ^ k) 128]
  have : y * 128 ^ k ≤ 127 * 128 ^ k := Nat.mul_le_mul_right _ (by omega)
  omega
theorem or_group (k acc y : Nat) (hk : k ≤ 9) (ha : acc < 128 ^ k) (hy : y < 128) (h9 : k = 9 → y ≤ 1) :
    IntKind.u64.wrap ((y : Int) * 2 ^ (7 * k)) = ((y * 128 ^ k : Nat) : Int) ∧ bits .or .u64 (acc : Int) ((y * 128 ^ k : Nat) : Int) = ((acc + y * 128 ^ k : Nat) : Int) ∧ acc + y * 128 ^ k < 18446744073709551616 := by
  have hp : (128 : Nat) ^ k = 2 ^ (7 * k) := by rw [Nat.pow_mul]
  have hm : y * 128 ^ k + acc < 18446744073709551616 := by
    rcases Nat.lt_or_ge k 9 with h | h
    · have h1 : y * 128 ^ k + acc < 128 ^ (k + 1) := by
        rw [Nat.pow_succ, Nat.mul_comm (128 ^ k) 128]
        have : y * 128 ^ k ≤ 127 * 128 ^ k := Nat.mul_le_mul_right _ (by omega)
        omega
      have h2 : (128 : Nat) ^ (k + 1) ≤ 128 ^ 9 := Nat.pow_le_pow_right (by omega) (by omega)
      have h3 : (128 : Nat) ^ 9 = 9223372036854775808 := by decide
      omega
    · obtain rfl : k = 9 := by omega
      have := h9 rfl
      have h3 : (128 : Nat) ^ 9 = 9223372036854775808 := by decide
      rw [h3] at ha ⊢
      omega
  refine ⟨?_, ?_, by omega⟩
  · have e : ((y : Int) * 2 ^ (7 * k)) = ((y * 128 ^ k : Nat) : Int) := by rw [hp]; push_cast; rfl
    rw [e]
    exact wrap_u64_ge (by omega) (by omega)
  · have := u64_or_nat acc (y * 128 ^ k) (by omega) (by omega)
    rw [this]
    congr 1
    rw [hp] at ha ⊢
    rw [Nat.or_comm, Nat.add_comm, Nat.mul_comm]
    exact (Nat.two_pow_add_eq_or_of_lt ha y).symm
theorem unzig_bits (m : Nat) (hm : m < 18446744073709551616) : bits .xor .i64 (wrap64 ((m : Int) / 2)) (wrap64 (-wrap64 (bits .and .u64 (m : Int) 1))) = C.unzig m := by
  have ha : bits .and .u64 (m : Int) 1 = ((m % 2 : Nat) : Int) := by
    have := u64_and_nat m 1 hm (by omega)
    rw [Nat.and_one_is_mod] at this
    exact this
  have h1 : wrap64 ((m : Int) / 2) = ((m / 2 : Nat) : Int) := by
    have e : (m : Int) / 2 = ((m / 2 : Nat) : Int) := by omega
    rw [e]
    unfold wrap64; omega
  rw [ha, h1]
  unfold C.unzig
  rcases Nat.mod_two_eq_zero_or_one m with h | h
  · rw [h, if_pos rfl]
    have e : wrap64 (-wrap64 ((0 : Nat) : Int)) = 0 := by unfold wrap64; omega
    rw [e]
    show IntKind.i64.wrap ((BitVec.ofInt 64 ((m / 2 : Nat) : Int) ^^^ BitVec.ofInt 64 0).toNat : Int) = _
    rw [show BitVec.ofInt 64 0 = 0#64 from rfl, BitVec.xor_zero, ofInt_u64 _ (by omega), IntKind.wrap_i64]
    omega
  · rw [h, if_neg (by omega)]
    have e : wrap64 (-wrap64 ((1 : Nat) : Int)) = -1 := by unfold wrap64; omega
    rw [e]
    show IntKind.i64.wrap ((BitVec.ofInt 64 ((m / 2 : Nat) : Int) ^^^ BitVec.ofInt 64 (-1)).toNat : Int) = _
    rw [show BitVec.ofInt 64 (-1) = BitVec.allOnes 64 from rfl, BitVec.xor_allOnes, BitVec.toNat_not, ofInt_u64 _ (by omega), IntKind.wrap_i64]
    omega
theorem rawAt_none {i acc : Nat} {x : UInt8} {r : List UInt8} (h : (i = 9 ∧ 1 < x.toNat) ∨ (x.toNat = 0 ∧ 0 < i)) : C.rawAt i acc (x :: r) = none := by
  simp only [C.rawAt]
  rcases h with h | h
  · rw [if_pos h]
  · rw [if_neg (by omega), if_neg (by omega), if_pos h]
theorem rawAt_more {i acc : Nat} {x : UInt8} {r : List UInt8} (h : i ≠ 9) (hx : 128 ≤ x.toNat) : C.rawAt i acc (x :: r) = C.rawAt (i + 1) (acc + x.toNat % 128 * 128 ^ i) r := by
  simp only [C.rawAt]
  rw [if_neg (by omega), if_pos hx]
theorem rawAt_last {i acc : Nat} {x : UInt8} {r : List UInt8} (h : i = 9 → x.toNat ≤ 1) (hx : x.toNat < 128) (h0 : x.toNat = 0 → i = 0) : C.rawAt i acc (x :: r) = some (acc + x.toNat % 128 * 128 ^ i, i + 1) := by
  simp only [C.rawAt]
  rw [if_neg (by omega), if_neg (by omega), if_neg (by omega)]
theorem fst_none {l : List UInt8} (h : C.raw l = none) : C.fst l = (0, 0) := by unfold C.fst; rw [h]
theorem fst_some {l : List UInt8} {n k : Nat} (h : C.raw l = some (n, k)) : C.fst l = (C.unzig n, k) := by unfold C.fst; rw [h]
theorem ret_pair {j k : IntKind} {a b x y : Int} (h1 : a = x) (h2 : b = y) : Ending.returned (.tuple #[.int j a, .int k b]) = .returned (.tuple #[.int j x, .int k y]) := by rw [h1, h2]
theorem ret_none {l : List UInt8} (h : C.raw l = none) : Ending.returned (.tuple #[.int .i64 0, .int .i64 0]) = .returned (.tuple #[.int .i64 (C.fst l).1, .int .i64 ((C.fst l).2 : Nat)]) := by rw [fst_none h]; rfl
theorem ret_some {l : List UInt8} {q k : Nat} {a b : Int} (h : C.raw l = some (q, k)) (ha : a = C.unzig q) (hb : b = (k : Nat)) : Ending.returned (.tuple #[.int .i64 a, .int .i64 b]) = .returned (.tuple #[.int .i64 (C.fst l).1, .int .i64 ((C.fst l).2 : Nat)]) := by rw [fst_some h, ha, hb]
theorem two_pow_63 : (2 : Int) ^ (7 * 9) = 9223372036854775808 := by decide
end Go.Proofs.Ytoglhhoniojbaaa
