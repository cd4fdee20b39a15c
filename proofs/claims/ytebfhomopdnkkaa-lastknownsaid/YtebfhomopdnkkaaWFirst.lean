/-
  pack.first: the number that bytes begin with.
-/
import Derived.Test.YtebfhomopdnkkaaWWrite
namespace Go.Proofs.Ytebfhomopdnkkaa
open Go.RowKit Go.Lib
set_option linter.unusedVariables false

theorem and_not_more (x : UInt8) : bits .andNot .u8 (x.toNat : Int) 128 = ((x.toNat % 128 : Nat) : Int) := by
  have h := x.toNat_lt
  have := u8_andNot_nat x.toNat 128 h (by omega)
  have key : ∀ n, n < 256 → n &&& (255 - 128) = n % 128 := by decide +kernel
  rw [← key x.toNat h]
  exact this
theorem acc_lt {k acc y : Nat} (ha : acc < 128 ^ k) (hy : y < 128) : acc + y * 128 ^ k < 128 ^ (k + 1) := by
  rw [Nat.pow_succ, Nat.mul_comm (128 ^ k) 128]
  have : y * 128 ^ k ≤ 127 * 128 ^ k := Nat.mul_le_mul_right _ (by omega)
  omega
theorem or_group (k acc y : Nat) (hk : k ≤ 9) (ha : acc < 128 ^ k) (hy : y < 128) (h9 : k = 9 → y ≤ 1) :
    IntKind.u64.wrap ((y : Int) * 2 ^ (7 * k)) = ((y * 128 ^ k : Nat) : Int) ∧ bits .or .u64 (acc : Int) ((y * 128 ^ k : Nat) : Int) = ((acc + y * 128 ^ k : Nat) : Int) ∧ acc + y * 128 ^ k < 18446744073709551616 := by
  have hp : (128 : Nat) ^ k = 2 ^ (7 * k) := by rw [Nat.pow_mul]
  have hm : y * 128 ^ k + acc < 18446744073709551616 := by
    rcases Nat.lt_or_ge k 9 with h | h
    · have h1 : y * 128 ^ k + acc < 128 ^ (k + 1) := by
        rw [Nat.pow_succ, Nat.mul_comm (128 ^ k) 128]
        have : y * 128 ^ k ≤ 127 * 128 ^ k := Nat.mul_le_mul_right _ (by omega)
        omega
      have h2 : (128 : Nat) ^ (k + 1) ≤ 128 ^ 9 := Nat.pow_le_pow_right (by omega) (by omega)
      have h3 : (128 : Nat) ^ 9 = 9223372036854775808 := by decide
      omega
    · obtain rfl : k = 9 := by omega
      have := h9 rfl
      have h3 : (128 : Nat) ^ 9 = 9223372036854775808 := by decide
      rw [h3] at ha ⊢
      omega
  refine ⟨?_, ?_, by omega⟩
  · have e : ((y : Int) * 2 ^ (7 * k)) = ((y * 128 ^ k : Nat) : Int) := by rw [hp]; push_cast; rfl
    rw [e]
    exact wrap_u64_ge (by omega) (by omega)
  · have := u64_or_nat acc (y * 128 ^ k) (by omega) (by omega)
    rw [this]
    congr 1
    rw [hp] at ha ⊢
    rw [Nat.or_comm, Nat.add_comm, Nat.mul_comm]
    exact (Nat.two_pow_add_eq_or_of_lt ha y).symm
theorem unzig_bits (m : Nat) (hm : m < 18446744073709551616) : bits .xor .i64 (wrap64 ((m : Int) / 2)) (wrap64 (-wrap64 (bits .and .u64 (m : Int) 1))) = C.unzig m := by
  have ha : bits .and .u64 (m : Int) 1 = ((m % 2 : Nat) : Int) := by
    have := u64_and_nat m 1 hm (by omega)
    rw [Nat.and_one_is_mod] at this
    exact this
  have h1 : wrap64 ((m : Int) / 2) = ((m / 2 : Nat) : Int) := by
    have e : (m : Int) / 2 = ((m / 2 : Nat) : Int) := by omega
    rw [e]
    unfold wrap64; omega
  rw [ha, h1]
  unfold C.unzig
  rcases Nat.mod_two_eq_zero_or_one m with h | h
  · rw [h, if_pos rfl]
    have e : wrap64 (-wrap64 ((0 : Nat) : Int)) = 0 := by unfold wrap64; omega
    rw [e]
    show IntKind.i64.wrap ((BitVec.ofInt 64 ((m / 2 : Nat) : Int) ^^^ BitVec.ofInt 64 0).toNat : Int) = _
    rw [show BitVec.ofInt 64 0 = 0#64 from rfl, BitVec.xor_zero, ofInt_u64 _ (by omega), IntKind.wrap_i64]
    omega
  · rw [h, if_neg (by omega)]
    have e : wrap64 (-wrap64 ((1 : Nat) : Int)) = -1 := by unfold wrap64; omega
    rw [e]
    show IntKind.i64.wrap ((BitVec.ofInt 64 ((m / 2 : Nat) : Int) ^^^ BitVec.ofInt 64 (-1)).toNat : Int) = _
    rw [show BitVec.ofInt 64 (-1) = BitVec.allOnes 64 from rfl, BitVec.xor_allOnes, BitVec.toNat_not, ofInt_u64 _ (by omega), IntKind.wrap_i64]
    omega
theorem rawAt_none {i acc : Nat} {x : UInt8} {r : List UInt8} (h : (i = 9 ∧ 1 < x.toNat) ∨ (x.toNat = 0 ∧ 0 < i)) : C.rawAt i acc (x :: r) = none := by
  simp only [C.rawAt]
  rcases h with h | h
  · rw [if_pos h]
  · rw [if_neg (by omega), if_neg (by omega), if_pos h]
theorem rawAt_more {i acc : Nat} {x : UInt8} {r : List UInt8} (h : i ≠ 9) (hx : 128 ≤ x.toNat) : C.rawAt i acc (x :: r) = C.rawAt (i + 1) (acc + x.toNat % 128 * 128 ^ i) r := by
  simp only [C.rawAt]
  rw [if_neg (by omega), if_pos hx]
theorem rawAt_last {i acc : Nat} {x : UInt8} {r : List UInt8} (h : i = 9 → x.toNat ≤ 1) (hx : x.toNat < 128) (h0 : x.toNat = 0 → i = 0) : C.rawAt i acc (x :: r) = some (acc + x.toNat % 128 * 128 ^ i, i + 1) := by
  simp only [C.rawAt]
  rw [if_neg (by omega), if_neg (by omega), if_neg (by omega)]
theorem fst_none {l : List UInt8} (h : C.raw l = none) : C.fst l = (0, 0) := by unfold C.fst; rw [h]
theorem fst_some {l : List UInt8} {n k : Nat} (h : C.raw l = some (n, k)) : C.fst l = (C.unzig n, k) := by unfold C.fst; rw [h]
theorem ret_pair {j k : IntKind} {a b x y : Int} (h1 : a = x) (h2 : b = y) : Ending.returned (.tuple #[.int j a, .int k b]) = .returned (.tuple #[.int j x, .int k y]) := by rw [h1, h2]
theorem ret_none {l : List UInt8} (h : C.raw l = none) : Ending.returned (.tuple #[.int .i64 0, .int .i64 0]) = .returned (.tuple #[.int .i64 (C.fst l).1, .int .i64 ((C.fst l).2 : Nat)]) := by rw [fst_none h]; rfl
theorem ret_some {l : List UInt8} {q k : Nat} {a b : Int} (h : C.raw l = some (q, k)) (ha : a = C.unzig q) (hb : b = (k : Nat)) : Ending.returned (.tuple #[.int .i64 a, .int .i64 b]) = .returned (.tuple #[.int .i64 (C.fst l).1, .int .i64 ((C.fst l).2 : Nat)]) := by rw [fst_some h, ha, hb]
theorem two_pow_63 : (2 : Int) ^ (7 * 9) = 9223372036854775808 := by decide
set_option maxRecDepth 100000 in
set_option maxHeartbeats 2000000 in
theorem first_any (p : Option Addr) (n c : Nat) (l : List UInt8) (w : World) (hi : Is w p n c l) (hl : l.length ≤ 100000) :
    Calls Try.prog 44 #[.slice p n c] w fun e w' => e = .returned (.tuple #[.int .i64 (C.fst l).1, .int .i64 ((C.fst l).2 : Nat)]) ∧ w' = w := by
  obtain ⟨hn, hok⟩ := hi
  have HA : Hid (BAt w p l) := hok.2
  have HN : Hid (n = l.length) := hn
  have hn' : n ≤ 100000 := by omega
  clear hok hn hl
  go_enter Try.func44, Try.ntmps44
  go_wp2
  go_loop [4, 9] (fun s i => ∃ (k acc : Nat), k ≤ n ∧ k ≤ 9 ∧ acc < 128 ^ k ∧ i = .int .i64 k ∧ s = .int .u64 acc ∧ C.raw l = C.rawAt k acc (l.drop k)) (fun _ i => n - (intOf i).toNat)
  case atStart => exact ⟨0, 0, Nat.zero_le _, by omega, by simp, rfl, rfl, by simp [C.raw]⟩
  case round =>
    obtain ⟨k, acc, hk, hk9, ha, rfl, rfl, hr⟩ := hrel
    by_cases hlt : k < n
    · have hkl : k < l.length := by have := HN.out; omega
      obtain ⟨b, o, rfl, hc⟩ := HA.out (by omega)
      have hck := hc k hkl
      have hd : l.drop k = l.getD k 0 :: l.drop (k + 1) := by
        rw [List.drop_eq_getElem_cons hkl]; simp [List.getD, hkl]
      generalize l.getD k 0 = x at hck hd
      rw [hd] at hr
      have hx0 := x.toNat_lt
      have HR : Hid (C.raw l = C.rawAt k acc (x :: l.drop (k + 1))) := hr
      have HAC : Hid (acc < 128 ^ k) := ha
      have HXL : Hid (x.toNat < 256) := hx0
      clear hc hr ha hd hkl hx0
      by_cases hbad : k = 9 ∧ 1 < x.toNat
      · obtain ⟨rfl, h1⟩ := hbad
        have h1' : (1 : Int) < (x.toNat : Nat) := by omega
        go_wp2
        go_ret2
        exact ⟨ret_none (HR.out.trans (rawAt_none (Or.inl ⟨rfl, h1⟩))), rfl⟩
      have hy := and_not_more x
      have hg := or_group k acc (x.toNat % 128) hk9 HAC.out (by omega) (fun h => by omega)
      have HQ : Hid (acc + x.toNat % 128 * 128 ^ k < 18446744073709551616) := hg.2.2
      generalize hyy : x.toNat % 128 = y at hy hg HQ
      have hy128 : y < 128 := by omega
      obtain ⟨h2, h3, _⟩ := hg
      generalize hz : y * 128 ^ k = z at h2 h3 HQ
      generalize hq : acc + z = q at h3 HQ
      have HE : Hid (q = acc + x.toNat % 128 * 128 ^ k) := by show _ = _; rw [← hq, ← hz, hyy]
      clear hyy hz hq
      by_cases h9 : k = 9
      · subst h9
        rw [two_pow_63] at h2
        have h1 : ((x.toNat : Nat) : Int) ≤ 1 := by omega
        have h128 : ((x.toNat : Nat) : Int) < 128 := by omega
        by_cases h0 : x.toNat = 0
        · have hy' : bits .andNot .u8 0 128 = (y : Int) := by have := hy; rw [h0] at this; exact this
          go_wp2
          go_ret2
          exact ⟨ret_none (HR.out.trans (rawAt_none (Or.inr ⟨h0, by omega⟩))), rfl⟩
        · go_wp2
          go_ret2
          exact ⟨ret_some (HR.out.trans (rawAt_last (by omega) (by omega) (by omega))) (by rw [← HE.out]; exact unzig_bits _ HQ.out) (by go_num), rfl⟩
      · have h9' : ¬ ((k : Int) = 9) := by omega
        by_cases h128 : x.toNat < 128
        · have h128' : ((x.toNat : Nat) : Int) < 128 := by omega
          by_cases h0 : x.toNat = 0
          · have hy' : bits .andNot .u8 0 128 = (y : Int) := by have := hy; rw [h0] at this; exact this
            by_cases hk0 : 0 < k
            · go_wp2
              go_ret2
              exact ⟨ret_none (HR.out.trans (rawAt_none (Or.inr ⟨h0, hk0⟩))), rfl⟩
            · go_wp2
              go_ret2
              exact ⟨ret_some (HR.out.trans (rawAt_last (by omega) (by omega) (by omega))) (by rw [← HE.out]; exact unzig_bits _ HQ.out) (by go_num), rfl⟩
          · go_wp2
            go_ret2
            exact ⟨ret_some (HR.out.trans (rawAt_last (by omega) (by omega) (by omega))) (by rw [← HE.out]; exact unzig_bits _ HQ.out) (by go_num), rfl⟩
        · have h128' : 128 ≤ ((x.toNat : Nat) : Int) := by omega
          go_wp2
          go_round
          case rel => exact ⟨k + 1, q, by omega, by omega, by rw [HE.out]; exact acc_lt HAC.out (by omega), by go_num, rfl, by rw [HR.out, rawAt_more h9 (by omega), HE.out]⟩
          case measure => simp [intOf]; omega
    · have HR : Hid _ := hr
      clear hr ha
      go_wp2
      go_ret2
      exact ⟨ret_none (by rw [HR.out, List.drop_of_length_le (by have := HN.out; omega)]; rfl), rfl⟩
end Go.Proofs.Ytebfhomopdnkkaa
