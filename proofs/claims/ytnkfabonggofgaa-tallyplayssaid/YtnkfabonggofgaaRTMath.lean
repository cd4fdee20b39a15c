/-
  Seven numbers one by one: summed, merged, written, read.
-/
import Derived.Test.YtnkfabonggofgaaYMath
namespace Go.Proofs.Ytnkfabonggofgaa
set_option linter.unusedVariables false
namespace C
theorem at7_set {a : V7} {k : Nat} (hk : k < 7) (x : Int) : at7 (set7 a k x) k = x := by
  rcases sev hk with rfl | rfl | rfl | rfl | rfl | rfl | rfl <;> rfl
theorem set7_self (a : V7) {k : Nat} (hk : k < 7) : set7 a k (at7 a k) = a := by
  rcases sev hk with rfl | rfl | rfl | rfl | rfl | rfl | rfl <;> rfl
theorem at7_set_ne {a : V7} {k j : Nat} (hk : k < 7) (hj : j < 7) (hne : j ≠ k) (x : Int) : at7 (set7 a k x) j = at7 a j := by
  rcases sev hk with rfl | rfl | rfl | rfl | rfl | rfl | rfl <;> rcases sev hj with rfl | rfl | rfl | rfl | rfl | rfl | rfl <;> first | rfl | exact absurd rfl hne
/-- The sum of the first k. -/
def vsum (T : Ta) : Nat → Int
  | 0 => 0
  | k + 1 => vsum T k + at7 T.u k - at7 T.d k
theorem vsum_all (T : Ta) : vsum T 7 = valT T := by
  unfold valT
  simp only [vsum, at7]
  omega
theorem vsum_bound {T : Ta} (h : T.Ok) : ∀ k : Nat, k ≤ 7 → -((k : Int) * 1125899906842624) ≤ vsum T k ∧ vsum T k ≤ (k : Int) * 1125899906842624
  | 0, _ => by simp [vsum]
  | k + 1, hk => by
    have h0 := vsum_bound h k (by omega)
    have h1 := ok50_at h.u k
    have h2 := ok50_at h.d k
    simp only [vsum]
    omega
/-- The first k merged. -/
def upto (a b : V7) : Nat → V7
  | 0 => a
  | k + 1 => set7 (upto a b k) k (max (at7 a k) (at7 b k))
theorem upto_at (a b : V7) : ∀ (k j : Nat), k ≤ j → j < 7 → at7 (upto a b k) j = at7 a j
  | 0, j, _, _ => rfl
  | k + 1, j, hk, hj => by
    simp only [upto]
    rw [at7_set_ne (by omega) hj (by omega), upto_at a b k j (by omega) hj]
theorem upto_all (a b : V7) : upto a b 7 = mrg a b := rfl
theorem upto_more {a b : V7} {k : Nat} (hk : k < 7) (h : at7 a k < at7 b k) : set7 (upto a b k) k (at7 b k) = upto a b (k + 1) := by
  simp only [upto]
  rw [Int.max_eq_right (by omega)]
theorem upto_less {a b : V7} {k : Nat} (hk : k < 7) (h : ¬ at7 a k < at7 b k) : upto a b k = upto a b (k + 1) := by
  simp only [upto]
  rw [Int.max_eq_left (by omega), ← upto_at a b k k (Nat.le_refl _) hk, set7_self _ hk]
/-- The first k written. -/
def nums7 (a : V7) : Nat → List UInt8
  | 0 => []
  | k + 1 => nums7 a k ++ num (at7 a k)
theorem nums7_all (a : V7) : nums7 a 7 = vbytes a := by
  simp only [nums7, vbytes, at7, List.nil_append, List.append_assoc]
theorem nums7_len {a : V7} (h : ok50 a) : ∀ k, (nums7 a k).length ≤ 10 * k
  | 0 => Nat.le_refl _
  | k + 1 => by
    have h0 := nums7_len h k
    have h1 := (num_ten (show fits (at7 a k) by have := ok50_at h k; unfold fits; omega)).2
    simp only [nums7, List.length_append]
    omega
/-- The first k read. -/
def getTo (s : Option (List UInt8)) : Nat → V7 × Option (List UInt8)
  | 0 => (zero77, s)
  | k + 1 => (set7 (getTo s k).1 k (rnum (getTo s k).2 0 1125899906842624).1, (rnum (getTo s k).2 0 1125899906842624).2)
theorem getTo_all (s : Option (List UInt8)) : getTo s 7 = getN s 1125899906842624 := rfl
end C
end Go.Proofs.Ytnkfabonggofgaa
