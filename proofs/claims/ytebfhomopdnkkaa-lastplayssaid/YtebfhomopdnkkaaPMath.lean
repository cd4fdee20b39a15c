/-
  Numbers in groups of seven bits: written, read; a reader's steps.
-/
namespace Go.Proofs.Ytebfhomopdnkkaa.C

/-- Of n from 0 on twice n, below 0 minus twice n less 1. -/
def zig (v : Int) : Nat := if 0 ≤ v then (2 * v).toNat else (-2 * v - 1).toNat
def unzig (n : Nat) : Int := if n % 2 = 0 then (n / 2 : Nat) else -((n / 2 : Nat) : Int) - 1
theorem unzig_zig (v : Int) : unzig (zig v) = v := by
  unfold zig unzig
  by_cases h : 0 ≤ v
  · rw [if_pos h, if_pos (by omega)]; omega
  · rw [if_neg h, if_neg (by omega)]; omega
def fits (v : Int) : Prop := -9223372036854775808 ≤ v ∧ v ≤ 9223372036854775807
def lim : Nat := 18446744073709551616
theorem zig_lt {v : Int} (h : fits v) : zig v < lim := by
  unfold fits at h; unfold zig lim; split <;> omega
theorem unzig_fits {n : Nat} (h : n < lim) : fits (unzig n) := by
  unfold lim at h; unfold fits unzig; split <;> omega

/-- Groups, the lowest first. -/
def grpF : Nat → Nat → List UInt8
  | 0, n => [UInt8.ofNat n]
  | k + 1, n => if n < 128 then [UInt8.ofNat n] else UInt8.ofNat (n % 128 + 128) :: grpF k (n / 128)
theorem grpF_more : ∀ (k n : Nat), n ≤ k → grpF (k + 1) n = grpF k n
  | 0, n, h => by
    obtain rfl : n = 0 := by omega
    rfl
  | k + 1, n, h => by
    rw [grpF]
    conv => rhs; rw [grpF]
    by_cases hn : n < 128
    · rw [if_pos hn, if_pos hn]
    · rw [if_neg hn, if_neg hn, grpF_more k (n / 128) (by omega)]
theorem grpF_any (n : Nat) : ∀ d, grpF (n + d) n = grpF n n
  | 0 => rfl
  | d + 1 => by rw [← Nat.add_assoc, grpF_more (n + d) n (by omega), grpF_any n d]
def grp (n : Nat) : List UInt8 := grpF n n
theorem grp_small {n : Nat} (h : n < 128) : grp n = [UInt8.ofNat n] := by
  unfold grp
  cases n with
  | zero => rfl
  | succ n => rw [grpF, if_pos h]
theorem grp_big {n : Nat} (h : ¬ n < 128) : grp n = UInt8.ofNat (n % 128 + 128) :: grp (n / 128) := by
  unfold grp
  cases n with
  | zero => omega
  | succ n =>
    conv => lhs; rw [grpF]
    rw [if_neg h]
    have := grpF_any ((n + 1) / 128) (n - (n + 1) / 128)
    rw [show (n + 1) / 128 + (n - (n + 1) / 128) = n by omega] at this
    rw [this]
theorem grp_len (k : Nat) : ∀ n, n < 128 ^ (k + 1) → 1 ≤ (grp n).length ∧ (grp n).length ≤ k + 1 := by
  induction k with
  | zero => intro n h; rw [grp_small (by simpa using h)]; simp
  | succ k ih =>
    intro n h
    by_cases hn : n < 128
    · rw [grp_small hn]; simp
    · rw [grp_big hn]
      have := ih (n / 128) (by rw [Nat.div_lt_iff_lt_mul (by omega)]; rw [Nat.pow_succ] at h; exact h)
      simp only [List.length_cons]; omega
theorem grp_ten {n : Nat} (h : n < lim) : 1 ≤ (grp n).length ∧ (grp n).length ≤ 10 :=
  grp_len 9 n (Nat.lt_trans h (by decide))

/-- The number that bytes begin with, and its length. -/
def rawAt (i acc : Nat) : List UInt8 → Option (Nat × Nat)
  | [] => none
  | c :: r => if i = 9 ∧ 1 < c.toNat then none else
    if 128 ≤ c.toNat then rawAt (i + 1) (acc + (c.toNat % 128) * 128 ^ i) r
    else if c.toNat = 0 ∧ 0 < i then none else some (acc + (c.toNat % 128) * 128 ^ i, i + 1)
def raw (l : List UInt8) : Option (Nat × Nat) := rawAt 0 0 l

theorem rawAt_grp (r : List UInt8) (k : Nat) : ∀ (i acc n : Nat), i + k = 9 → n * 128 ^ i < lim → (0 < i → 0 < n) → rawAt i acc (grp n ++ r) = some (acc + n * 128 ^ i, i + (grp n).length) := by
  induction k with
  | zero =>
    intro i acc n hi hn h0
    obtain rfl : i = 9 := by omega
    have h1 : n < 2 := by
      unfold lim at hn
      have : (128 : Nat) ^ 9 = 9223372036854775808 := by decide
      omega
    have h2 := h0 (by omega)
    obtain rfl : n = 1 := by omega
    rw [grp_small (by omega)]
    rfl
  | succ k ih =>
    intro i acc n hi hn h0
    by_cases h : n < 128
    · rw [grp_small h]
      have e : (UInt8.ofNat n).toNat = n := by rw [UInt8.toNat_ofNat']; omega
      simp only [List.singleton_append, rawAt, e]
      rw [if_neg (by omega), if_neg (by omega), if_neg (by omega), Nat.mod_eq_of_lt h]
      rfl
    · rw [grp_big h]
      have e : (UInt8.ofNat (n % 128 + 128)).toNat = n % 128 + 128 := by rw [UInt8.toNat_ofNat']; omega
      simp only [List.cons_append, rawAt, e]
      rw [if_neg (by omega), if_pos (by omega)]
      have hdiv : n = 128 * (n / 128) + n % 128 := by omega
      rw [ih (i + 1) _ (n / 128) (by omega) ?_ (fun _ => by omega)]
      · have e2 : (n % 128 + 128) % 128 = n % 128 := by omega
        rw [e2]
        congr 2
        · conv => rhs; rw [hdiv]
          rw [Nat.pow_succ, Nat.add_mul]
          generalize n / 128 = q
          generalize n % 128 = s
          generalize 128 ^ i = z
          rw [← Nat.mul_assoc, Nat.mul_comm q z, Nat.mul_comm (128 * q) z, Nat.mul_comm 128 q, Nat.mul_assoc z q 128]
          omega
        · simp only [List.length_cons]; omega
      · refine Nat.lt_of_le_of_lt ?_ hn
        rw [Nat.pow_succ, Nat.mul_comm (128 ^ i) 128, ← Nat.mul_assoc]
        exact Nat.mul_le_mul_right _ (by omega)
theorem raw_grp {n : Nat} (h : n < lim) (r : List UInt8) : raw (grp n ++ r) = some (n, (grp n).length) := by
  have := rawAt_grp r 9 0 0 n rfl (by simpa using h) (fun h => absurd h (Nat.lt_irrefl 0))
  simpa [raw] using this
/-- What was read is in bounds. -/
theorem rawAt_lt (l : List UInt8) : ∀ (i acc n k : Nat), i ≤ 9 → acc < 128 ^ i → rawAt i acc l = some (n, k) → n < lim ∧ i < k ∧ k ≤ i + l.length ∧ k ≤ 10 := by
  induction l with
  | nil => intro i acc n k _ _ h; simp [rawAt] at h
  | cons c r ih =>
    intro i acc n k hi ha h
    have hc := c.toNat_lt
    simp only [rawAt] at h
    have hp : acc + c.toNat % 128 * 128 ^ i < 128 ^ (i + 1) := by
      rw [Nat.pow_succ, Nat.mul_comm (128 ^ i) 128]
      have : c.toNat % 128 * 128 ^ i ≤ 127 * 128 ^ i := Nat.mul_le_mul_right _ (by omega)
      omega
    split at h
    · cases h
    · rename_i h9
      split at h
      · rename_i h128
        have hi8 : i ≤ 8 := by omega
        obtain ⟨h1, h2, h3, h4⟩ := ih (i + 1) _ n k (by omega) hp h
        simp only [List.length_cons]
        exact ⟨h1, by omega, by omega, h4⟩
      · rename_i h128
        split at h
        · cases h
        · simp only [Option.some.injEq, Prod.mk.injEq] at h
          obtain ⟨rfl, rfl⟩ := h
          simp only [List.length_cons]
          refine ⟨?_, by omega, by omega, by omega⟩
          by_cases hi9 : i = 9
          · subst hi9
            have : (128 : Nat) ^ 9 = 9223372036854775808 := by decide
            rw [this] at ha ⊢
            unfold lim
            omega
          · refine Nat.lt_of_lt_of_le hp ?_
            have : (128 : Nat) ^ (i + 1) ≤ 128 ^ 9 := Nat.pow_le_pow_right (by omega) (by omega)
            refine Nat.le_trans this (by decide)
theorem raw_lt {l : List UInt8} {n k : Nat} (h : raw l = some (n, k)) : n < lim ∧ 0 < k ∧ k ≤ l.length ∧ k ≤ 10 := by
  have := rawAt_lt l 0 0 n k (by omega) (by simp) h
  simpa using this

/-- A number's bytes. -/
def num (v : Int) : List UInt8 := grp (zig v)
theorem num_ten {v : Int} (h : fits v) : 1 ≤ (num v).length ∧ (num v).length ≤ 10 := grp_ten (zig_lt h)
def byt (x : List UInt8) : List UInt8 := num x.length ++ x
/-- The first number: itself and its length; no number: 0 and 0. -/
def fst (l : List UInt8) : Int × Nat := match raw l with | none => (0, 0) | some (n, k) => (unzig n, k)
theorem fst_num {v : Int} (h : fits v) (r : List UInt8) : fst (num v ++ r) = (v, (num v).length) := by
  unfold fst num
  rw [raw_grp (zig_lt h)]
  simp only [unzig_zig]
theorem fst_le (l : List UInt8) : fits (fst l).1 ∧ (fst l).2 ≤ l.length ∧ (fst l).2 ≤ 10 := by
  unfold fst
  cases h : raw l with
  | none => exact ⟨⟨by decide, by decide⟩, Nat.zero_le _, Nat.zero_le _⟩
  | some x =>
    obtain ⟨n, k⟩ := x
    have := raw_lt h
    exact ⟨unzig_fits this.1, this.2.2.1, this.2.2.2⟩

/-- A reader: what is not read yet; none: it is bad. -/
def rnum (s : Option (List UInt8)) (least most : Int) : Int × Option (List UInt8) := match s with
  | none => (0, none)
  | some l => if (fst l).2 = 0 ∨ (fst l).1 < least ∨ most < (fst l).1 then (0, none) else ((fst l).1, some (l.drop (fst l).2))
def rbytes (s : Option (List UInt8)) (most : Int) : List UInt8 × Option (List UInt8) := match rnum s 0 most with
  | (_, none) => ([], none)
  | (n, some l) => if (l.length : Int) < n then ([], none) else (l.take n.toNat, some (l.drop n.toNat))
theorem rnum_num {v least most : Int} (h : fits v) (h1 : least ≤ v) (h2 : v ≤ most) (r : List UInt8) : rnum (some (num v ++ r)) least most = (v, some r) := by
  have h3 := num_ten h
  simp only [rnum, fst_num h]
  rw [if_neg (by omega)]
  simp
theorem rnum_out {v least most : Int} (h : fits v) (h1 : v < least ∨ most < v) (r : List UInt8) : rnum (some (num v ++ r)) least most = (0, none) := by
  simp only [rnum, fst_num h]
  rw [if_pos (Or.inr h1)]
theorem rbytes_byt {x : List UInt8} {most : Int} (hx : (x.length : Int) ≤ 9223372036854775807) (h : (x.length : Int) ≤ most) (r : List UInt8) : rbytes (some (byt x ++ r)) most = (x, some r) := by
  unfold rbytes byt
  rw [List.append_assoc, rnum_num ⟨by omega, hx⟩ (by omega) h]
  simp only [List.length_append]
  rw [if_neg (by omega)]
  simp
theorem num_inj {a b : Int} (ha : fits a) (hb : fits b) (h : num a = num b) : a = b := by
  have h1 := fst_num ha []
  have h2 := fst_num hb []
  rw [h] at h1
  rw [h1] at h2
  exact (Prod.mk.inj h2).1
end Go.Proofs.Ytebfhomopdnkkaa.C
