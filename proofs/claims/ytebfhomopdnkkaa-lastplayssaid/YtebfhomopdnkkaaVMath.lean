/-
  Clocks of seven numbers: compared, merged, counted on.
-/
import Derived.Test.YtebfhomopdnkkaaPMath
namespace Go.Proofs.Ytebfhomopdnkkaa
/-- A clock. -/
structure V7 where
  x0 : Int
  x1 : Int
  x2 : Int
  x3 : Int
  x4 : Int
  x5 : Int
  x6 : Int
namespace C
def big : Int := 1099511627776
def inB (x : Int) : Bool := decide (0 ≤ x) && decide (x ≤ 1099511627776)
def good (a : V7) : Bool := inB a.x0 && inB a.x1 && inB a.x2 && inB a.x3 && inB a.x4 && inB a.x5 && inB a.x6
def le (a b : V7) : Bool := decide (a.x0 ≤ b.x0) && decide (a.x1 ≤ b.x1) && decide (a.x2 ≤ b.x2) && decide (a.x3 ≤ b.x3) && decide (a.x4 ≤ b.x4) && decide (a.x5 ≤ b.x5) && decide (a.x6 ≤ b.x6)
def mrg (a b : V7) : V7 := ⟨max a.x0 b.x0, max a.x1 b.x1, max a.x2 b.x2, max a.x3 b.x3, max a.x4 b.x4, max a.x5 b.x5, max a.x6 b.x6⟩
def lst (a b : V7) : V7 := ⟨min a.x0 b.x0, min a.x1 b.x1, min a.x2 b.x2, min a.x3 b.x3, min a.x4 b.x4, min a.x5 b.x5, min a.x6 b.x6⟩
def at7 (a : V7) (i : Nat) : Int := match i with | 0 => a.x0 | 1 => a.x1 | 2 => a.x2 | 3 => a.x3 | 4 => a.x4 | 5 => a.x5 | _ => a.x6
def has (a : V7) (r n : Int) : Bool := decide (0 ≤ r) && decide (r < 7) && decide (1 ≤ n) && decide (n ≤ at7 a r.toNat)
def cmp (a b : V7) : Int := if le a b && le b a then 0 else if le a b then -1 else if le b a then 1 else 2
theorem le_iff (a b : V7) : le a b = true ↔ a.x0 ≤ b.x0 ∧ a.x1 ≤ b.x1 ∧ a.x2 ≤ b.x2 ∧ a.x3 ≤ b.x3 ∧ a.x4 ≤ b.x4 ∧ a.x5 ≤ b.x5 ∧ a.x6 ≤ b.x6 := by
  simp only [le, Bool.and_eq_true, decide_eq_true_eq, and_assoc]
theorem eq_iff (a b : V7) : a = b ↔ a.x0 = b.x0 ∧ a.x1 = b.x1 ∧ a.x2 = b.x2 ∧ a.x3 = b.x3 ∧ a.x4 = b.x4 ∧ a.x5 = b.x5 ∧ a.x6 = b.x6 := by
  obtain ⟨a0, a1, a2, a3, a4, a5, a6⟩ := a
  obtain ⟨b0, b1, b2, b3, b4, b5, b6⟩ := b
  simp only [V7.mk.injEq]
theorem le_both (a b : V7) : (le a b && le b a) = true ↔ a = b := by
  rw [Bool.and_eq_true, le_iff, le_iff, eq_iff]
  omega
/-- Alike? -/
def same (a b : V7) : Bool := decide (a.x0 = b.x0) && (decide (a.x1 = b.x1) && (decide (a.x2 = b.x2) && (decide (a.x3 = b.x3) && (decide (a.x4 = b.x4) && (decide (a.x5 = b.x5) && decide (a.x6 = b.x6))))))
theorem same_iff (a b : V7) : same a b = true ↔ a = b := by
  rw [eq_iff]
  simp only [same, Bool.and_eq_true, decide_eq_true_eq]
theorem same_self (a : V7) : same a a = true := (same_iff a a).2 rfl
theorem not_same {a b : V7} (h : ¬ a = b) : ¬ same a b = true := fun k => h ((same_iff a b).1 k)
theorem same_ne {a b : V7} (h : ¬ a = b) : same a b = false := by
  cases k : same a b with
  | false => rfl
  | true => exact absurd k (not_same h)
theorem cmp_eq (a b : V7) : cmp a b = if same a b then 0 else if le a b then -1 else if le b a then 1 else 2 := by
  unfold cmp
  by_cases h : a = b
  · rw [if_pos ((le_both a b).2 h), if_pos ((same_iff a b).2 h)]
  · rw [if_neg (fun k => h ((le_both a b).1 k)), if_neg (not_same h)]
def inc (a : V7) (i : Nat) : V7 := match i with | 0 => { a with x0 := a.x0 + 1 } | 1 => { a with x1 := a.x1 + 1 } | 2 => { a with x2 := a.x2 + 1 } | 3 => { a with x3 := a.x3 + 1 } | 4 => { a with x4 := a.x4 + 1 } | 5 => { a with x5 := a.x5 + 1 } | _ => { a with x6 := a.x6 + 1 }
theorem good_iff (a : V7) : good a = true ↔ (0 ≤ a.x0 ∧ a.x0 ≤ 1099511627776) ∧ (0 ≤ a.x1 ∧ a.x1 ≤ 1099511627776) ∧ (0 ≤ a.x2 ∧ a.x2 ≤ 1099511627776) ∧ (0 ≤ a.x3 ∧ a.x3 ≤ 1099511627776) ∧ (0 ≤ a.x4 ∧ a.x4 ≤ 1099511627776) ∧ (0 ≤ a.x5 ∧ a.x5 ≤ 1099511627776) ∧ (0 ≤ a.x6 ∧ a.x6 ≤ 1099511627776) := by
  simp only [good, inB, Bool.and_eq_true, decide_eq_true_eq, and_assoc]
theorem good_at7 {a : V7} (h : good a = true) (k : Nat) : 0 ≤ at7 a k ∧ at7 a k ≤ 1099511627776 := by
  obtain ⟨h0, h1, h2, h3, h4, h5, h6⟩ := (good_iff a).1 h
  unfold at7
  split
  · exact h0
  · exact h1
  · exact h2
  · exact h3
  · exact h4
  · exact h5
  · exact h6
/-- The bytes of a clock. -/
def vbytes (a : V7) : List UInt8 := num a.x0 ++ (num a.x1 ++ (num a.x2 ++ (num a.x3 ++ (num a.x4 ++ (num a.x5 ++ num a.x6)))))
/-- Seven numbers read; a clock read. -/
def getN (s : Option (List UInt8)) (m : Int) : V7 × Option (List UInt8) :=
  let r0 := rnum s 0 m
  let r1 := rnum r0.2 0 m
  let r2 := rnum r1.2 0 m
  let r3 := rnum r2.2 0 m
  let r4 := rnum r3.2 0 m
  let r5 := rnum r4.2 0 m
  let r6 := rnum r5.2 0 m
  (⟨r0.1, r1.1, r2.1, r3.1, r4.1, r5.1, r6.1⟩, r6.2)
def getV (s : Option (List UInt8)) : V7 × Option (List UInt8) := match (getN s 1099511627776).2 with
  | none => (⟨0, 0, 0, 0, 0, 0, 0⟩, none)
  | some l => ((getN s 1099511627776).1, some l)
def fits7 (a : V7) : Prop := fits a.x0 ∧ fits a.x1 ∧ fits a.x2 ∧ fits a.x3 ∧ fits a.x4 ∧ fits a.x5 ∧ fits a.x6
end C
end Go.Proofs.Ytebfhomopdnkkaa
