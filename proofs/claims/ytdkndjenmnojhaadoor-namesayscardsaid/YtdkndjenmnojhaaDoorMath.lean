/-
  Plain Lean: a text as its runes with their bytes ('toks'), and what package name's functions give of them. No program in it.
-/
import Derived.Lib.DecodeN
import Derived.Lib.IsU
import Derived.Lib.CaseU
import Derived.Lib.RuneBytes
namespace Go.Proofs.YtdkndjenmnojhaaDoor
namespace M
open Go.Lib
set_option linter.unusedVariables false

/-- The first rune of a text and its width. -/
def dec (l : List UInt8) : Nat × Nat := decodeN l.length (l.getD 0 0).toNat (l.getD 1 0).toNat (l.getD 2 0).toNat (l.getD 3 0).toNat

theorem get!_list (s : ByteArray) (i : Nat) : s.get! i = s.data.toList.getD i 0 := by
  cases s with
  | mk d =>
    show d[i]! = _
    rw [getElem!_def, List.getD_eq_getElem?_getD, Array.getElem?_toList]
    cases d[i]? <;> rfl

theorem getD_drop (l : List UInt8) (p k : Nat) : (l.drop p).getD k 0 = l.getD (p + k) 0 := by
  simp [List.getD_eq_getElem?_getD, List.getElem?_drop]

theorem decode_list (s : ByteArray) (pos : Nat) : Utf8.decode s pos = dec (s.data.toList.drop pos) := by
  rw [decode_at]
  unfold dec
  rw [getD_drop, getD_drop, getD_drop, getD_drop, get!_list, get!_list, get!_list, get!_list, List.length_drop]
  rfl

theorem dec_width (l : List UInt8) : 1 ≤ (dec l).2 ∧ (dec l).2 ≤ 4 := by
  unfold dec decodeN
  repeat' split
  all_goals simp

theorem dec_width_le (l : List UInt8) (h : l ≠ []) : (dec l).2 ≤ l.length := by
  have h0 : 0 < l.length := List.length_pos_iff.2 h
  unfold dec decodeN
  repeat' split
  all_goals (simp only; omega)

theorem dec_rune (l : List UInt8) : (dec l).1 ≤ 1114111 ∧ ¬ (55296 ≤ (dec l).1 ∧ (dec l).1 ≤ 57343) := by
  have b0 : (l.getD 0 0).toNat < 256 := UInt8.toNat_lt _
  have b1 : (l.getD 1 0).toNat < 256 := UInt8.toNat_lt _
  unfold dec decodeN
  repeat' split
  all_goals (simp only; omega)

theorem take_getD (l : List UInt8) (k i : Nat) : (l.take k).getD i 0 = if i < k then l.getD i 0 else 0 := by
  simp only [List.getD_eq_getElem?_getD, List.getElem?_take]
  split <;> simp

set_option maxRecDepth 100000 in
set_option maxHeartbeats 1000000 in
theorem dec_take (l : List UInt8) (k : Nat) (h : (dec l).2 ≤ k) : dec (l.take k) = dec l := by
  have hw := dec_width l
  have hk : 0 < k := by omega
  revert h
  unfold dec
  rw [take_getD, take_getD, take_getD, take_getD, List.length_take, if_pos hk]
  generalize (l.getD 0 0).toNat = b0
  by_cases h1 : 1 < k
  · by_cases h2 : 2 < k
    · by_cases h3 : 3 < k
      · rw [if_pos h1, if_pos h2, if_pos h3]
        generalize (l.getD 1 0).toNat = b1
        generalize (l.getD 2 0).toNat = b2
        generalize (l.getD 3 0).toNat = b3
        generalize l.length = n
        intro _
        unfold decodeN
        have e1 : (1 < min k n) ↔ (1 < n) := by rw [Nat.lt_min]; omega
        have e2 : (2 < min k n) ↔ (2 < n) := by rw [Nat.lt_min]; omega
        have e3 : (3 < min k n) ↔ (3 < n) := by rw [Nat.lt_min]; omega
        simp only [e1, e2, e3]
      · rw [if_pos h1, if_pos h2, if_neg h3]
        generalize (l.getD 1 0).toNat = b1
        generalize (l.getD 2 0).toNat = b2
        generalize (l.getD 3 0).toNat = b3
        generalize l.length = n
        unfold decodeN
        have e1 : (1 < min k n) ↔ (1 < n) := by rw [Nat.lt_min]; omega
        have e2 : (2 < min k n) ↔ (2 < n) := by rw [Nat.lt_min]; omega
        have e3 : ¬ (3 < min k n) := by have := Nat.min_le_left k n; omega
        simp only [e1, e2, e3]
        intro h
        repeat' split
        all_goals first | with_reducible rfl | (exfalso; omega) | (simp_all <;> omega)
    · rw [if_pos h1, if_neg h2, if_neg (by omega)]
      generalize (l.getD 1 0).toNat = b1
      generalize (l.getD 2 0).toNat = b2
      generalize (l.getD 3 0).toNat = b3
      generalize l.length = n
      unfold decodeN
      have e1 : (1 < min k n) ↔ (1 < n) := by rw [Nat.lt_min]; omega
      have e2 : ¬ (2 < min k n) := by have := Nat.min_le_left k n; omega
      simp only [e1, e2, false_and, and_false, if_false]
      intro h
      repeat' split
      all_goals first | with_reducible rfl | (exfalso; omega) | (simp_all <;> omega)
  · rw [if_neg h1, if_neg (by omega), if_neg (by omega)]
    generalize (l.getD 1 0).toNat = b1
    generalize (l.getD 2 0).toNat = b2
    generalize (l.getD 3 0).toNat = b3
    generalize l.length = n
    unfold decodeN
    have e1 : ¬ (1 < min k n) := by have := Nat.min_le_left k n; omega
    simp only [e1, false_and, and_false, if_false]
    intro h
    repeat' split
    all_goals first | with_reducible rfl | (exfalso; omega) | (simp_all <;> omega)

/-- A text's runes, each with its bytes. -/
def toksF : Nat → List UInt8 → List (Nat × List UInt8)
  | 0, _ => []
  | f + 1, l => if l.isEmpty then [] else ((dec l).1, l.take (dec l).2) :: toksF f (l.drop (dec l).2)
def toks (l : List UInt8) : List (Nat × List UInt8) := toksF l.length l

theorem toksF_fuel : ∀ (f g : Nat) (l : List UInt8), l.length ≤ f → l.length ≤ g → toksF f l = toksF g l
  | 0, 0, _, _, _ => rfl
  | 0, g + 1, l, h, _ => by
    have : l = [] := List.length_eq_zero_iff.1 (by omega)
    subst this; rfl
  | f + 1, 0, l, _, h => by
    have : l = [] := List.length_eq_zero_iff.1 (by omega)
    subst this; rfl
  | f + 1, g + 1, l, h, k => by
    by_cases e : l = []
    · subst e; rfl
    · have hw := dec_width l
      have hp : 0 < l.length := List.length_pos_iff.2 e
      have e' : l.isEmpty = false := by cases l <;> simp_all
      simp only [toksF, e']
      rw [toksF_fuel f g (l.drop (dec l).2) (by simp; omega) (by simp; omega)]

theorem toks_nil : toks [] = [] := rfl
theorem toks_cons (l : List UInt8) (e : l ≠ []) : toks l = ((dec l).1, l.take (dec l).2) :: toks (l.drop (dec l).2) := by
  have hw := dec_width l
  have hp : 0 < l.length := List.length_pos_iff.2 e
  have e' : l.isEmpty = false := by cases l <;> simp_all
  unfold toks
  obtain ⟨m, hm⟩ : ∃ m, l.length = m + 1 := ⟨l.length - 1, by omega⟩
  rw [hm]
  simp only [toksF, e']
  rw [toksF_fuel m (l.drop (dec l).2).length (l.drop (dec l).2) (by simp; omega) (Nat.le_refl _)]
  rfl

def flat (ts : List (Nat × List UInt8)) : List UInt8 := (ts.map (·.2)).flatten
theorem flat_nil : flat [] = [] := rfl
theorem flat_cons (t : Nat × List UInt8) (ts : List (Nat × List UInt8)) : flat (t :: ts) = t.2 ++ flat ts := by simp [flat]
theorem flat_append (a b : List (Nat × List UInt8)) : flat (a ++ b) = flat a ++ flat b := by simp [flat]

/-- Induction along a text's runes. -/
theorem toks_ind {p : List UInt8 → Prop} (h0 : p []) (h1 : ∀ l, l ≠ [] → p (l.drop (dec l).2) → p l) : ∀ l, p l := by
  intro l
  generalize hn : l.length = n
  induction n using Nat.strongRecOn generalizing l with
  | ind n ih =>
    by_cases e : l = []
    · subst e; exact h0
    · have hw := dec_width l
      have hp : 0 < l.length := List.length_pos_iff.2 e
      exact h1 l e (ih (l.drop (dec l).2).length (by simp; omega) _ rfl)

theorem flat_toks (l : List UInt8) : flat (toks l) = l := by
  induction l using toks_ind with
  | h0 => rfl
  | h1 l e ih => rw [toks_cons l e, flat_cons, ih]; simp

theorem toks_length_le (l : List UInt8) : (toks l).length ≤ l.length := by
  induction l using toks_ind with
  | h0 => simp [toks_nil]
  | h1 l e ih =>
    have hw := dec_width l
    have hp : 0 < l.length := List.length_pos_iff.2 e
    rw [toks_cons l e]
    simp only [List.length_cons, List.length_drop] at ih ⊢
    omega

theorem flat_take_prefix (l : List UInt8) (k : Nat) : flat ((toks l).take k) = l.take (flat ((toks l).take k)).length := by
  have h : flat ((toks l).take k) ++ flat ((toks l).drop k) = l := by
    rw [← flat_append, List.take_append_drop, flat_toks]
  conv => rhs; rw [← h]
  rw [h]
  conv => rhs; arg 2; rw [← h]
  simp

theorem toks_flat_take (l : List UInt8) : ∀ k, toks (flat ((toks l).take k)) = (toks l).take k := by
  induction l using toks_ind with
  | h0 => intro k; simp [toks_nil, flat_nil]
  | h1 l e ih =>
    intro k
    cases k with
    | zero => simp [flat_nil, toks_nil]
    | succ k =>
      have hw := dec_width l
      have hwl := dec_width_le l e
      have hp := flat_take_prefix l (k + 1)
      have hc := toks_cons l e
      generalize hm : flat ((toks l).take (k + 1)) = m at hp ⊢
      have hm2 : m = l.take (dec l).2 ++ flat ((toks (l.drop (dec l).2)).take k) := by
        rw [← hm, hc, List.take_succ_cons, flat_cons]
      have hml : (dec l).2 ≤ m.length := by rw [hm2]; simp; omega
      have hd : dec m = dec l := by have h := dec_take l m.length hml; rw [← hp] at h; exact h
      have hne : m ≠ [] := by intro h; rw [h] at hml; simp at hml; omega
      rw [toks_cons m hne, hd, hc, List.take_succ_cons]
      have h1 : m.take (dec l).2 = l.take (dec l).2 := by
        rw [hm2, List.take_append_of_le_length (by simp; omega), List.take_take]; simp
      have h2 : m.drop (dec l).2 = flat ((toks (l.drop (dec l).2)).take k) := by
        rw [hm2, List.drop_append_of_le_length (by simp; omega)]
        simp
      rw [h1, h2, ih k]

theorem toks_flat_drop (l : List UInt8) : ∀ k, toks (flat ((toks l).drop k)) = (toks l).drop k := by
  induction l using toks_ind with
  | h0 => intro k; simp [toks_nil, flat_nil]
  | h1 l e ih =>
    intro k
    cases k with
    | zero => simp [flat_toks]
    | succ k => rw [toks_cons l e, List.drop_succ_cons]; exact ih k

def runes (l : List UInt8) : List Nat := (toks l).map (·.1)
theorem runes_nil : runes [] = [] := rfl
theorem runes_cons (l : List UInt8) (e : l ≠ []) : runes l = (dec l).1 :: runes (l.drop (dec l).2) := by
  unfold runes; rw [toks_cons l e]; rfl
theorem runes_valid (l : List UInt8) : ∀ r ∈ runes l, r ≤ 1114111 ∧ ¬ (55296 ≤ r ∧ r ≤ 57343) := by
  induction l using toks_ind with
  | h0 => simp [runes_nil]
  | h1 l e ih =>
    rw [runes_cons l e]
    intro r hr
    rcases List.mem_cons.1 hr with rfl | hr
    · exact dec_rune l
    · exact ih r hr
end M
end Go.Proofs.YtdkndjenmnojhaaDoor
namespace Go.Proofs.YtdkndjenmnojhaaDoor
namespace M
/-- Of two numbers: which is the less. -/
def sgn (x y : Int) : Int := if x = y then 0 else if x < y then -1 else 1
/-- Rune by rune by their numbers, the shorter ahead. -/
def cmpR : List Nat → List Nat → Int
  | [], [] => 0
  | [], _ :: _ => -1
  | _ :: _, [] => 1
  | x :: a, y :: b => if x = y then cmpR a b else sgn x y
end M
end Go.Proofs.YtdkndjenmnojhaaDoor
namespace Go.Proofs.YtdkndjenmnojhaaDoor
namespace M
open Go.Lib
/-- May a rune stand in a name, first or later? -/
def mayStand (r : Nat) (first : Bool) : Bool := if first then isLetterU r else (r == 45) || isLetterU r || isDigitU r
/-- Good, from a count on. -/
def goodGo : Nat → List Nat → Bool
  | c, [] => decide (0 < c)
  | c, r :: t => if c = 20 then false else if mayStand r (c == 0) then goodGo (c + 1) t else false
def good (l : List UInt8) : Bool := goodGo 0 (runes l)
end M
end Go.Proofs.YtdkndjenmnojhaaDoor
namespace Go.Proofs.YtdkndjenmnojhaaDoor
namespace M
open Go.Lib
/-- Each rune made small, and written again. -/
def foldR (rs : List Nat) : List UInt8 := rs.flatMap fun (r : Nat) => encodeRune (toLowerU (r : Int))
def fold (l : List UInt8) : List UInt8 := foldR (runes l)
end M
end Go.Proofs.YtdkndjenmnojhaaDoor
namespace Go.Proofs.YtdkndjenmnojhaaDoor
namespace M
/-- The first n runes' bytes. -/
def cut (l : List UInt8) (n : Int) : List UInt8 := flat ((toks l).take n.toNat)
/-- What stands between the runes that are 'at'; 'cur': what of the part stands already. -/
def splitGo (c : Int) : List UInt8 → List (Nat × List UInt8) → List (List UInt8)
  | cur, [] => [cur]
  | cur, t :: ts => if (t.1 : Int) = c then cur :: splitGo c [] ts else splitGo c (cur ++ t.2) ts
def split (l : List UInt8) (c : Int) : List (List UInt8) := splitGo c [] (toks l)
end M
end Go.Proofs.YtdkndjenmnojhaaDoor
