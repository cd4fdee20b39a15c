/-
  Numbers in bytes, the lowest first; a record's frame; where the first frame ends; all frames.
-/
import Derived.Test.YtjnlkgamnabhjaaDoorCMath
namespace Go.Proofs.YtjnlkgamnabhjaaDoor.C
set_option linter.unusedVariables false

def le : List UInt8 → Nat
  | [] => 0
  | b :: r => b.toNat + 256 * le r
theorem le_snoc (b : UInt8) : ∀ (l : List UInt8), le (l ++ [b]) = le l + 256 ^ l.length * b.toNat
  | [] => by simp [le]
  | c :: l => by
    simp only [List.cons_append, le, le_snoc b l, List.length_cons, Nat.pow_succ]
    rw [Nat.mul_add, Nat.mul_comm (256 ^ l.length) 256, Nat.mul_assoc]; omega
theorem le_lt : ∀ (l : List UInt8), le l < 256 ^ l.length
  | [] => by simp [le]
  | c :: l => by
    have h := le_lt l
    have hc := c.toNat_lt
    simp only [le, List.length_cons, Nat.pow_succ]
    omega
theorem le_inj : ∀ (l m : List UInt8), l.length = m.length → le l = le m → l = m
  | [], [], _, _ => rfl
  | b :: l, c :: m, hl, h => by
    have hb := b.toNat_lt
    have hc := c.toNat_lt
    simp only [le] at h
    have h1 : b.toNat = c.toNat := by omega
    have h2 : le l = le m := by omega
    rw [UInt8.toNat_inj.1 h1, le_inj l m (by simpa using hl) h2]
theorem le_take_le : ∀ (l : List UInt8) (k : Nat), le (l.take k) ≤ le l
  | [], k => by simp
  | b :: l, 0 => by simp [le]
  | b :: l, k + 1 => by have := le_take_le l k; simp only [List.take_succ_cons, le]; omega
theorem four_length (s : BitVec 32) : (four s).length = 4 := rfl
theorem le_four (s : BitVec 32) : le (four s) = s.toNat := by
  have h := s.isLt
  simp only [four, le, UInt8.toNat_ofNat']
  omega
theorem four_iff (l : List UInt8) (s : BitVec 32) (h : l.length = 4) : le l = s.toNat ↔ l = four s := by
  constructor
  · intro e
    exact le_inj _ _ h (by rw [e, le_four])
  · rintro rfl
    exact le_four s

/-- A record's frame. -/
def len4 (r : List UInt8) : List UInt8 := four (BitVec.ofNat 32 r.length)
def sum4 (r : List UInt8) : List UInt8 := four (crc (len4 r ++ r))
def fr (r : List UInt8) : List UInt8 := [1] ++ len4 r ++ sum4 r ++ r
theorem len4_length (r : List UInt8) : (len4 r).length = 4 := rfl
theorem sum4_length (r : List UInt8) : (sum4 r).length = 4 := rfl
theorem fr_eq (r : List UInt8) : fr r = 1 :: (len4 r ++ (sum4 r ++ r)) := by simp [fr]
theorem fr_length (r : List UInt8) : (fr r).length = 9 + r.length := by simp [fr, len4, sum4, four_length]; omega
theorem le_len4 (r : List UInt8) (h : r.length ≤ 65536) : le (len4 r) = r.length := by
  rw [len4, le_four, BitVec.toNat_ofNat, Nat.mod_eq_of_lt (by omega)]

/-- Where the first frame ends, or why there is none. -/
def fe (b : List UInt8) : Nat × Nat :=
  if b.length = 0 then (0, 8)
  else if b.getD 0 0 ≠ 1 then (0, 3)
  else if 65536 < le ((b.drop 1).take 4) then (0, 3)
  else if b.length < 9 + le ((b.drop 1).take 4) then (0, 8)
  else if le ((b.drop 5).take 4) ≠ (crc ((b.drop 1).take 4 ++ (b.drop 9).take (le ((b.drop 1).take 4)))).toNat then (0, 3)
  else (9 + le ((b.drop 1).take 4), 0)
theorem fe_ok {b : List UInt8} (h : (fe b).2 = 0) : 9 ≤ (fe b).1 ∧ (fe b).1 ≤ b.length ∧ (fe b).1 ≤ 65545 := by
  unfold fe at *
  split at h <;> try (simp at h; done)
  split at h <;> try (simp at h; done)
  split at h <;> try (simp at h; done)
  split at h <;> try (simp at h; done)
  split at h <;> try (simp at h; done)
  rename_i h0 h1 h2 h3 h4
  simp only [h0, h1, h2, h3, h4, if_false]
  omega
theorem fe_err {b : List UInt8} (h : (fe b).2 ≠ 0) : (fe b).1 = 0 ∧ ((fe b).2 = 3 ∨ (fe b).2 = 8) := by
  unfold fe at *
  split <;> try (simp; done)
  split <;> try (simp; done)
  split <;> try (simp; done)
  split <;> try (simp; done)
  split <;> try (simp; done)
  rename_i h0 h1 h2 h3 h4
  simp only [h0, h1, h2, h3, h4, if_false] at h
  exact absurd rfl h
theorem fr_parts (r rest : List UInt8) : ((fr r ++ rest).drop 1).take 4 = len4 r ∧ ((fr r ++ rest).drop 5).take 4 = sum4 r ∧ (fr r ++ rest).drop 9 = r ++ rest := by
  rw [fr_eq]
  refine ⟨?_, ?_, ?_⟩
  · simp only [List.cons_append, List.drop_succ_cons, List.drop_zero, List.append_assoc]
    rw [List.take_left' (len4_length _)]
  · simp only [List.cons_append, List.drop_succ_cons, List.append_assoc]
    rw [List.drop_left' (len4_length _), List.take_left' (sum4_length _)]
  · simp only [List.cons_append, List.drop_succ_cons, List.append_assoc]
    rw [show (8 : Nat) = (len4 r).length + 4 from rfl, ← List.drop_drop, List.drop_left, List.drop_left' (sum4_length _)]
theorem fe_frame (r rest : List UInt8) (h : r.length ≤ 65536) : fe (fr r ++ rest) = (9 + r.length, 0) := by
  obtain ⟨h1, h2, h3⟩ := fr_parts r rest
  unfold fe
  rw [h1, h2, h3, le_len4 r h, List.take_left]
  have e1 : (fr r ++ rest).length = 9 + r.length + rest.length := by rw [List.length_append, fr_length]
  have e2 : (fr r ++ rest).getD 0 0 = 1 := by rw [fr_eq]; rfl
  have e3 : le (sum4 r) = (crc (len4 r ++ r)).toNat := le_four _
  rw [e1, e2, e3, if_neg (by omega), if_neg (by simp), if_neg (by omega), if_neg (by omega), if_neg (by simp)]
theorem fe_torn (r : List UInt8) (cut : Nat) (h : r.length ≤ 65536) (hc : cut < (fr r).length) : fe ((fr r).take cut) = (0, 8) := by
  unfold fe
  have e1 : ((fr r).take cut).length = cut := by rw [List.length_take]; omega
  rw [e1]
  by_cases h0 : cut = 0
  · rw [if_pos h0]
  rw [if_neg h0]
  obtain ⟨c, rfl⟩ : ∃ c, cut = c + 1 := ⟨cut - 1, by omega⟩
  have e2 : ((fr r).take (c + 1)).getD 0 0 = 1 := by rw [fr_eq]; rfl
  have e3 : (((fr r).take (c + 1)).drop 1).take 4 = (len4 r).take c := by
    rw [fr_eq, List.take_succ_cons, List.drop_succ_cons, List.drop_zero, List.take_take]
    rcases Nat.lt_or_ge c 4 with k | k
    · rw [Nat.min_eq_right (by omega), List.take_append_of_le_length (by rw [len4, four_length]; omega)]
    · rw [Nat.min_eq_left k, List.take_left' (len4_length _), List.take_of_length_le (by rw [len4, four_length]; omega)]
  rw [e2, e3, if_neg (by simp)]
  have e4 : le ((len4 r).take c) ≤ r.length := by
    have := le_take_le (len4 r) c
    rw [le_len4 r h] at this; exact this
  rw [if_neg (by omega), if_pos]
  rw [fr_length] at hc
  rcases Nat.lt_or_ge c 4 with k | k
  · omega
  · rw [List.take_of_length_le (by rw [len4, four_length]; omega), le_len4 r h]; exact hc
/-- All frames. -/
def scanF : Nat → List UInt8 → List (List UInt8) × Nat
  | 0, _ => ([], 0)
  | k + 1, b => if (fe b).2 = 0 then ((b.drop 9).take ((fe b).1 - 9) :: (scanF k (b.drop (fe b).1)).1, (fe b).1 + (scanF k (b.drop (fe b).1)).2) else ([], 0)
theorem scanF_more : ∀ (k : Nat) (b : List UInt8), b.length ≤ k → scanF (k + 1) b = scanF k b
  | 0, b, h => by
    obtain rfl : b = [] := List.eq_nil_of_length_eq_zero (by omega)
    rfl
  | k + 1, b, h => by
    rw [scanF]
    conv => rhs; rw [scanF]
    by_cases hn : (fe b).2 = 0
    · have hk := fe_ok hn
      rw [if_pos hn, if_pos hn, scanF_more k (b.drop (fe b).1) (by rw [List.length_drop]; omega)]
    · rw [if_neg hn, if_neg hn]
theorem scanF_any (b : List UInt8) : ∀ d, scanF (b.length + d) b = scanF b.length b
  | 0 => rfl
  | d + 1 => by rw [← Nat.add_assoc, scanF_more (b.length + d) b (by omega), scanF_any b d]
def scan (b : List UInt8) : List (List UInt8) × Nat := scanF b.length b
theorem scan_stop {b : List UInt8} (h : (fe b).2 ≠ 0) : scan b = ([], 0) := by
  unfold scan
  cases b.length with
  | zero => rfl
  | succ n => rw [scanF, if_neg h]
theorem scan_step {b : List UInt8} (h : (fe b).2 = 0) : scan b = ((b.drop 9).take ((fe b).1 - 9) :: (scan (b.drop (fe b).1)).1, (fe b).1 + (scan (b.drop (fe b).1)).2) := by
  have hk := fe_ok h
  obtain ⟨n, hn⟩ : ∃ n, b.length = n + 1 := ⟨b.length - 1, by omega⟩
  have e := scanF_any (b.drop (fe b).1) (n - (b.drop (fe b).1).length)
  rw [show (b.drop (fe b).1).length + (n - (b.drop (fe b).1).length) = n by rw [List.length_drop]; omega] at e
  unfold scan
  rw [← e]
  conv => lhs; rw [hn, scanF]
  rw [if_pos h]
theorem fe_nil : fe [] = (0, 8) := rfl
theorem scan_nil : scan [] = ([], 0) := scan_stop (by rw [fe_nil]; decide)
theorem scan_le (b : List UInt8) : (scan b).2 ≤ b.length ∧ 9 * (scan b).1.length ≤ (scan b).2 ∧ ∀ x ∈ (scan b).1, x.length ≤ 65536 := by
  suffices ∀ n (b : List UInt8), b.length ≤ n → (scan b).2 ≤ b.length ∧ 9 * (scan b).1.length ≤ (scan b).2 ∧ ∀ x ∈ (scan b).1, x.length ≤ 65536 from this _ b (Nat.le_refl _)
  intro n
  induction n with
  | zero =>
    intro b hb
    obtain rfl : b = [] := List.eq_nil_of_length_eq_zero (by omega)
    rw [scan_nil]; simp
  | succ n ih =>
    intro b hb
    by_cases h : (fe b).2 = 0
    · have hk := fe_ok h
      rw [scan_step h]
      obtain ⟨i1, i2, i3⟩ := ih (b.drop (fe b).1) (by rw [List.length_drop]; omega)
      rw [List.length_drop] at i1
      refine ⟨by simp only; omega, by simp only [List.length_cons]; omega, fun x hx => ?_⟩
      simp only [List.mem_cons] at hx
      rcases hx with rfl | hx
      · rw [List.length_take]; omega
      · exact i3 x hx
    · rw [scan_stop h]; simp
def frs (ls : List (List UInt8)) : List UInt8 := (ls.map fr).flatten
theorem frs_cons (r : List UInt8) (ls : List (List UInt8)) : frs (r :: ls) = fr r ++ frs ls := rfl
theorem frs_snoc (r : List UInt8) (ls : List (List UInt8)) : frs (ls ++ [r]) = frs ls ++ fr r := by simp [frs]
theorem scan_frame (r rest : List UInt8) (h : r.length ≤ 65536) : scan (fr r ++ rest) = (r :: (scan rest).1, 9 + r.length + (scan rest).2) := by
  have e := fe_frame r rest h
  rw [scan_step (by rw [e]), e]
  obtain ⟨_, _, h3⟩ := fr_parts r rest
  simp only
  rw [h3, show 9 + r.length - 9 = r.length by omega, List.take_left, ← fr_length r, List.drop_left]
theorem scan_frs : ∀ (ls : List (List UInt8)), (∀ r ∈ ls, r.length ≤ 65536) → scan (frs ls) = (ls, (frs ls).length)
  | [], _ => scan_nil
  | r :: ls, h => by
    rw [frs_cons, scan_frame r _ (h r (by simp)), scan_frs ls (fun x hx => h x (by simp [hx])), List.length_append, fr_length]
/-- Cut short: a beginning of the records. -/
theorem scan_cut : ∀ (ls : List (List UInt8)) (cut : Nat), (∀ r ∈ ls, r.length ≤ 65536) → ∃ k, k ≤ ls.length ∧ (scan ((frs ls).take cut)).1 = ls.take k
  | [], cut, _ => ⟨0, Nat.le_refl _, by rw [show (frs []).take cut = [] by simp [frs], scan_nil]; rfl⟩
  | r :: ls, cut, h => by
    rw [frs_cons]
    rcases Nat.lt_or_ge cut (fr r).length with hc | hc
    · refine ⟨0, Nat.zero_le _, ?_⟩
      rw [List.take_append_of_le_length (by omega), scan_stop (by rw [fe_torn r cut (h r (by simp)) hc]; decide)]
      rfl
    · obtain ⟨k, hk, e⟩ := scan_cut ls (cut - (fr r).length) (fun x hx => h x (by simp [hx]))
      refine ⟨k + 1, by simp; omega, ?_⟩
      rw [List.take_append, List.take_of_length_le hc, scan_frame r _ (h r (by simp))]
      simp only [e, List.take_succ_cons]
end Go.Proofs.YtjnlkgamnabhjaaDoor.C
