/-
  Several texts in one: WMath, LMath, LMath2.
-/
import Derived.Test.YtnhplbdbgiimkaaGreatDoorZ1
namespace Go.Proofs.YtnhplbdbgiimkaaGreatDoor.C
set_option linter.unusedVariables false

/-- What the first frame holds, and what is behind it. -/
def rec (l : List UInt8) : List UInt8 := (l.drop 9).take ((fe l).1 - 9)
def rest (l : List UInt8) : List UInt8 := l.drop (fe l).1
def nb (n : Nat) : List UInt8 := four (BitVec.ofNat 32 n)
theorem nb_length (n : Nat) : (nb n).length = 4 := rfl
theorem le_nb (n : Nat) (h : n < 4294967296) : le (nb n) = n := by
  rw [nb, le_four, BitVec.toNat_ofNat, Nat.mod_eq_of_lt (by omega)]
def hd (a n k : Nat) : List UInt8 := nb a ++ (nb n ++ nb k)
theorem hd_length (a n k : Nat) : (hd a n k).length = 12 := rfl
/-- A record's bytes on the disk. -/
def ent (a n : Nat) (r : List UInt8) : List UInt8 := fr (hd a n r.length) ++ fr r
theorem ent_length (a n : Nat) (r : List UInt8) : (ent a n r).length = 30 + r.length := by
  simp only [ent, List.length_append, fr_length, hd_length]; omega
def ents (a : Nat) : Nat → List (List UInt8) → List UInt8
  | _, [] => []
  | n, r :: rs => ent a n r ++ ents a (n + 1) rs
theorem ents_append (a : Nat) : ∀ (n : Nat) (x y : List (List UInt8)), ents a n (x ++ y) = ents a n x ++ ents a (n + x.length) y
  | n, [], y => by simp [ents]
  | n, r :: x, y => by
    simp only [List.cons_append, ents, ents_append a (n + 1) x y, List.append_assoc, List.length_cons]
    rw [show n + 1 + x.length = n + (x.length + 1) by omega]
theorem ents_one (a n : Nat) (r : List UInt8) : ents a n [r] = ent a n r := by simp [ents]
theorem ents_length_le (a : Nat) (m : Nat) : ∀ (n : Nat) (x : List (List UInt8)), (∀ r ∈ x, r.length ≤ m) → (ents a n x).length ≤ (30 + m) * x.length
  | n, [], _ => by simp [ents]
  | n, r :: x, h => by
    have h1 := h r (by simp)
    have h2 := ents_length_le a m (n + 1) x (fun q hq => h q (by simp [hq]))
    simp only [ents, List.length_append, ent_length, List.length_cons, Nat.mul_succ]; omega

def h1 (b : List UInt8) : Nat := le ((rec b).take 4)
def h2 (b : List UInt8) : Nat := le (((rec b).drop 4).take 4)
def h3 (b : List UInt8) : Nat := le (((rec b).drop 8).take 4)
/-- A head. -/
def Hd (b : List UInt8) : Prop := (fe b).2 = 0 ∧ (rec b).length = 12 ∧ h3 b ≤ 65536
def hdB (b : List UInt8) : Bool := decide ((fe b).2 = 0) && (decide ((rec b).length = 12) && decide (h3 b ≤ 65536))
theorem hdB_true {b : List UInt8} (h : Hd b) : ¬ hdB b = false := by
  obtain ⟨e1, e2, e3⟩ := h
  unfold hdB
  rw [decide_eq_true e1, decide_eq_true e2, decide_eq_true e3]; decide
theorem hdB_false {b : List UInt8} (h : ¬ Hd b) : hdB b = false := by
  cases hb : hdB b with
  | false => rfl
  | true =>
    unfold hdB at hb
    rw [Bool.and_eq_true, Bool.and_eq_true] at hb
    exact absurd ⟨of_decide_eq_true hb.1, of_decide_eq_true hb.2.1, of_decide_eq_true hb.2.2⟩ h
/-- What is read of an entry: why not, or where it belongs and its bytes. -/
structure ERes where
  code : Nat
  a : Nat
  n : Nat
  r : List UInt8
def gapR : ERes := ⟨8, 0, 0, []⟩
def badR : ERes := ⟨3, 0, 0, []⟩
def okR (a n : Nat) (r : List UInt8) : ERes := ⟨0, a, n, r⟩
theorem bad_gap (h : badR = gapR) : False := absurd (congrArg ERes.code h) (by decide)
theorem ok_gap {a n : Nat} {r : List UInt8} (h : okR a n r = gapR) : False := by
  have := congrArg ERes.code h
  simp only [okR, gapR] at this
  omega
def Bd (b : List UInt8) : List UInt8 := (b.drop 21).take (9 + h3 (b.take 21))
def rdE (b : List UInt8) : ERes :=
  if b.length < 21 then gapR
  else if hdB (b.take 21) = false then badR
  else if b.length < 30 + h3 (b.take 21) then gapR
  else if (fe (Bd b)).2 = 0 ∧ rest (Bd b) = [] then okR (h1 (b.take 21)) (h2 (b.take 21)) (rec (Bd b))
  else badR
theorem fe_fr (r t : List UInt8) (h : r.length ≤ 65536) : (fe (fr r ++ t)).2 = 0 ∧ rec (fr r ++ t) = r ∧ rest (fr r ++ t) = t := by
  have e := fe_frame r t h
  obtain ⟨_, _, h3⟩ := fr_parts r t
  refine ⟨by rw [e], ?_, ?_⟩
  · rw [rec, e, h3]; simp
  · rw [rest, e, ← fr_length r, List.drop_left]
theorem fe_fr0 (r : List UInt8) (h : r.length ≤ 65536) : (fe (fr r)).2 = 0 ∧ rec (fr r) = r ∧ rest (fr r) = [] := by
  have := fe_fr r [] h
  simpa using this
theorem hd_parts (a n k : Nat) (ha : a < 4294967296) (hn : n < 4294967296) (hk : k ≤ 65536) : Hd (fr (hd a n k)) ∧ h1 (fr (hd a n k)) = a ∧ h2 (fr (hd a n k)) = n ∧ h3 (fr (hd a n k)) = k := by
  obtain ⟨e1, e2, _⟩ := fe_fr0 (hd a n k) (by rw [hd_length]; decide)
  have f3 : h3 (fr (hd a n k)) = k := by
    unfold h3
    rw [e2, hd, ← List.append_assoc, List.drop_left' (by simp [nb_length]), List.take_of_length_le (by simp [nb_length]), le_nb k (by omega)]
  refine ⟨⟨e1, by rw [e2, hd_length], by rw [f3]; exact hk⟩, ?_, ?_, f3⟩
  · unfold h1
    rw [e2, hd, List.take_left' (nb_length a), le_nb a ha]
  · unfold h2
    rw [e2, hd, List.drop_left' (nb_length a), List.take_left' (nb_length n), le_nb n hn]
theorem take21 (a n k : Nat) (t : List UInt8) : (fr (hd a n k) ++ t).take 21 = fr (hd a n k) := List.take_left' (by rw [fr_length, hd_length])
theorem drop21 (a n k : Nat) (t : List UInt8) : (fr (hd a n k) ++ t).drop 21 = t := List.drop_left' (by rw [fr_length, hd_length])
theorem rdE_ok (a n : Nat) (r t : List UInt8) (ha : a < 4294967296) (hn : n < 4294967296) (hr : r.length ≤ 65536) : rdE (ent a n r ++ t) = okR a n r := by
  obtain ⟨p1, p2, p3, p4⟩ := hd_parts a n r.length ha hn hr
  have hl : (ent a n r ++ t).length = 30 + r.length + t.length := by rw [List.length_append, ent_length]
  have e1 : (ent a n r ++ t).take 21 = fr (hd a n r.length) := by rw [ent, List.append_assoc, take21]
  have e2 : Bd (ent a n r ++ t) = fr r := by
    unfold Bd
    rw [e1, p4, ent, List.append_assoc, drop21, List.take_left' (by rw [fr_length])]
  obtain ⟨q1, q2, q3⟩ := fe_fr0 r hr
  unfold rdE
  rw [e1, e2, if_neg (by omega), if_neg (hdB_true p1), p4, if_neg (by omega), if_pos ⟨q1, q3⟩, p2, p3, q2]
theorem rdE_short {b : List UInt8} (h : b.length < 21) : rdE b = gapR := by unfold rdE; rw [if_pos h]
theorem rdE_nil : rdE [] = gapR := rdE_short (by decide)
theorem rdE_cut (a n : Nat) (r : List UInt8) (c : Nat) (ha : a < 4294967296) (hn : n < 4294967296) (hr : r.length ≤ 65536) (hc : c < 30 + r.length) : rdE ((ent a n r).take c) = gapR := by
  have hl : ((ent a n r).take c).length = c := by rw [List.length_take, ent_length]; omega
  rcases Nat.lt_or_ge c 21 with h | h
  · exact rdE_short (by omega)
  · obtain ⟨p1, p2, p3, p4⟩ := hd_parts a n r.length ha hn hr
    have e1 : ((ent a n r).take c).take 21 = fr (hd a n r.length) := by
      rw [List.take_take, Nat.min_eq_left h, ent, take21]
    unfold rdE
    rw [e1, p4, if_neg (by omega), if_neg (hdB_true p1), if_pos (by omega)]
/-- Of what is torn each beginning is torn. -/
theorem gap_take {b : List UInt8} (h : rdE b = gapR) (c : Nat) : rdE (b.take c) = gapR := by
  have hl : (b.take c).length = min c b.length := List.length_take
  by_cases h0 : (b.take c).length < 21
  · exact rdE_short h0
  · have e : (b.take c).take 21 = b.take 21 := by rw [List.take_take, Nat.min_eq_left (by omega)]
    unfold rdE at h ⊢
    rw [if_neg (by omega)] at h
    rw [e, if_neg h0]
    split at h
    · exact (bad_gap h).elim
    · rename_i h1
      rw [if_neg h1]
      split at h
      · rw [if_pos (by omega)]
      · split at h
        · exact (ok_gap h).elim
        · exact (bad_gap h).elim
/-! ### spoilt -/
theorem fe_inv {y : List UInt8} (h0 : (fe y).2 = 0) (h1 : (fe y).1 = y.length) : y = fr (y.drop 9) := by
  have hk := fe_ok h0
  unfold fe at h0 h1
  split at h0 <;> try (simp at h0; done)
  rename_i c0
  rw [if_neg c0] at h1
  split at h0 <;> try (simp at h0; done)
  rename_i c1
  rw [if_neg c1] at h1
  split at h0 <;> try (simp at h0; done)
  rename_i c2
  rw [if_neg c2] at h1
  split at h0 <;> try (simp at h0; done)
  rename_i c3
  rw [if_neg c3] at h1
  split at h0 <;> try (simp at h0; done)
  rename_i c4
  rw [if_neg c4] at h1
  simp only at h1
  have hm : (y.drop 9).length = le ((y.drop 1).take 4) := by rw [List.length_drop]; omega
  have l1 : ((y.drop 1).take 4).length = 4 := by rw [List.length_take, List.length_drop]; omega
  have l5 : ((y.drop 5).take 4).length = 4 := by rw [List.length_take, List.length_drop]; omega
  have e1 : (y.drop 1).take 4 = len4 (y.drop 9) := by
    refine le_inj _ _ (by rw [l1, len4_length]) ?_
    rw [le_len4 _ (by omega), hm]
  have e5 : (y.drop 5).take 4 = sum4 (y.drop 9) := by
    have c4' : le ((y.drop 5).take 4) = (crc ((y.drop 1).take 4 ++ (y.drop 9).take (le ((y.drop 1).take 4)))).toNat := by
      simpa using c4
    rw [← hm, List.take_length, e1] at c4'
    exact (four_iff _ _ l5).1 c4'
  have e0 : y.take 1 = [1] := by
    cases y with
    | nil => simp at c0
    | cons b r => simp at c1; simp [c1]
  have s1 : y = y.take 1 ++ y.drop 1 := (List.take_append_drop 1 y).symm
  have s2 : y.drop 1 = (y.drop 1).take 4 ++ y.drop 5 := by
    have := (List.take_append_drop 4 (y.drop 1)).symm
    rwa [List.drop_drop] at this
  have s3 : y.drop 5 = (y.drop 5).take 4 ++ y.drop 9 := by
    have := (List.take_append_drop 4 (y.drop 5)).symm
    rwa [List.drop_drop] at this
  conv => lhs; rw [s1, e0, s2, e1, s3, e5]
  rw [fr]; simp
theorem xor_ne {x v : UInt8} (h : v ≠ 0) : x ^^^ v ≠ x := fun e => h (by
  have : x ^^^ (x ^^^ v) = x ^^^ x := by rw [e]
  rw [← UInt8.xor_assoc, UInt8.xor_self, UInt8.zero_xor] at this; exact this)
theorem set_ne {l : List UInt8} {i : Nat} {v : UInt8} (hi : i < l.length) (h : v ≠ 0) : l.set i (l.getD i 0 ^^^ v) ≠ l := fun e => by
  have h1 := congrArg (fun q => q.getD i 0) e
  simp only [List.getD, List.getElem?_set_self hi, Option.getD_some] at h1
  exact xor_ne h h1
theorem four_inj {a b : BitVec 32} (h : four a = four b) : a = b := by
  have := congrArg le h
  rw [le_four, le_four] at this
  exact BitVec.eq_of_toNat_eq this
theorem bitAt_set (l : List UInt8) (i : Nat) (v : UInt8) (j : Nat) (h : j / 8 ≠ i) : bitAt (l.set i v) j = bitAt l j := by
  unfold bitAt
  simp only [List.getD]
  rw [List.getElem?_set_ne (fun e => h e.symm)]
/-- A spoilt frame is none of its length. -/
theorem fe_spoilt (r : List UInt8) (i : Nat) (v : UInt8) (hi : i < (fr r).length) (hv : v ≠ 0) : ¬ ((fe ((fr r).set i ((fr r).getD i 0 ^^^ v))).2 = 0 ∧ (fe ((fr r).set i ((fr r).getD i 0 ^^^ v))).1 = 9 + r.length) := by
  rintro ⟨h0, h1⟩
  have hne := set_ne hi hv
  generalize hy : (fr r).set i ((fr r).getD i 0 ^^^ v) = y at h0 h1 hne
  have hl : y.length = 9 + r.length := by rw [← hy, List.length_set, fr_length]
  have e := fe_inv h0 (by rw [h1, hl])
  have hr' : (y.drop 9).length = r.length := by rw [List.length_drop, hl]; omega
  have d9 : (fr r).drop 9 = r := by have := (fr_parts r []).2.2; simpa using this
  rcases Nat.lt_or_ge i 9 with h | h
  · have : y.drop 9 = r := by rw [← hy, List.drop_set_of_lt h, d9]
    rw [this] at e
    exact hne e
  · have d9' : y.drop 9 = r.set (i - 9) ((fr r).getD i 0 ^^^ v) := by
      rw [← hy, List.drop_set, if_neg (by omega), d9]
    have elen : len4 (y.drop 9) = len4 r := by unfold len4; rw [hr']
    have s5 : ((fr r).drop 5).take 4 = sum4 r := by have := (fr_parts r []).2.1; simpa using this
    have s5' : (y.drop 5).take 4 = sum4 (y.drop 9) := by
      have := (fr_parts (y.drop 9) []).2.1
      rw [List.append_nil, ← e] at this
      exact this
    have s5'' : (y.drop 5).take 4 = sum4 r := by
      rw [← hy, List.drop_set, if_neg (by omega), List.take_set_of_le (by omega), s5]
    have hc : crc (len4 r ++ r) = crc (len4 r ++ y.drop 9) := by
      have : sum4 (y.drop 9) = sum4 r := s5'.symm.trans s5''
      unfold sum4 at this
      rw [elen] at this
      exact (four_inj this).symm
    have hs : len4 r ++ y.drop 9 = (len4 r ++ r).set (4 + (i - 9)) ((fr r).getD i 0 ^^^ v) := by
      rw [d9', List.set_append_right _ _ (by rw [len4_length]; omega), len4_length, show 4 + (i - 9) - 4 = i - 9 by omega]
    have hrun := crc_run (len4 r ++ r) (len4 r ++ y.drop 9) (8 * (4 + (i - 9))) (by rw [List.length_append, List.length_append, hr']) (fun j hj => by rw [hs]; exact bitAt_set _ _ _ _ (by omega)) (fun j hj => by rw [hs]; exact bitAt_set _ _ _ _ (by omega)) hc
    have : y.drop 9 = r := (List.append_cancel_left hrun).symm
    rw [this] at e
    exact hne e
theorem rest_nil {y : List UInt8} (h : rest y = []) (h0 : (fe y).2 = 0) : (fe y).1 = y.length := by
  have h1 := fe_ok h0
  have h2 : (rest y).length = 0 := by rw [h]; rfl
  rw [rest, List.length_drop] at h2
  omega
theorem rec_length {y : List UInt8} (h0 : (fe y).2 = 0) : (rec y).length + 9 = (fe y).1 := by
  have h1 := fe_ok h0
  rw [rec, List.length_take, List.length_drop]; omega
/-- A spoilt entry is told. -/
theorem rdE_spoilt (a n : Nat) (r t : List UInt8) (i : Nat) (v : UInt8) (ha : a < 4294967296) (hn : n < 4294967296) (hr : r.length ≤ 65536) (hi : i < (ent a n r).length) (hv : v ≠ 0) : rdE ((ent a n r).set i ((ent a n r).getD i 0 ^^^ v) ++ t) = badR := by
  have hle := ent_length a n r
  have hlf : (fr (hd a n r.length)).length = 21 := by rw [fr_length, hd_length]
  rcases Nat.lt_or_ge i 21 with h | h
  · have e0 : (ent a n r).getD i 0 = (fr (hd a n r.length)).getD i 0 := by
      simp only [ent, List.getD]; rw [List.getElem?_append_left (by omega)]
    have e1 : (((ent a n r).set i ((ent a n r).getD i 0 ^^^ v)) ++ t).take 21 = (fr (hd a n r.length)).set i ((fr (hd a n r.length)).getD i 0 ^^^ v) := by
      rw [e0, ent, List.set_append_left _ _ (by omega), List.append_assoc, List.take_left' (by rw [List.length_set, hlf])]
    have hb : ¬ Hd ((fr (hd a n r.length)).set i ((fr (hd a n r.length)).getD i 0 ^^^ v)) := by
      rintro ⟨q1, q2, _⟩
      have := rec_length q1
      refine fe_spoilt (hd a n r.length) i v (by omega) hv ⟨q1, ?_⟩
      rw [hd_length]; omega
    unfold rdE
    rw [e1, if_neg (by simp [hle]; omega), if_pos (hdB_false hb)]
  · obtain ⟨p1, p2, p3, p4⟩ := hd_parts a n r.length ha hn hr
    have e0 : (ent a n r).getD i 0 = (fr r).getD (i - 21) 0 := by
      simp only [ent, List.getD]; rw [List.getElem?_append_right (by omega), hlf]
    have e1 : (ent a n r).set i ((ent a n r).getD i 0 ^^^ v) = fr (hd a n r.length) ++ (fr r).set (i - 21) ((fr r).getD (i - 21) 0 ^^^ v) := by
      rw [e0, ent, List.set_append_right _ _ (by omega), hlf]
    have hlr : ((fr r).set (i - 21) ((fr r).getD (i - 21) 0 ^^^ v)).length = 9 + r.length := by rw [List.length_set, fr_length]
    have e2 : Bd ((ent a n r).set i ((ent a n r).getD i 0 ^^^ v) ++ t) = (fr r).set (i - 21) ((fr r).getD (i - 21) 0 ^^^ v) := by
      unfold Bd
      rw [e1, List.append_assoc, take21, p4, drop21, List.take_left' hlr]
    have hb : ¬ ((fe ((fr r).set (i - 21) ((fr r).getD (i - 21) 0 ^^^ v))).2 = 0 ∧ rest ((fr r).set (i - 21) ((fr r).getD (i - 21) 0 ^^^ v)) = []) := by
      rintro ⟨q1, q2⟩
      have := rest_nil q2 q1
      exact fe_spoilt r (i - 21) v (by rw [fr_length]; omega) hv ⟨q1, by omega⟩
    unfold rdE
    rw [e2, if_neg hb, e1, List.append_assoc, take21, p4, if_neg (by simp [fr_length, hd_length]), if_neg (hdB_true p1), if_neg (by simp [fr_length, hd_length]; omega)]
end Go.Proofs.YtnhplbdbgiimkaaGreatDoor.C

namespace Go.Proofs.YtnhplbdbgiimkaaGreatDoor.C
set_option linter.unusedVariables false

/-- Of entries each beginning: whole entries, and what is torn. -/
theorem ents_cut (a : Nat) (ha : a < 4294967296) : ∀ (rs : List (List UInt8)) (n q : Nat), (∀ r ∈ rs, r.length ≤ 65536) → n + rs.length ≤ 4294967296 →
    ∃ j tl, j ≤ rs.length ∧ (ents a n rs).take q = ents a n (rs.take j) ++ tl ∧ rdE tl = gapR ∧ ((ents a n rs).length ≤ q → j = rs.length ∧ tl = []) ∧ (q = 0 → j = 0 ∧ tl = [])
  | [], n, q, _, _ => ⟨0, [], Nat.le_refl _, by simp [ents], rdE_nil, fun _ => ⟨rfl, rfl⟩, fun _ => ⟨rfl, rfl⟩⟩
  | r :: rs, n, q, hr, hn => by
    have h0 := hr r (List.mem_cons_self ..)
    simp only [List.length_cons] at hn
    by_cases hq : q < 30 + r.length
    · refine ⟨0, (ent a n r).take q, Nat.zero_le _, ?_, rdE_cut a n r q ha (by omega) h0 hq, fun h => ?_, fun h => ⟨rfl, by rw [h]; rfl⟩⟩
      · rw [ents, List.take_append_of_le_length (by rw [ent_length]; omega)]
        simp [ents]
      · rw [ents, List.length_append, ent_length] at h
        omega
    · obtain ⟨j, tl, h1, h2, h3, h4, h5⟩ := ents_cut a ha rs (n + 1) (q - (30 + r.length)) (fun x hx => hr x (List.mem_cons_of_mem _ hx)) (by omega)
      refine ⟨j + 1, tl, by simp only [List.length_cons]; omega, ?_, h3, fun h => ?_, fun h => by omega⟩
      · rw [ents, List.take_append, List.take_of_length_le (by rw [ent_length]; omega), ent_length, h2]
        simp [ents]
      · rw [ents, List.length_append, ent_length] at h
        obtain ⟨h6, h7⟩ := h4 (by omega)
        exact ⟨by simp only [List.length_cons]; omega, h7⟩
/-- A chunk: what one write holds of a log (and what of it is torn). -/
structure Ch where
  file : Nat
  first : Nat
  recs : List (List UInt8)
  tl : List UInt8
  safe : Bool
def Ch.bytes (a : Nat) (c : Ch) : List UInt8 := ents a c.first c.recs ++ c.tl
def Ch.key (a : Nat) (c : Ch) : Nat × List UInt8 × Bool := (c.file, c.bytes a, c.safe)
def wkey (x : Wr) : Nat × List UInt8 × Bool := (x.file, x.bytes, x.safe)
def recsL (L : List Ch) : List (List UInt8) := L.flatMap Ch.recs
theorem recsL_append (A B : List Ch) : recsL (A ++ B) = recsL A ++ recsL B := by simp [recsL]
/-- The numbers follow each other. -/
def Chain : Nat → List Ch → Prop
  | _, [] => True
  | n, c :: L => c.first = n ∧ Chain (n + c.recs.length) L
theorem chain_append : ∀ (n : Nat) (A B : List Ch), Chain n (A ++ B) ↔ Chain n A ∧ Chain (n + (recsL A).length) B
  | n, [], B => by simp [Chain, recsL]
  | n, c :: A, B => by
    simp only [List.cons_append, Chain, chain_append (n + c.recs.length) A B]
    have : n + (recsL (c :: A)).length = n + c.recs.length + (recsL A).length := by simp [recsL]; omega
    rw [this, and_assoc]
/-- Nothing stands behind what is torn. -/
def Torn (L : List Ch) : Prop := L.Pairwise fun c d => c.tl ≠ [] → d.file = c.file → d.recs = [] ∧ d.tl = []
structure Ch.Ok (a : Nat) (c : Ch) : Prop where
  recs : ∀ r ∈ c.recs, r.length ≤ 65536
  num : c.first + c.recs.length ≤ 4294967296
  tl : rdE c.tl = gapR
/-- What a fall leaves of writes that are not safe. -/
theorem crash_u (keep torn : Int) (a : Nat) (ha : a < 4294967296) : ∀ (L : List Ch) (ws : List Wr) (n m : Nat), ws.map wkey = L.map (Ch.key a) → (∀ c ∈ L, c.Ok a ∧ c.tl = [] ∧ c.safe = false) → Chain m L → m + (recsL L).length ≤ 4294967296 →
    ∃ L' j, (crashL keep torn n ws).map wkey = L'.map (Ch.key a) ∧ Chain m L' ∧ L'.map Ch.file = L.map Ch.file ∧ (∀ c ∈ L', c.safe = true ∧ c.Ok a) ∧ j ≤ (recsL L).length ∧ recsL L' = (recsL L).take j ∧ Torn L' ∧ (keep < n → ∀ c ∈ L', c.recs = [] ∧ c.tl = [])
  | [], ws, n, m, hws, _, _, _ => by
    obtain rfl : ws = [] := by simpa using hws
    exact ⟨[], 0, rfl, trivial, rfl, fun c hc => (by cases hc), Nat.le_refl _, by simp [recsL], List.Pairwise.nil, fun _ c hc => (by cases hc)⟩
  | c :: L, ws, n, m, hws, hL, hch, hm => by
    cases ws with
    | nil => simp at hws
    | cons x ws =>
      simp only [List.map_cons, List.cons.injEq] at hws
      obtain ⟨hx, hws⟩ := hws
      simp only [wkey, Ch.key, Prod.mk.injEq] at hx
      obtain ⟨x1, x2, x3⟩ := hx
      obtain ⟨hok, htl, hsf⟩ := hL c (List.mem_cons_self ..)
      obtain ⟨hc1, hc2⟩ := hch
      have hrl : recsL (c :: L) = c.recs ++ recsL L := rfl
      rw [hrl, List.length_append] at hm
      have hb : x.bytes = ents a m c.recs := by rw [x2, Ch.bytes, htl, hc1, List.append_nil]
      obtain ⟨j, tl, h1, h2, h3, h4, h5⟩ := ents_cut a ha c.recs m (stay keep torn n x.bytes.length) hok.recs (by omega)
      have hcut : cutW keep torn n x.bytes = ents a m (c.recs.take j) ++ tl := by rw [cutW, ← h2, ← hb]
      have hcr : crashL keep torn n (x :: ws) = { x with bytes := cutW keep torn n x.bytes, safe := true } :: crashL keep torn (n + 1) ws := by
        rw [crashL, if_neg (by rw [x3, hsf]; decide)]
      have hlj : (c.recs.take j).length = j := by rw [List.length_take]; omega
      by_cases hk : (n : Int) < keep
      · -- whole
        have hst : stay keep torn n x.bytes.length = x.bytes.length := by unfold stay; rw [if_pos hk]
        obtain ⟨e1, e2⟩ := h4 (by rw [hst, hb]; exact Nat.le_refl _)
        obtain ⟨L', j', g1, g2, g3, g4, g5, g6, g7, g8⟩ := crash_u keep torn a ha L ws (n + 1) (m + c.recs.length) hws (fun d hd => hL d (List.mem_cons_of_mem _ hd)) hc2 (by omega)
        refine ⟨⟨c.file, m, c.recs, [], true⟩ :: L', c.recs.length + j', ?_, ⟨rfl, g2⟩, by rw [List.map_cons, List.map_cons, g3], ?_, by rw [hrl, List.length_append]; omega, ?_, ?_, fun hkn => by omega⟩
        · rw [hcr, List.map_cons, List.map_cons, g1, hcut, e1, e2]
          simp [wkey, Ch.key, Ch.bytes, x1]
        · intro d hd
          rcases List.mem_cons.1 hd with rfl | hd
          · exact ⟨rfl, hok.recs, by simp only; omega, rdE_nil⟩
          · exact g4 d hd
        · rw [hrl, List.take_append, List.take_of_length_le (by omega), Nat.add_sub_cancel_left, ← g6]; rfl
        · exact List.pairwise_cons.2 ⟨fun d hd h => absurd rfl h, g7⟩
      · -- torn, or nothing
        obtain ⟨L', j', g1, g2, g3, g4, g5, g6, g7, g8⟩ := crash_u keep torn a ha L ws (n + 1) (m + c.recs.length) hws (fun d hd => hL d (List.mem_cons_of_mem _ hd)) hc2 (by omega)
        have hemp := g8 (by omega)
        have hnil : ∀ (M : List Ch) (q : Nat), (∀ d ∈ M, d.recs = [] ∧ d.tl = []) → (M.map fun d => (⟨d.file, q, [], [], d.safe⟩ : Ch)).map (Ch.key a) = M.map (Ch.key a) ∧ Chain q (M.map fun d => (⟨d.file, q, [], [], d.safe⟩ : Ch)) ∧ recsL (M.map fun d => (⟨d.file, q, [], [], d.safe⟩ : Ch)) = [] := fun M q hM => by
          induction M with
          | nil => exact ⟨rfl, trivial, rfl⟩
          | cons d M ih =>
            obtain ⟨i1, i2, i3⟩ := ih fun y hy => hM y (List.mem_cons_of_mem _ hy)
            obtain ⟨k1, k2⟩ := hM d (List.mem_cons_self ..)
            refine ⟨?_, ⟨rfl, by simpa using i2⟩, ?_⟩
            · rw [List.map_cons, List.map_cons, List.map_cons, i1]
              congr 1
              simp [Ch.key, Ch.bytes, k1, k2, ents]
            · have : recsL (⟨d.file, q, [], [], d.safe⟩ :: M.map fun d => (⟨d.file, q, [], [], d.safe⟩ : Ch)) = [] ++ recsL (M.map fun d => (⟨d.file, q, [], [], d.safe⟩ : Ch)) := rfl
              rw [List.map_cons, this, i3]; rfl
        obtain ⟨n1, n2, n3⟩ := hnil L' (m + j) hemp
        refine ⟨⟨c.file, m, c.recs.take j, tl, true⟩ :: L'.map (fun d => (⟨d.file, m + j, [], [], d.safe⟩ : Ch)), j, ?_, ⟨rfl, by rw [hlj]; exact n2⟩, ?_, ?_, by rw [hrl, List.length_append]; omega, ?_, ?_, fun hkn => ?_⟩
        · rw [hcr, List.map_cons, List.map_cons, n1, g1, hcut]
          simp [wkey, Ch.key, Ch.bytes, x1]
        · rw [List.map_cons, List.map_cons, List.map_map, ← g3]; rfl
        · intro d hd
          rcases List.mem_cons.1 hd with rfl | hd
          · exact ⟨rfl, fun r hr => hok.recs r (List.mem_of_mem_take hr), by simp only [hlj]; omega, h3⟩
          · obtain ⟨y, hy, rfl⟩ := List.mem_map.1 hd
            exact ⟨(g4 y hy).1, fun r hr => (by cases hr), by simp only [List.length_nil]; omega, rdE_nil⟩
        · have : recsL (⟨c.file, m, c.recs.take j, tl, true⟩ :: L'.map fun d => (⟨d.file, m + j, [], [], d.safe⟩ : Ch)) = c.recs.take j ++ recsL (L'.map fun d => (⟨d.file, m + j, [], [], d.safe⟩ : Ch)) := rfl
          rw [this, n3, List.append_nil, hrl, List.take_append_of_le_length h1]
        · refine List.pairwise_cons.2 ⟨fun d hd _ _ => ?_, ?_⟩
          · obtain ⟨y, hy, rfl⟩ := List.mem_map.1 hd
            exact ⟨rfl, rfl⟩
          · exact List.pairwise_map.2 (List.pairwise_of_forall_mem_list fun y hy z hz _ _ => ⟨rfl, rfl⟩)
        · have hst : stay keep torn n x.bytes.length = 0 := by unfold stay; rw [if_neg hk, if_neg (by omega)]
          obtain ⟨e1, e2⟩ := h5 hst
          intro d hd
          rcases List.mem_cons.1 hd with rfl | hd
          · exact ⟨by simp only [e1, List.take_zero], e2⟩
          · obtain ⟨y, hy, rfl⟩ := List.mem_map.1 hd
            exact ⟨rfl, rfl⟩
end Go.Proofs.YtnhplbdbgiimkaaGreatDoor.C

namespace Go.Proofs.YtnhplbdbgiimkaaGreatDoor.C
set_option linter.unusedVariables false

/-- The chunks of one file. -/
structure Gr where
  file : Nat
  cs : List Ch
def flat (G : List Gr) : List Ch := G.flatMap Gr.cs
theorem flat_cons (g : Gr) (G : List Gr) : flat (g :: G) = g.cs ++ flat G := rfl
theorem flat_append (A B : List Gr) : flat (A ++ B) = flat A ++ flat B := by simp [flat]
structure GOk (G : List Gr) : Prop where
  each : ∀ g ∈ G, g.cs ≠ [] ∧ ∀ c ∈ g.cs, c.file = g.file
  nodup : (G.map Gr.file).Nodup
theorem GOk.tail {g : Gr} {G : List Gr} (h : GOk (g :: G)) : GOk G := ⟨fun x hx => h.each x (List.mem_cons_of_mem _ hx), (List.nodup_cons.1 h.nodup).2⟩
theorem dat_keys (a : Nat) (k : Nat) : ∀ (ws : List Wr) (L : List Ch), ws.map wkey = L.map (Ch.key a) → dat ws k = L.flatMap fun c => if c.file = k then c.bytes a else []
  | [], L, h => by
    obtain rfl : L = [] := by simpa using h.symm
    rfl
  | x :: ws, L, h => by
    cases L with
    | nil => simp at h
    | cons c L =>
      simp only [List.map_cons, List.cons.injEq] at h
      obtain ⟨hx, h⟩ := h
      simp only [wkey, Ch.key, Prod.mk.injEq] at hx
      rw [dat, dat_keys a k ws L h, List.flatMap_cons, hx.1, hx.2.1]
theorem flat_out (a k : Nat) : ∀ (cs : List Ch), (∀ c ∈ cs, c.file ≠ k) → (cs.flatMap fun c => if c.file = k then c.bytes a else []) = []
  | [], _ => rfl
  | c :: cs, h => by rw [List.flatMap_cons, if_neg (h c (List.mem_cons_self ..)), flat_out a k cs fun d hd => h d (List.mem_cons_of_mem _ hd)]; rfl
theorem flat_in (a k : Nat) : ∀ (cs : List Ch), (∀ c ∈ cs, c.file = k) → (cs.flatMap fun c => if c.file = k then c.bytes a else []) = cs.flatMap (Ch.bytes a)
  | [], _ => rfl
  | c :: cs, h => by rw [List.flatMap_cons, if_pos (h c (List.mem_cons_self ..)), flat_in a k cs fun d hd => h d (List.mem_cons_of_mem _ hd), List.flatMap_cons]
theorem mem_flat {G : List Gr} {c : Ch} (h : c ∈ flat G) : ∃ g ∈ G, c ∈ g.cs := by
  obtain ⟨g, hg, hc⟩ := List.mem_flatMap.1 h
  exact ⟨g, hg, hc⟩
theorem flat_file {G : List Gr} (h : GOk G) {c : Ch} (hc : c ∈ flat G) : c.file ∈ G.map Gr.file := by
  obtain ⟨g, hg, hcg⟩ := mem_flat hc
  rw [(h.each g hg).2 c hcg]
  exact List.mem_map_of_mem hg
/-- A file's bytes. -/
theorem group_dat (a : Nat) : ∀ (G : List Gr), GOk G → ∀ g ∈ G, ((flat G).flatMap fun c => if c.file = g.file then c.bytes a else []) = g.cs.flatMap (Ch.bytes a)
  | [], _, g, hg => by cases hg
  | x :: G, h, g, hg => by
    obtain ⟨hn1, hn2⟩ := List.nodup_cons.1 h.nodup
    rw [flat_cons, List.flatMap_append]
    rcases List.mem_cons.1 hg with rfl | hg
    · rw [flat_in a _ _ (h.each g (List.mem_cons_self ..)).2, flat_out a _ (flat G) fun c hc e => hn1 (by rw [← e]; exact flat_file h.tail hc), List.append_nil]
    · have hne : ∀ c ∈ x.cs, c.file ≠ g.file := fun c hc e => hn1 (by
        rw [(h.each x (List.mem_cons_self ..)).2 c hc] at e
        rw [e]; exact List.mem_map_of_mem hg)
      rw [flat_out a _ _ hne, List.nil_append]
      exact group_dat a G h.tail g hg
theorem group_none (a : Nat) {G : List Gr} (h : GOk G) {k : Nat} (hk : ¬ k ∈ G.map Gr.file) : ((flat G).flatMap fun c => if c.file = k then c.bytes a else []) = [] :=
  flat_out a k _ fun c hc e => hk (by rw [← e]; exact flat_file h hc)
theorem tls_nil {cs : List Ch} (h : ∀ c ∈ cs, c.recs = [] ∧ c.tl = []) (a : Nat) : cs.flatMap (Ch.bytes a) = [] ∧ cs.flatMap Ch.tl = [] ∧ recsL cs = [] := by
  induction cs with
  | nil => exact ⟨rfl, rfl, rfl⟩
  | cons c cs ih =>
    obtain ⟨i1, i2, i3⟩ := ih fun d hd => h d (List.mem_cons_of_mem _ hd)
    obtain ⟨k1, k2⟩ := h c (List.mem_cons_self ..)
    refine ⟨?_, ?_, ?_⟩
    · rw [List.flatMap_cons, i1, Ch.bytes, k1, k2]; rfl
    · rw [List.flatMap_cons, i2, k2]; rfl
    · show c.recs ++ recsL cs = []
      rw [i3, k1]; rfl
/-- A file's bytes are whole entries and what is torn. -/
theorem group_bytes (a k : Nat) : ∀ (cs : List Ch) (q : Nat), Chain q cs → Torn cs → (∀ c ∈ cs, c.file = k) → cs.flatMap (Ch.bytes a) = ents a q (recsL cs) ++ cs.flatMap Ch.tl
  | [], q, _, _, _ => by simp [recsL, ents]
  | c :: cs, q, hch, ht, hf => by
    obtain ⟨h1, h2⟩ := hch
    obtain ⟨t1, t2⟩ := List.pairwise_cons.1 ht
    have hr : recsL (c :: cs) = c.recs ++ recsL cs := rfl
    by_cases htl : c.tl = []
    · rw [List.flatMap_cons, group_bytes a k cs _ h2 t2 fun d hd => hf d (List.mem_cons_of_mem _ hd), List.flatMap_cons, hr, ents_append, Ch.bytes, htl, h1]
      simp
    · have hemp : ∀ d ∈ cs, d.recs = [] ∧ d.tl = [] := fun d hd => t1 d hd htl (by rw [hf d (List.mem_cons_of_mem _ hd), hf c (List.mem_cons_self ..)])
      obtain ⟨e1, e2, e3⟩ := tls_nil hemp a
      rw [List.flatMap_cons, List.flatMap_cons, e1, e2, hr, e3, Ch.bytes, h1]
      simp
theorem group_tl (k : Nat) : ∀ (cs : List Ch), Torn cs → (∀ c ∈ cs, c.file = k ∧ rdE c.tl = gapR) → rdE (cs.flatMap Ch.tl) = gapR
  | [], _, _ => rdE_nil
  | c :: cs, ht, hf => by
    obtain ⟨t1, t2⟩ := List.pairwise_cons.1 ht
    obtain ⟨hc1, hc2⟩ := hf c (List.mem_cons_self ..)
    by_cases htl : c.tl = []
    · rw [List.flatMap_cons, htl, List.nil_append]
      exact group_tl k cs t2 fun d hd => hf d (List.mem_cons_of_mem _ hd)
    · have hemp : ∀ d ∈ cs, d.recs = [] ∧ d.tl = [] := fun d hd => t1 d hd htl (by rw [(hf d (List.mem_cons_of_mem _ hd)).1, hc1])
      rw [List.flatMap_cons, (tls_nil hemp 0).2.1, List.append_nil]
      exact hc2
/-- The same files, so the same groups. -/
theorem regroup : ∀ (G : List Gr) (L : List Ch), GOk G → L.map Ch.file = (flat G).map Ch.file → ∃ G', L = flat G' ∧ GOk G' ∧ G'.map Gr.file = G.map Gr.file
  | [], L, _, h => by
    obtain rfl : L = [] := by simpa [flat] using h
    exact ⟨[], rfl, ⟨fun g hg => (by cases hg), List.nodup_nil⟩, rfl⟩
  | g :: G, L, hg, h => by
    rw [flat_cons, List.map_append] at h
    obtain ⟨A, B, rfl, hA, hB⟩ := List.map_eq_append_iff.1 h
    obtain ⟨G', e1, e2, e3⟩ := regroup G B hg.tail hB
    obtain ⟨hn, hc⟩ := hg.each g (List.mem_cons_self ..)
    refine ⟨⟨g.file, A⟩ :: G', by rw [flat_cons, ← e1], ⟨fun x hx => ?_, ?_⟩, by rw [List.map_cons, List.map_cons, e3]⟩
    · rcases List.mem_cons.1 hx with rfl | hx
      · refine ⟨fun e => hn ?_, fun c hcA => ?_⟩
        · simp only at e
          subst e
          simpa using hA.symm
        · have h1 : c.file ∈ A.map Ch.file := List.mem_map_of_mem hcA
          rw [hA] at h1
          obtain ⟨d, hd, e⟩ := List.mem_map.1 h1
          rw [← e]; exact hc d hd
      · exact e2.each x hx
    · rw [List.map_cons, e3, ← List.map_cons (f := Gr.file)]
      exact hg.nodup
def st (a : Nat) : Nat := if a = 0 then 1 else 0
/-- A log on a disk: its age, its chunks file by file. -/
structure LogW (s : St) (a : Nat) (G : List Gr) : Prop where
  age : a < 4294967296
  ws : s.ws.map wkey = (flat G).map (Ch.key a)
  gs : GOk G
  chain : Chain (st a) (flat G)
  torn : Torn (flat G)
  ok : ∀ c ∈ flat G, c.Ok a
  uns : ∀ c ∈ flat G, c.safe = false → c.tl = [] ∧ c.recs ≠ []
  ahead : (flat G).Pairwise fun c d => d.safe = true → c.safe = true
  files : ∀ k, s.is k = true ↔ k ∈ G.map Gr.file
  few : st a + (recsL (flat G)).length ≤ 4294967296
  base : 0 < a → ∃ c L, flat G = c :: L ∧ c.safe = true ∧ c.recs ≠ []
/-- The records that are safe. -/
def safeN (L : List Ch) : Nat := (recsL (L.filter Ch.safe)).length
theorem split_safe : ∀ (L : List Ch), L.Pairwise (fun c d => d.safe = true → c.safe = true) → ∃ A B, L = A ++ B ∧ (∀ c ∈ A, c.safe = true) ∧ (∀ c ∈ B, c.safe = false)
  | [], _ => ⟨[], [], rfl, fun c hc => (by cases hc), fun c hc => (by cases hc)⟩
  | c :: L, h => by
    obtain ⟨h1, h2⟩ := List.pairwise_cons.1 h
    cases hs : c.safe with
    | true =>
      obtain ⟨A, B, e, hA, hB⟩ := split_safe L h2
      refine ⟨c :: A, B, by rw [e]; rfl, fun d hd => ?_, hB⟩
      rcases List.mem_cons.1 hd with rfl | hd
      · exact hs
      · exact hA d hd
    | false =>
      refine ⟨[], c :: L, rfl, fun d hd => (by cases hd), fun d hd => ?_⟩
      rcases List.mem_cons.1 hd with rfl | hd
      · exact hs
      · cases hd' : d.safe with
        | false => rfl
        | true => have := h1 d hd hd'; rw [hs] at this; cases this
theorem crash_safe_part (keep torn : Int) (a : Nat) : ∀ (A : List Ch) (ws1 ws2 : List Wr) (n : Nat), ws1.map wkey = A.map (Ch.key a) → (∀ c ∈ A, c.safe = true) → crashL keep torn n (ws1 ++ ws2) = ws1 ++ crashL keep torn n ws2
  | [], ws1, ws2, n, h, _ => by
    obtain rfl : ws1 = [] := by simpa using h
    rfl
  | c :: A, ws1, ws2, n, h, hs => by
    cases ws1 with
    | nil => simp at h
    | cons x ws1 =>
      simp only [List.map_cons, List.cons.injEq] at h
      obtain ⟨hx, h⟩ := h
      simp only [wkey, Ch.key, Prod.mk.injEq] at hx
      rw [List.cons_append, crashL, if_pos (by rw [hx.2.2]; exact hs c (List.mem_cons_self ..)), crash_safe_part keep torn a A ws1 ws2 n h fun d hd => hs d (List.mem_cons_of_mem _ hd)]
      rfl
/-- A fall: of the records a beginning is there, at least what was safe; all that is there is safe then. -/
theorem LogW.crash {s : St} {a : Nat} {G : List Gr} (h : LogW s a G) (keep torn : Int) : ∃ G' j, LogW (crashS s keep torn) a G' ∧ (∀ c ∈ flat G', c.safe = true) ∧ safeN (flat G) ≤ j ∧ j ≤ (recsL (flat G)).length ∧ recsL (flat G') = (recsL (flat G)).take j ∧ (keep < 0 → j = safeN (flat G)) := by
  obtain ⟨A, B, hAB, hA, hB⟩ := split_safe _ h.ahead
  have hws := h.ws
  rw [hAB, List.map_append] at hws
  obtain ⟨ws1, ws2, hw, hw1, hw2⟩ := List.map_eq_append_iff.1 hws
  obtain ⟨c1, c2⟩ := (chain_append (st a) A B).1 (by rw [← hAB]; exact h.chain)
  have hfew := h.few
  rw [hAB, recsL_append, List.length_append] at hfew
  have hmB : ∀ c ∈ B, c ∈ flat G := fun c hc => by rw [hAB]; exact List.mem_append_right _ hc
  have hmA : ∀ c ∈ A, c ∈ flat G := fun c hc => by rw [hAB]; exact List.mem_append_left _ hc
  obtain ⟨B', j, g1, g2, g3, g4, g5, g6, g7, g8⟩ := crash_u keep torn a h.age B ws2 0 _ hw2 (fun c hc => ⟨h.ok c (hmB c hc), (h.uns c (hmB c hc) (hB c hc)).1, hB c hc⟩) c2 (by omega)
  obtain ⟨G', e1, e2, e3⟩ := regroup G (A ++ B') h.gs (by rw [hAB, List.map_append, List.map_append, g3])
  have ht := h.torn
  rw [hAB] at ht
  obtain ⟨t1, t2, t3⟩ := List.pairwise_append.1 ht
  have hall : ∀ c ∈ A ++ B', c.safe = true ∧ c.Ok a := fun c hc => by
    rcases List.mem_append.1 hc with hc | hc
    · exact ⟨hA c hc, h.ok c (hmA c hc)⟩
    · exact g4 c hc
  have hrec : recsL (A ++ B') = (recsL (flat G)).take ((recsL A).length + j) := by
    have h1 : recsL (flat G) = recsL A ++ recsL B := by rw [hAB, recsL_append]
    have h2 : (recsL A ++ recsL B).take ((recsL A).length + j) = recsL A ++ (recsL B).take j := by
      rw [List.take_append, List.take_of_length_le (by omega), Nat.add_sub_cancel_left]
    rw [h1, h2, recsL_append, g6]
  refine ⟨G', (recsL A).length + j, ⟨h.age, ?_, e2, ?_, ?_, fun c hc => (hall c (by rw [e1]; exact hc)).2, fun c hc hs => ?_, ?_, fun k => by rw [e3]; exact h.files k, ?_, fun h0 => ?_⟩, fun c hc => (hall c (by rw [e1]; exact hc)).1, ?_, ?_, by rw [← e1]; exact hrec, fun hk => ?_⟩
  · show (crashL keep torn 0 s.ws).map wkey = _
    rw [hw, crash_safe_part keep torn a A ws1 ws2 0 hw1 hA, List.map_append, hw1, g1, ← e1, List.map_append]
  · rw [← e1]
    exact (chain_append (st a) A B').2 ⟨c1, g2⟩
  · rw [← e1]
    refine List.pairwise_append.2 ⟨t1, g7, fun c hc d hd htl hfd => ?_⟩
    have hdf : d.file ∈ B'.map Ch.file := List.mem_map_of_mem hd
    rw [g3] at hdf
    obtain ⟨d0, hd0, he⟩ := List.mem_map.1 hdf
    have h1 := t3 c hc d0 hd0 htl (by rw [he, hfd])
    exact absurd h1.1 (h.uns d0 (hmB d0 hd0) (hB d0 hd0)).2
  · have := (hall c (by rw [e1]; exact hc)).1
    rw [hs] at this; cases this
  · rw [← e1]
    exact List.pairwise_of_forall_mem_list fun c hc d hd _ => (hall c hc).1
  · rw [← e1, hrec, List.length_take]
    have := h.few
    omega
  · obtain ⟨c, L, hc, hs, hr⟩ := h.base h0
    rw [hAB] at hc
    cases A with
    | nil =>
      have := hB c (by rw [List.nil_append] at hc; rw [hc]; exact List.mem_cons_self ..)
      rw [hs] at this; cases this
    | cons c' A =>
      rw [List.cons_append, List.cons.injEq] at hc
      exact ⟨c', A ++ B', by rw [← e1]; rfl, by rw [hc.1]; exact hs, by rw [hc.1]; exact hr⟩
  · have : (flat G).filter Ch.safe = A := by
      rw [hAB, List.filter_append, List.filter_eq_self.2 hA, List.filter_eq_nil_iff.2 (fun c hc => by rw [hB c hc]; decide), List.append_nil]
    unfold safeN
    rw [this]; omega
  · rw [hAB, recsL_append, List.length_append]; omega
  · have h1 : (flat G).filter Ch.safe = A := by
      rw [hAB, List.filter_append, List.filter_eq_self.2 hA, List.filter_eq_nil_iff.2 (fun c hc => by rw [hB c hc]; decide), List.append_nil]
    have h2 : recsL B' = [] := (tls_nil (g8 (by simpa using hk)) a).2.2
    have h3 := congrArg List.length g6
    rw [h2, List.length_take] at h3
    unfold safeN
    rw [h1]
    simp only [List.length_nil] at h3
    omega
end Go.Proofs.YtnhplbdbgiimkaaGreatDoor.C
