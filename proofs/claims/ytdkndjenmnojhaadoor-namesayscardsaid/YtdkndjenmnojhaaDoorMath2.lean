/-
  Plain Lean on what package name's functions give: order, cuts, what is written again is read again.
-/
import Derived.Test.YtdkndjenmnojhaaDoorWFold
namespace Go.Proofs.YtdkndjenmnojhaaDoor
namespace M
open Go.Lib
set_option linter.unusedVariables false

theorem sgn_bd (x y : Int) : -1 ≤ sgn x y ∧ sgn x y ≤ 1 := by unfold sgn; split <;> (try split) <;> omega
theorem sgn_swap (x y : Int) : sgn x y = - sgn y x := by
  unfold sgn
  by_cases h : x = y
  · subst h; simp
  · by_cases h2 : x < y
    · rw [if_neg h, if_pos h2, if_neg (by omega), if_neg (by omega)]
    · rw [if_neg h, if_neg h2, if_neg (by omega), if_pos (by omega)]; rfl
theorem cmpR_bd : ∀ a b : List Nat, -1 ≤ cmpR a b ∧ cmpR a b ≤ 1
  | [], [] => by decide
  | [], _ :: _ => by simp [cmpR]
  | _ :: _, [] => by simp [cmpR]
  | x :: a, y :: b => by
    unfold cmpR
    split
    · exact cmpR_bd a b
    · exact sgn_bd x y
theorem cmpR_swap : ∀ a b : List Nat, cmpR a b = - cmpR b a
  | [], [] => by decide
  | [], _ :: _ => by simp [cmpR]
  | _ :: _, [] => by simp [cmpR]
  | x :: a, y :: b => by
    unfold cmpR
    by_cases h : x = y
    · subst h; simp only [if_true]; exact cmpR_swap a b
    · rw [if_neg h, if_neg (fun e => h e.symm)]; exact sgn_swap x y
theorem cmpR_self : ∀ a : List Nat, cmpR a a = 0
  | [] => rfl
  | x :: a => by unfold cmpR; rw [if_pos rfl]; exact cmpR_self a
theorem sgn_le {x y : Nat} (h : x ≠ y) : sgn x y ≤ 0 ↔ x < y := by
  unfold sgn
  rw [if_neg (by omega)]
  split <;> omega
theorem cmpR_trans : ∀ a b c : List Nat, cmpR a b ≤ 0 → cmpR b c ≤ 0 → cmpR a c ≤ 0
  | [], _, [], _, _ => by decide
  | [], _, _ :: _, _, _ => by simp [cmpR]
  | _ :: _, [], _, h, _ => by simp [cmpR] at h
  | x :: a, y :: b, [], _, k => by simp [cmpR] at k
  | x :: a, y :: b, z :: c, h, k => by
    unfold cmpR at h k ⊢
    by_cases h1 : x = y
    · subst h1
      by_cases h2 : x = z
      · subst h2
        simp only [if_true] at h k ⊢
        exact cmpR_trans a b c h k
      · rw [if_neg h2] at k ⊢; exact k
    · rw [if_neg h1, sgn_le h1] at h
      by_cases h2 : y = z
      · subst h2
        rw [if_neg h1, sgn_le h1]; exact h
      · rw [if_neg h2, sgn_le h2] at k
        rw [if_neg (by omega), sgn_le (by omega)]; omega

theorem u8 (n : Nat) (h : n < 256) : (n.toUInt8).toNat = n := by simp [Nat.toUInt8, UInt8.toNat_ofNat', Nat.mod_eq_of_lt h]
theorem u8i (x : Int) (h0 : 0 ≤ x) (h : x < 256) : (x.toNat.toUInt8).toNat = x.toNat := u8 _ (by omega)

set_option maxHeartbeats 1000000 in
/-- What a rune is written as is read as that rune. -/
theorem dec_encode (r : Nat) (h : r ≤ 1114111) (hs : ¬ (55296 ≤ r ∧ r ≤ 57343)) (rest : List UInt8) :
    dec (encodeRune r ++ rest) = (r, (encodeRune r).length) := by
  unfold encodeRune
  by_cases h1 : r ≤ 127
  · rw [encodeRuneZ_one (by omega) (by omega)]
    have e := u8i (r : Int) (by omega) (by omega)
    simp only [dec, List.map_cons, List.map_nil, List.cons_append, List.nil_append, List.length_cons, List.length_nil, List.getD_cons_zero, e]
    unfold decodeN
    rw [if_pos (by omega)]
    simp
  · by_cases h2 : r ≤ 2047
    · rw [encodeRuneZ_two (by omega) (by omega)]
      have e0 := u8i (192 + (r : Int) / 64) (by omega) (by omega)
      have e1 := u8i (128 + (r : Int) % 64) (by omega) (by omega)
      simp only [dec, List.map_cons, List.map_nil, List.cons_append, List.nil_append, List.length_cons, List.length_nil, List.getD_cons_zero, List.getD_cons_succ, e0, e1]
      unfold decodeN
      rw [if_neg (by omega), if_pos (by omega), if_pos (by omega)]
      refine Prod.ext ?_ rfl
      show _ = r
      omega
    · by_cases h3 : r ≤ 65535
      · rw [encodeRuneZ_three (by omega)]
        have e0 := u8i (224 + (r : Int) / 4096) (by omega) (by omega)
        have e1 := u8i (128 + (r : Int) / 64 % 64) (by omega) (by omega)
        have e2 := u8i (128 + (r : Int) % 64) (by omega) (by omega)
        simp only [dec, List.map_cons, List.map_nil, List.cons_append, List.nil_append, List.length_cons, List.length_nil, List.getD_cons_zero, List.getD_cons_succ, e0, e1, e2]
        unfold decodeN
        have v : (224 + (r : Int) / 4096).toNat % 16 * 4096 + (128 + (r : Int) / 64 % 64).toNat % 64 * 64 + (128 + (r : Int) % 64).toNat % 64 = r := by omega
        rw [if_neg (by omega), if_neg (by omega), if_pos (by omega), v, if_pos (by omega)]
      · rw [encodeRuneZ_four (by omega) (by omega)]
        have e0 := u8i (240 + (r : Int) / 262144) (by omega) (by omega)
        have e1 := u8i (128 + (r : Int) / 4096 % 64) (by omega) (by omega)
        have e2 := u8i (128 + (r : Int) / 64 % 64) (by omega) (by omega)
        have e3 := u8i (128 + (r : Int) % 64) (by omega) (by omega)
        simp only [dec, List.map_cons, List.map_nil, List.cons_append, List.nil_append, List.length_cons, List.length_nil, List.getD_cons_zero, List.getD_cons_succ, e0, e1, e2, e3]
        unfold decodeN
        have v : (240 + (r : Int) / 262144).toNat % 8 * 262144 + (128 + (r : Int) / 4096 % 64).toNat % 64 * 4096 + (128 + (r : Int) / 64 % 64).toNat % 64 * 64 + (128 + (r : Int) % 64).toNat % 64 = r := by omega
        rw [if_neg (by omega), if_neg (by omega), if_neg (by omega), if_pos (by omega), v, if_pos (by omega)]

theorem encodeRune_ne (r : Int) : encodeRune r ≠ [] := by
  have := (encodeRuneZ_length r).1
  intro e
  have h := congrArg List.length e
  unfold encodeRune at h
  simp at h
  rw [h] at this; simp at this
/-- Runes written one behind the other are read again. -/
theorem runes_write : ∀ (rs : List Nat), (∀ r ∈ rs, r ≤ 1114111 ∧ ¬ (55296 ≤ r ∧ r ≤ 57343)) → runes (rs.flatMap fun (r : Nat) => encodeRune (r : Int)) = rs
  | [], _ => rfl
  | r :: t, h => by
    have hr := h r (List.mem_cons_self ..)
    have hd := dec_encode r hr.1 hr.2 (t.flatMap fun (r : Nat) => encodeRune (r : Int))
    rw [List.flatMap_cons, runes_cons _ (by simp [encodeRune_ne]), hd]
    rw [List.drop_left, runes_write t fun x hx => h x (List.mem_cons_of_mem _ hx)]
/-- Each rune made small. -/
def low (r : Nat) : Nat := (toLowerU r).toNat
theorem low_valid (r : Nat) (h : r ≤ 1114111) (hs : ¬ (55296 ≤ r ∧ r ≤ 57343)) : low r ≤ 1114111 ∧ ¬ (55296 ≤ low r ∧ low r ≤ 57343) := by
  have := lower_valid r h hs
  unfold low; omega
theorem low_cast (r : Nat) (h : r ≤ 1114111) (hs : ¬ (55296 ≤ r ∧ r ≤ 57343)) : ((low r : Nat) : Int) = toLowerU r := by
  have := lower_valid r h hs
  unfold low; omega
theorem foldR_low : ∀ (rs : List Nat), (∀ r ∈ rs, r ≤ 1114111 ∧ ¬ (55296 ≤ r ∧ r ≤ 57343)) → foldR rs = (rs.map low).flatMap fun (r : Nat) => encodeRune (r : Int)
  | [], _ => rfl
  | r :: t, h => by
    have hr := h r (List.mem_cons_self ..)
    have ih := foldR_low t fun x hx => h x (List.mem_cons_of_mem _ hx)
    unfold foldR at ih ⊢
    rw [List.flatMap_cons, List.map_cons, List.flatMap_cons, low_cast r hr.1 hr.2, ih]
theorem runes_fold (l : List UInt8) : runes (fold l) = (runes l).map low := by
  have hv := runes_valid l
  unfold fold
  rw [foldR_low _ hv]
  apply runes_write
  intro r hr
  obtain ⟨x, hx, rfl⟩ := List.mem_map.1 hr
  exact low_valid x (hv x hx).1 (hv x hx).2
theorem toks_fold_length (l : List UInt8) : (toks (fold l)).length = (toks l).length := by
  have := congrArg List.length (runes_fold l)
  unfold runes at this
  simpa using this
theorem fold_length (l : List UInt8) : (fold l).length ≤ 4 * l.length := by
  have h1 : ∀ rs : List Nat, (foldR rs).length ≤ 4 * rs.length := by
    intro rs
    induction rs with
    | nil => simp [foldR]
    | cons r t ih =>
      have := (encodeRuneZ_length (toLowerU r)).2
      have e : (encodeRune (toLowerU r)).length = (encodeRuneZ (toLowerU r)).length := by unfold encodeRune; rw [List.length_map]
      unfold foldR at ih ⊢
      rw [List.flatMap_cons, List.length_append, List.length_cons]
      omega
  have h2 := toks_length_le l
  have h3 := h1 (runes l)
  unfold fold
  unfold runes at h3 ⊢
  rw [List.length_map] at h3
  omega
end M
end Go.Proofs.YtdkndjenmnojhaaDoor
namespace Go.Proofs.YtdkndjenmnojhaaDoor
namespace M
/-- A name's beginning is a name. -/
theorem goodGo_take : ∀ (rs : List Nat) (c k : Nat), goodGo c rs = true → (0 < c ∨ 0 < k) → goodGo c (rs.take k) = true
  | [], c, k, h, _ => by simpa using h
  | r :: t, c, 0, h, hc => by
    rcases hc with hc | hc
    · simp [goodGo, hc]
    · omega
  | r :: t, c, k + 1, h, hc => by
    unfold goodGo at h
    rw [List.take_succ_cons]
    unfold goodGo
    split at h
    · cases h
    · rename_i h20
      split at h
      · rename_i hm
        rw [if_neg h20, if_pos hm]
        exact goodGo_take t (c + 1) k h (Or.inl (by omega))
      · cases h
theorem toks_cut (l : List UInt8) (n : Int) : toks (cut l n) = (toks l).take n.toNat := toks_flat_take l _
theorem good_cut (l : List UInt8) (n : Int) (hn : 1 ≤ n) (h : good l = true) : good (cut l n) = true := by
  unfold good runes at h ⊢
  rw [toks_cut, List.map_take]
  exact goodGo_take _ 0 _ h (Or.inr (by omega))
theorem cut_prefix (l : List UInt8) (n : Int) : cut l n = l.take (cut l n).length := flat_take_prefix l _
theorem cut_rest (l : List UInt8) (n : Int) : l.drop (cut l n).length = flat ((toks l).drop n.toNat) := by
  have h : cut l n ++ flat ((toks l).drop n.toNat) = l := by
    unfold cut; rw [← flat_append, List.take_append_drop, flat_toks]
  conv => lhs; arg 2; rw [← h]
  simp
theorem cut_whole (l : List UInt8) (n : Int) : cut l n ++ l.drop (cut l n).length = l := by
  conv => lhs; arg 1; rw [cut_prefix l n]
  rw [List.take_append_drop]
theorem cut_counts (l : List UInt8) (n : Int) : (toks (cut l n)).length + (toks (l.drop (cut l n).length)).length = (toks l).length := by
  rw [toks_cut, cut_rest, toks_flat_drop, ← List.length_append, List.take_append_drop]
theorem cut_length (l : List UInt8) (n : Int) : (cut l n).length ≤ l.length := by
  have := congrArg List.length (cut_whole l n)
  simp at this; omega
end M
end Go.Proofs.YtdkndjenmnojhaaDoor
namespace Go.Proofs.YtdkndjenmnojhaaDoor
namespace M
open Go.Lib
set_option linter.unusedVariables false
theorem dec_ascii (b : UInt8) (t : List UInt8) (h : b.toNat ≤ 126) : dec (b :: t) = (b.toNat, 1) := by
  unfold dec decodeN
  simp only [List.getD_cons_zero]
  rw [if_pos (by omega)]
theorem runes_ascii : ∀ (s t : List UInt8), (∀ b ∈ s, b.toNat ≤ 126) → runes (s ++ t) = s.map (·.toNat) ++ runes t
  | [], t, _ => rfl
  | b :: s, t, h => by
    have hb := h b (List.mem_cons_self ..)
    have ih := runes_ascii s t fun x hx => h x (List.mem_cons_of_mem _ hx)
    rw [List.cons_append, runes_cons _ (by simp), dec_ascii b (s ++ t) hb, List.map_cons, List.cons_append]
    simp only [List.drop_succ_cons, List.drop_zero, ih]
theorem runes_ascii' (s : List UInt8) (h : ∀ b ∈ s, b.toNat ≤ 126) : runes s = s.map (·.toNat) := by
  have := runes_ascii s [] h
  simpa [runes_nil] using this
theorem foldR_append (a b : List Nat) : foldR (a ++ b) = foldR a ++ foldR b := by unfold foldR; rw [List.flatMap_append]
theorem fold_join (s t : List UInt8) (h : ∀ b ∈ s, b.toNat ≤ 126) : fold (s ++ t) = fold s ++ fold t := by
  unfold fold
  rw [runes_ascii s t h, runes_ascii' s h, foldR_append]
theorem low_low (r : Nat) (h : r ≤ 126) : toLowerU (low r) = toLowerU r := by
  unfold low toLowerU
  rw [if_pos (by omega : (r : Int) ≤ 127)]
  split
  · rw [if_pos (by omega), if_neg (by omega)]; omega
  · rw [if_pos (by omega)]
    rename_i h'
    rw [if_neg (by omega)]; omega
theorem foldR_low2 : ∀ rs : List Nat, (∀ r ∈ rs, r ≤ 126) → foldR (rs.map low) = foldR rs
  | [], _ => rfl
  | r :: t, h => by
    have ih := foldR_low2 t fun x hx => h x (List.mem_cons_of_mem _ hx)
    unfold foldR at ih ⊢
    rw [List.map_cons, List.flatMap_cons, List.flatMap_cons, low_low r (h r (List.mem_cons_self ..)), ih]
theorem runes_126 (s : List UInt8) (h : ∀ b ∈ s, b.toNat ≤ 126) : ∀ r ∈ runes s, r ≤ 126 := by
  rw [runes_ascii' s h]
  intro r hr
  obtain ⟨b, hb, rfl⟩ := List.mem_map.1 hr
  exact h b hb
theorem fold_fold (s : List UInt8) (h : ∀ b ∈ s, b.toNat ≤ 126) : fold (fold s) = fold s := by
  show foldR (runes (fold s)) = foldR (runes s)
  rw [runes_fold, foldR_low2 _ (runes_126 s h)]
set_option maxRecDepth 100000 in
theorem may_low_all : ((List.range 127).all fun r => mayStand (low r) true == mayStand r true && mayStand (low r) false == mayStand r false) = true := by kernel_rfl
theorem may_low (r : Nat) (h : r ≤ 126) (f : Bool) : mayStand (low r) f = mayStand r f := by
  have := List.all_eq_true.1 may_low_all r (List.mem_range.2 (by omega))
  simp only [Bool.and_eq_true, beq_iff_eq] at this
  cases f
  · exact this.2
  · exact this.1
theorem goodGo_low : ∀ (rs : List Nat) (c : Nat), (∀ r ∈ rs, r ≤ 126) → goodGo c (rs.map low) = goodGo c rs
  | [], _, _ => rfl
  | r :: t, c, h => by
    rw [List.map_cons]
    unfold goodGo
    rw [may_low r (h r (List.mem_cons_self ..)), goodGo_low t (c + 1) fun x hx => h x (List.mem_cons_of_mem _ hx)]
theorem good_fold (s : List UInt8) (h : ∀ b ∈ s, b.toNat ≤ 126) : good (fold s) = good s := by
  unfold good
  rw [runes_fold, goodGo_low _ _ (runes_126 s h)]
end M
end Go.Proofs.YtdkndjenmnojhaaDoor
