/-
  Tallies: two clocks of seven numbers up to 2^50: counted on, merged, written, read.
-/
import Derived.Test.YtnkfabonggofgaaVMath
namespace Go.Proofs.Ytnkfabonggofgaa
namespace C
structure Ta where
  u : V7
  d : V7
def zero77 : V7 := ⟨0, 0, 0, 0, 0, 0, 0⟩
def zeroT : Ta := ⟨zero77, zero77⟩
def set7 (a : V7) (k : Nat) (x : Int) : V7 := match k with | 0 => { a with x0 := x } | 1 => { a with x1 := x } | 2 => { a with x2 := x } | 3 => { a with x3 := x } | 4 => { a with x4 := x } | 5 => { a with x5 := x } | _ => { a with x6 := x }
def ok50 (a : V7) : Prop := (0 ≤ a.x0 ∧ a.x0 ≤ 1125899906842624) ∧ (0 ≤ a.x1 ∧ a.x1 ≤ 1125899906842624) ∧ (0 ≤ a.x2 ∧ a.x2 ≤ 1125899906842624) ∧ (0 ≤ a.x3 ∧ a.x3 ≤ 1125899906842624) ∧ (0 ≤ a.x4 ∧ a.x4 ≤ 1125899906842624) ∧ (0 ≤ a.x5 ∧ a.x5 ≤ 1125899906842624) ∧ (0 ≤ a.x6 ∧ a.x6 ≤ 1125899906842624)
structure Ta.Ok (T : Ta) : Prop where
  u : ok50 T.u
  d : ok50 T.d
theorem sev {k : Nat} (h : k < 7) : k = 0 ∨ k = 1 ∨ k = 2 ∨ k = 3 ∨ k = 4 ∨ k = 5 ∨ k = 6 := by omega
theorem ok50_zero : ok50 zero77 := by unfold ok50 zero77; decide
theorem zeroT_ok : zeroT.Ok := ⟨ok50_zero, ok50_zero⟩
theorem ok50_at {a : V7} (h : ok50 a) (k : Nat) : 0 ≤ at7 a k ∧ at7 a k ≤ 1125899906842624 := by
  obtain ⟨h0, h1, h2, h3, h4, h5, h6⟩ := h
  unfold at7
  split <;> assumption
theorem ok50_set {a : V7} (h : ok50 a) (k : Nat) {x : Int} (hx : 0 ≤ x ∧ x ≤ 1125899906842624) : ok50 (set7 a k x) := by
  obtain ⟨h0, h1, h2, h3, h4, h5, h6⟩ := h
  unfold set7
  split <;> exact ⟨by assumption, by assumption, by assumption, by assumption, by assumption, by assumption, by assumption⟩
theorem ok50_fits {a : V7} (h : ok50 a) : fits7 a := by
  unfold ok50 at h; unfold fits7 fits; omega
theorem ok50_mrg {a b : V7} (h : ok50 a) (k : ok50 b) : ok50 (mrg a b) := by
  unfold ok50 at *; unfold mrg; simp only; omega
/-- Refused at once. -/
def argBad (r b : Int) : Bool := decide (r < 0) || decide (6 < r) || decide (b < -1099511627776) || decide (1099511627776 < b)
def addT (T : Ta) (r b : Int) : Ta :=
  if argBad r b then T
  else if b < 0 then (if 1125899906842624 < at7 T.d r.toNat - b then T else ⟨T.u, set7 T.d r.toNat (at7 T.d r.toNat - b)⟩)
  else (if 1125899906842624 < at7 T.u r.toNat + b then T else ⟨set7 T.u r.toNat (at7 T.u r.toNat + b), T.d⟩)
def errT (T : Ta) (r b : Int) : Int :=
  if argBad r b then 1
  else if b < 0 then (if 1125899906842624 < at7 T.d r.toNat - b then 2 else 0)
  else (if 1125899906842624 < at7 T.u r.toNat + b then 2 else 0)
theorem addT_ok {T : Ta} (h : T.Ok) (r b : Int) : (addT T r b).Ok := by
  unfold addT
  have hu := ok50_at h.u r.toNat
  have hd := ok50_at h.d r.toNat
  split
  · exact h
  · split
    · split
      · exact h
      · exact ⟨h.u, ok50_set h.d _ (by omega)⟩
    · split
      · exact h
      · exact ⟨ok50_set h.u _ (by omega), h.d⟩
def sum7v (a : V7) : Int := a.x0 + a.x1 + a.x2 + a.x3 + a.x4 + a.x5 + a.x6
def valT (T : Ta) : Int := (T.u.x0 - T.d.x0) + (T.u.x1 - T.d.x1) + (T.u.x2 - T.d.x2) + (T.u.x3 - T.d.x3) + (T.u.x4 - T.d.x4) + (T.u.x5 - T.d.x5) + (T.u.x6 - T.d.x6)
def mrgT (S T : Ta) : Ta := ⟨mrg S.u T.u, mrg S.d T.d⟩
theorem mrgT_ok {S T : Ta} (h : S.Ok) (k : T.Ok) : (mrgT S T).Ok := ⟨ok50_mrg h.u k.u, ok50_mrg h.d k.d⟩
theorem mrg_comm7 (a b : V7) : mrg a b = mrg b a := by rw [eq_iff]; unfold mrg; simp only; omega
theorem mrg_again (a b : V7) : mrg (mrg a b) (mrg a b) = mrg a b := by rw [eq_iff]; unfold mrg; simp only; omega
theorem mrgT_comm (S T : Ta) : mrgT S T = mrgT T S := by unfold mrgT; rw [mrg_comm7 S.u, mrg_comm7 S.d]
theorem mrgT_again (S T : Ta) : mrgT (mrgT S T) (mrgT S T) = mrgT S T := by unfold mrgT; simp only [mrg_again]
def sameT (S T : Ta) : Bool := same S.u T.u && same S.d T.d
theorem sameT_self (S : Ta) : sameT S S = true := by unfold sameT; rw [same_self, same_self]; rfl
def tbytes (T : Ta) : List UInt8 := vbytes T.u ++ vbytes T.d
/-- Fourteen numbers read. -/
def getT (s : Option (List UInt8)) : Ta × Option (List UInt8) := (⟨(getN s 1125899906842624).1, (getN (getN s 1125899906842624).2 1125899906842624).1⟩, (getN (getN s 1125899906842624).2 1125899906842624).2)
theorem getN_vbytes {a : V7} (h : ok50 a) (r : List UInt8) : getN (some (vbytes a ++ r)) 1125899906842624 = (a, some r) := by
  have hf := ok50_fits h
  obtain ⟨h0, h1, h2, h3, h4, h5, h6⟩ := h
  obtain ⟨f0, f1, f2, f3, f4, f5, f6⟩ := hf
  unfold getN vbytes
  simp only [List.append_assoc]
  rw [rnum_num f0 h0.1 h0.2]
  simp only
  rw [rnum_num f1 h1.1 h1.2]
  simp only
  rw [rnum_num f2 h2.1 h2.2]
  simp only
  rw [rnum_num f3 h3.1 h3.2]
  simp only
  rw [rnum_num f4 h4.1 h4.2]
  simp only
  rw [rnum_num f5 h5.1 h5.2]
  simp only
  rw [rnum_num f6 h6.1 h6.2]
theorem getT_tbytes {T : Ta} (h : T.Ok) (r : List UInt8) : getT (some (tbytes T ++ r)) = (T, some r) := by
  unfold getT tbytes
  rw [List.append_assoc, getN_vbytes h.u]
  simp only
  rw [getN_vbytes h.d]
theorem rnum_in50 {s : Option (List UInt8)} : 0 ≤ (rnum s 0 1125899906842624).1 ∧ (rnum s 0 1125899906842624).1 ≤ 1125899906842624 := by
  unfold rnum
  split
  · decide
  · split
    · decide
    · simp only; omega
theorem getN_ok (s : Option (List UInt8)) : ok50 (getN s 1125899906842624).1 := by
  unfold getN ok50
  exact ⟨rnum_in50, rnum_in50, rnum_in50, rnum_in50, rnum_in50, rnum_in50, rnum_in50⟩
theorem getT_ok (s : Option (List UInt8)) : (getT s).1.Ok := ⟨getN_ok _, getN_ok _⟩
/-- Adds in a row. -/
def adds (T : Ta) : List (Int × Int) → Ta
  | [] => T
  | x :: l => adds (addT T x.1 x.2) l
theorem adds_snoc (l : List (Int × Int)) : ∀ (T : Ta) (x : Int × Int), adds T (l ++ [x]) = addT (adds T l) x.1 x.2 := by
  induction l with
  | nil => intro T x; rfl
  | cons y l ih => intro T x; exact ih _ x
theorem adds_ok (l : List (Int × Int)) : ∀ {T : Ta}, T.Ok → (adds T l).Ok := by
  induction l with
  | nil => intro T h; exact h
  | cons y l ih => intro T h; exact ih (addT_ok h _ _)
end C
end Go.Proofs.Ytnkfabonggofgaa
