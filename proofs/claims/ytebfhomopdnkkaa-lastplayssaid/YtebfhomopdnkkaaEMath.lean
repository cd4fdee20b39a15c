/-
  The text written last: writes in any order, kept by time, then dot; written, read.
-/
import Derived.Test.YtebfhomopdnkkaaPMath
namespace Go.Proofs.Ytebfhomopdnkkaa
namespace C
/-- What is there: the text, its time, its dot; a dot of no number: nothing. -/
structure La where
  x : ByteArray
  t : Int
  r : Int
  n : Int
def La.zero : La := ⟨ByteArray.empty, 0, 0, 0⟩
structure La.Ok (S : La) : Prop where
  x : S.x.size ≤ 100
  t : 0 ≤ S.t ∧ S.t ≤ 1099511627776
  r : 0 ≤ S.r ∧ S.r ≤ 6
  n : 0 ≤ S.n ∧ S.n ≤ 1099511627776
  z : S.n = 0 → S = La.zero
theorem zero_okL : La.zero.Ok := ⟨by decide, by decide, by decide, by decide, fun _ => rfl⟩
/-- A write that is refused at once. -/
def badL (a : La) : Bool := decide (100 < a.x.size) || decide (a.t < 0) || decide (1099511627776 < a.t) || decide (a.r < 0) || decide (6 < a.r) || decide (a.n < 1) || decide (1099511627776 < a.n)
theorem badL_iff (a : La) : badL a = false ↔ a.x.size ≤ 100 ∧ (0 ≤ a.t ∧ a.t ≤ 1099511627776) ∧ (0 ≤ a.r ∧ a.r ≤ 6) ∧ (1 ≤ a.n ∧ a.n ≤ 1099511627776) := by
  simp only [badL, Bool.or_eq_false_iff, decide_eq_false_iff_not]; omega
/-- In front of the other: by time, then dot. -/
def ltL (a b : La) : Bool := decide (a.t < b.t ∨ (a.t = b.t ∧ (a.r < b.r ∨ (a.r = b.r ∧ a.n < b.n))))
def eqL (a b : La) : Bool := decide (a.t = b.t ∧ a.r = b.r ∧ a.n = b.n)
theorem ltL_is (a b : La) : ltL a b = true ↔ a.t < b.t ∨ (a.t = b.t ∧ (a.r < b.r ∨ (a.r = b.r ∧ a.n < b.n))) := decide_eq_true_iff
theorem eqL_is (a b : La) : eqL a b = true ↔ a.t = b.t ∧ a.r = b.r ∧ a.n = b.n := decide_eq_true_iff
/-- What a write makes; did it become so; the error. -/
def wrL (S a : La) : La := if badL a = false ∧ ltL S a = true then a else S
def didL (S a : La) : Bool := !badL a && ltL S a
def errL (S a : La) : Int := if badL a = true then 1 else if eqL S a = true ∧ S.x ≠ a.x then 5 else 0
theorem wr_ok {S : La} (h : S.Ok) (a : La) : (wrL S a).Ok := by
  unfold wrL
  split
  · rename_i hc
    obtain ⟨h1, h2, h3, h4⟩ := (badL_iff a).1 hc.1
    exact ⟨h1, h2, h3, ⟨by omega, h4.2⟩, fun e => by omega⟩
  · exact h
theorem eqL_iff (a b : La) : a = b ↔ eqL a b = true ∧ a.x = b.x := by
  rw [eqL_is]
  constructor
  · rintro rfl; exact ⟨⟨rfl, rfl, rfl⟩, rfl⟩
  · rintro ⟨⟨h1, h2, h3⟩, h4⟩
    cases a; cases b; simp only at *; subst h1 h2 h3 h4; rfl
theorem trichL (a b : La) : ltL a b = true ∨ eqL a b = true ∨ ltL b a = true := by rw [ltL_is, eqL_is, ltL_is]; omega
theorem ltL_irr {a b : La} (h : ltL a b = true) : ¬ ltL b a = true := by rw [ltL_is] at *; omega
theorem ltL_ne {a b : La} (h : ltL a b = true) : ¬ eqL a b = true := by rw [ltL_is] at h; rw [eqL_is]; omega
theorem ltL_trans {a b c : La} (h : ltL a b = true) (k : ltL b c = true) : ltL a c = true := by rw [ltL_is] at *; omega
/-- Nothing is in front of all that may be. -/
theorem zero_lt {a : La} (h : badL a = false) : ltL La.zero a = true := by
  have := (badL_iff a).1 h
  rw [ltL_is]
  show (0 : Int) < a.t ∨ ((0 : Int) = a.t ∧ ((0 : Int) < a.r ∨ ((0 : Int) = a.r ∧ (0 : Int) < a.n)))
  omega
/-- What writes of M, in whatever order, leave. -/
structure InvL (S : La) (M : La → Prop) : Prop where
  one : S = La.zero ∨ (M S ∧ badL S = false)
  top : ∀ a, M a → badL a = false → ¬ ltL S a = true
theorem InvL.none : InvL La.zero (fun _ => False) := ⟨Or.inl rfl, fun _ h => h.elim⟩
theorem InvL.step {S : La} {M : La → Prop} (h : InvL S M) (a : La) : InvL (wrL S a) (fun b => M b ∨ b = a) := by
  unfold wrL
  split
  · rename_i hc
    refine ⟨Or.inr ⟨Or.inr rfl, hc.1⟩, fun b hb hg hlt => ?_⟩
    rcases hb with hb | rfl
    · exact h.top b hb hg (ltL_trans hc.2 hlt)
    · exact ltL_irr hlt hlt
  · rename_i hc
    refine ⟨?_, fun b hb hg hlt => ?_⟩
    · rcases h.one with h1 | h1
      · exact Or.inl h1
      · exact Or.inr ⟨Or.inl h1.1, h1.2⟩
    · rcases hb with hb | rfl
      · exact h.top b hb hg hlt
      · exact hc ⟨hg, hlt⟩
theorem InvL.again {S : La} {M : La → Prop} (h : InvL S M) {a : La} (ha : M a) : wrL S a = S := by
  unfold wrL
  split
  · rename_i hc; exact absurd hc.2 (h.top a ha hc.1)
  · rfl
theorem InvL.congr {S : La} {M M' : La → Prop} (h : InvL S M) (hm : ∀ a, M a ↔ M' a) : InvL S M' :=
  ⟨h.one.imp id fun k => ⟨(hm S).1 k.1, k.2⟩, fun a ha => h.top a ((hm a).2 ha)⟩
/-- Of the same writes it is the same, if no two unlike ones are of one time and dot. -/
theorem InvL.same {S T : La} {M : La → Prop} (h : InvL S M) (k : InvL T M) (hu : ∀ a b, M a → M b → eqL a b = true → a.x = b.x) : S = T := by
  rcases h.one with h1 | h1
  · rcases k.one with k1 | k1
    · rw [h1, k1]
    · exact absurd (zero_lt k1.2) (h1 ▸ h.top T k1.1 k1.2)
  · rcases k.one with k1 | k1
    · exact absurd (zero_lt h1.2) (k1 ▸ k.top S h1.1 h1.2)
    · have h2 := h.top T k1.1 k1.2
      have k2 := k.top S h1.1 h1.2
      have e : eqL S T = true := by
        rcases trichL S T with h3 | h3 | h3
        · exact absurd h3 h2
        · exact h3
        · exact absurd h3 k2
      exact (eqL_iff S T).2 ⟨e, hu _ _ h1.1 k1.1 e⟩
/-- Writes in a row. -/
def wrs (S : La) (l : List La) : La := l.foldl wrL S
theorem wrs_snoc (S : La) {l : List La} {k : Nat} {a : La} (h : l[k]? = some a) : wrs S (l.take (k + 1)) = wrL (wrs S (l.take k)) a := by
  unfold wrs
  rw [List.take_add_one, h]
  simp
theorem wrs_inv (l : List La) : ∀ (S : La) (M : La → Prop), InvL S M → InvL (wrs S l) (fun b => M b ∨ b ∈ l) := by
  induction l with
  | nil => intro S M h; exact h.congr fun a => by simp
  | cons x l ih =>
    intro S M h
    refine (ih _ _ (h.step x)).congr fun a => ?_
    simp only [List.mem_cons]
    constructor
    · rintro ((h | h) | h)
      · exact Or.inl h
      · exact Or.inr (Or.inl h)
      · exact Or.inr (Or.inr h)
    · rintro (h | h | h)
      · exact Or.inl (Or.inl h)
      · exact Or.inl (Or.inr h)
      · exact Or.inr h
/-- Bytes. -/
def putL (S : La) : List UInt8 := if S.n = 0 then num 0 else num 1 ++ (num S.t ++ (num S.r ++ (num S.n ++ byt S.x.data.toList)))
/-- Read: the value, and what is left (none: bad). -/
def getL (s : Option (List UInt8)) : La × Option (List UInt8) :=
  if (rnum s 0 1).1 = 1 then
    (⟨⟨(rbytes (rnum (rnum (rnum (rnum s 0 1).2 0 1099511627776).2 0 6).2 1 1099511627776).2 100).1.toArray⟩, (rnum (rnum s 0 1).2 0 1099511627776).1, (rnum (rnum (rnum s 0 1).2 0 1099511627776).2 0 6).1, (rnum (rnum (rnum (rnum s 0 1).2 0 1099511627776).2 0 6).2 1 1099511627776).1⟩,
      (rbytes (rnum (rnum (rnum (rnum s 0 1).2 0 1099511627776).2 0 6).2 1 1099511627776).2 100).2)
  else (La.zero, (rnum s 0 1).2)
theorem fitsL {v : Int} (h : 0 ≤ v ∧ v ≤ 1099511627776) : fits v := ⟨by omega, by omega⟩
theorem getL_putL {S : La} (h : S.Ok) (q : List UInt8) : getL (some (putL S ++ q)) = (S, some q) := by
  have f0 : fits 0 := ⟨by decide, by decide⟩
  have f1 : fits 1 := ⟨by decide, by decide⟩
  unfold putL
  by_cases hz : S.n = 0
  · rw [if_pos hz, h.z hz]
    unfold getL
    rw [rnum_num f0 (by decide) (by decide)]
    rfl
  · rw [if_neg hz]
    unfold getL
    simp only [List.append_assoc]
    rw [rnum_num f1 (by decide) (by decide)]
    simp only [if_true]
    rw [rnum_num (fitsL h.t) h.t.1 h.t.2]
    simp only
    rw [rnum_num (fitsL ⟨h.r.1, by have := h.r.2; omega⟩) h.r.1 h.r.2]
    simp only
    rw [rnum_num (fitsL h.n) (by have := h.n.1; omega) h.n.2]
    simp only
    have hx := h.x
    have e : S.x.data.toList.length = S.x.size := Array.length_toList
    rw [rbytes_byt (by omega) (by omega)]
theorem rnum_in {s : Option (List UInt8)} {a b v : Int} {l : List UInt8} (h : rnum s a b = (v, some l)) : a ≤ v ∧ v ≤ b := by
  unfold rnum at h
  split at h
  · simp at h
  · split at h
    · simp at h
    · simp only [Prod.mk.injEq] at h; omega
theorem rnum_some {s : Option (List UInt8)} {a b v : Int} {l : List UInt8} (h : rnum s a b = (v, some l)) : ∃ q, s = some q := by
  cases s with
  | none => simp [rnum] at h
  | some q => exact ⟨q, rfl⟩
theorem rbytes_in {s : Option (List UInt8)} {b : Int} {x l : List UInt8} (h : rbytes s b = (x, some l)) : (x.length : Int) ≤ b ∧ ∃ q, s = some q := by
  unfold rbytes at h
  split at h
  · simp at h
  · rename_i n q hr
    have h1 := rnum_in hr
    split at h
    · simp at h
    · simp only [Prod.mk.injEq] at h
      refine ⟨?_, rnum_some hr⟩
      rw [← h.1, List.length_take]; omega
theorem getL_ok {s : Option (List UInt8)} {S : La} {l : List UInt8} (h : getL s = (S, some l)) : S.Ok := by
  unfold getL at h
  split at h
  · obtain ⟨t, s1, h1⟩ : ∃ t s1, rnum (rnum s 0 1).2 0 1099511627776 = (t, s1) := ⟨_, _, rfl⟩
    rw [h1] at h
    simp only at h
    obtain ⟨r, s2, h2⟩ : ∃ r s2, rnum s1 0 6 = (r, s2) := ⟨_, _, rfl⟩
    rw [h2] at h
    simp only at h
    obtain ⟨n, s3, h3⟩ : ∃ n s3, rnum s2 1 1099511627776 = (n, s3) := ⟨_, _, rfl⟩
    rw [h3] at h
    simp only at h
    obtain ⟨x, s4, h4⟩ : ∃ x s4, rbytes s3 100 = (x, s4) := ⟨_, _, rfl⟩
    rw [h4] at h
    simp only [Prod.mk.injEq] at h
    obtain ⟨rfl, rfl⟩ := h
    obtain ⟨q4, q3, rfl⟩ := rbytes_in h4
    have i3 := rnum_in h3
    obtain ⟨q2, rfl⟩ := rnum_some h3
    have i2 := rnum_in h2
    obtain ⟨q1, rfl⟩ := rnum_some h2
    have i1 := rnum_in h1
    refine ⟨?_, i1, i2, ⟨by have := i3.1; show (0 : Int) ≤ n; omega, i3.2⟩, fun e => ?_⟩
    · show x.toArray.size ≤ 100
      rw [List.size_toArray]; omega
    · simp only at e; omega
  · simp only [Prod.mk.injEq] at h
    rw [← h.1]; exact zero_okL
theorem putL_len {S : La} (h : S.Ok) : (putL S).length ≤ 200 := by
  unfold putL
  split
  · have := (num_ten (v := 0) ⟨by decide, by decide⟩).2; omega
  · have h0 := (num_ten (v := 1) ⟨by decide, by decide⟩).2
    have h1 := (num_ten (fitsL h.t)).2
    have h2 := (num_ten (fitsL (v := S.r) ⟨h.r.1, by have := h.r.2; omega⟩)).2
    have h3 := (num_ten (fitsL h.n)).2
    have e : S.x.data.toList.length = S.x.size := Array.length_toList
    have hx := h.x
    have h4 := (num_ten (v := (S.x.data.toList.length : Int)) ⟨by omega, by omega⟩).2
    simp only [List.length_append, byt]
    omega
end C
end Go.Proofs.Ytebfhomopdnkkaa
