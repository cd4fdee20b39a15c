/-
  Dots: a clock, and the loose ones beside it.
-/
import Derived.Test.YtebfhomopdnkkaaVMath
namespace Go.Proofs.Ytebfhomopdnkkaa
set_option linter.unusedVariables false
namespace C
abbrev Dt := Int × Int
def dlt (a b : Dt) : Bool := decide (a.1 < b.1) || (decide (a.1 = b.1) && decide (a.2 < b.2))
theorem dlt_iff (a b : Dt) : dlt a b = true ↔ a.1 < b.1 ∨ (a.1 = b.1 ∧ a.2 < b.2) := by simp [dlt]
theorem dlt_not (a b : Dt) : dlt a b = false ↔ ¬ (a.1 < b.1 ∨ (a.1 = b.1 ∧ a.2 < b.2)) := by rw [← dlt_iff]; simp
theorem dt_eq {a b : Dt} (h1 : a.1 = b.1) (h2 : a.2 = b.2) : a = b := Prod.ext h1 h2
theorem dlt_trans {a b c : Dt} (h1 : dlt a b = true) (h2 : dlt b c = true) : dlt a c = true := by
  rw [dlt_iff] at *; omega
theorem dlt_irrefl (a : Dt) : dlt a a = false := by rw [dlt_not]; omega
theorem dlt_total {a b : Dt} (h1 : dlt a b = false) (h2 : dlt b a = false) : a = b := by
  rw [dlt_not] at *; exact dt_eq (by omega) (by omega)
theorem dlt_asymm {a b : Dt} (h : dlt a b = true) : dlt b a = false := by
  rw [dlt_iff] at h; rw [dlt_not]; omega
def Up (l : List Dt) : Prop := l.Pairwise fun a b => dlt a b = true
theorem Up.nil : Up [] := List.Pairwise.nil
theorem up_cons {a : Dt} {l : List Dt} : Up (a :: l) ↔ (∀ b ∈ l, dlt a b = true) ∧ Up l := List.pairwise_cons
/-- Rows that rise and have the same members are one. -/
theorem up_eq : ∀ {a b : List Dt}, Up a → Up b → (∀ x, x ∈ a ↔ x ∈ b) → a = b
  | [], [], _, _, _ => rfl
  | [], y :: r, _, _, h => absurd ((h y).2 (List.mem_cons_self ..)) (by simp)
  | x :: r, [], _, _, h => absurd ((h x).1 (List.mem_cons_self ..)) (by simp)
  | x :: r, y :: t, ha, hb, h => by
    obtain ⟨ha1, ha2⟩ := up_cons.1 ha
    obtain ⟨hb1, hb2⟩ := up_cons.1 hb
    have e : x = y := by
      rcases List.mem_cons.1 ((h x).1 (List.mem_cons_self ..)) with h1 | h1
      · exact h1
      · rcases List.mem_cons.1 ((h y).2 (List.mem_cons_self ..)) with h2 | h2
        · exact h2.symm
        · have := dlt_asymm (ha1 y h2); rw [hb1 x h1] at this; cases this
    subst e
    congr 1
    refine up_eq ha2 hb2 fun z => ?_
    constructor
    · intro hz
      rcases List.mem_cons.1 ((h z).1 (List.mem_cons_of_mem _ hz)) with h1 | h1
      · have := ha1 z hz; rw [h1, dlt_irrefl] at this; cases this
      · exact h1
    · intro hz
      rcases List.mem_cons.1 ((h z).2 (List.mem_cons_of_mem _ hz)) with h1 | h1
      · have := hb1 z hz; rw [h1, dlt_irrefl] at this; cases this
      · exact h1
structure Ds where
  c : V7
  l : List Dt
def may (d : Dt) : Bool := decide (0 ≤ d.1) && (decide (d.1 < 7) && (decide (1 ≤ d.2) && decide (d.2 ≤ 1099511627776)))
theorem may_iff (d : Dt) : may d = true ↔ 0 ≤ d.1 ∧ d.1 < 7 ∧ 1 ≤ d.2 ∧ d.2 ≤ 1099511627776 := by simp [may]
/-- Behind a gap. -/
def Far (c : V7) (d : Dt) : Prop := 0 ≤ d.1 ∧ d.1 < 7 ∧ at7 c d.1.toNat + 1 < d.2 ∧ d.2 ≤ 1099511627776
structure Ds.Ok (s : Ds) : Prop where
  good : good s.c = true
  up : Up s.l
  far : ∀ d ∈ s.l, Far s.c d
def hasd (c : V7) (d : Dt) : Bool := has c d.1 d.2
def mem (s : Ds) (d : Dt) : Bool := hasd s.c d || s.l.contains d
theorem hasd_iff (c : V7) (d : Dt) : hasd c d = true ↔ 0 ≤ d.1 ∧ d.1 < 7 ∧ 1 ≤ d.2 ∧ d.2 ≤ at7 c d.1.toNat := by
  unfold hasd has
  simp only [Bool.and_eq_true, decide_eq_true_eq, and_assoc]
theorem mem_iff (s : Ds) (d : Dt) : mem s d = true ↔ hasd s.c d = true ∨ d ∈ s.l := by
  unfold mem; simp
theorem seven {k : Nat} (h : k < 7) : k = 0 ∨ k = 1 ∨ k = 2 ∨ k = 3 ∨ k = 4 ∨ k = 5 ∨ k = 6 := by omega
theorem at7_inc (a : V7) {i k : Nat} (hi : i < 7) (hk : k < 7) : at7 (inc a i) k = if k = i then at7 a k + 1 else at7 a k := by
  rcases seven hi with rfl | rfl | rfl | rfl | rfl | rfl | rfl <;> rcases seven hk with rfl | rfl | rfl | rfl | rfl | rfl | rfl <;> simp [at7, inc]
theorem v7_ext {a b : V7} (h : ∀ k, k < 7 → at7 a k = at7 b k) : a = b := by
  rw [eq_iff]
  exact ⟨h 0 (by omega), h 1 (by omega), h 2 (by omega), h 3 (by omega), h 4 (by omega), h 5 (by omega), h 6 (by omega)⟩
theorem good_of {a : V7} (h : ∀ k, k < 7 → 0 ≤ at7 a k ∧ at7 a k ≤ 1099511627776) : good a = true := by
  rw [good_iff]
  exact ⟨h 0 (by omega), h 1 (by omega), h 2 (by omega), h 3 (by omega), h 4 (by omega), h 5 (by omega), h 6 (by omega)⟩
theorem good_inc {a : V7} {i : Nat} (h : good a = true) (hi : i < 7) (hb : at7 a i < 1099511627776) : good (inc a i) = true := by
  refine good_of fun k hk => ?_
  have := good_at7 h k
  rw [at7_inc a hi hk]
  split
  · subst_vars; omega
  · exact this
/-- Two states with the same members are one. -/
theorem canon {s t : Ds} (hs : s.Ok) (ht : t.Ok) (h : ∀ d, mem s d = mem t d) : s = t := by
  have key : ∀ {s t : Ds}, s.Ok → t.Ok → (∀ d, mem s d = mem t d) → ∀ k, k < 7 → at7 t.c k ≤ at7 s.c k := by
    intro s t hs ht h k hk
    rcases Int.lt_or_le (at7 s.c k) (at7 t.c k) with hlt | hle
    · exfalso
      have g := good_at7 hs.good k
      have h1 : mem t ((k : Int), at7 s.c k + 1) = true := (mem_iff _ _).2 (Or.inl ((hasd_iff _ _).2 ⟨by simp, by simp; omega, by simp; omega, by simp; omega⟩))
      rw [← h] at h1
      rcases (mem_iff _ _).1 h1 with h2 | h2
      · have := ((hasd_iff _ _).1 h2).2.2.2; simp at this; omega
      · have := (hs.far _ h2).2.2.1; simp at this
    · exact hle
  have e : s.c = t.c := v7_ext fun k hk => Int.le_antisymm (key ht hs (fun d => (h d).symm) k hk) (key hs ht h k hk)
  have far_not : ∀ {s : Ds} {d : Dt}, s.Ok → d ∈ s.l → hasd s.c d = false := by
    intro s d hs hd
    rw [Bool.eq_false_iff]
    intro hh
    have := (hs.far d hd).2.2.1
    have := ((hasd_iff _ _).1 hh).2.2.2
    omega
  have el : s.l = t.l := up_eq hs.up ht.up fun d => by
    constructor
    · intro hd
      have h1 : mem t d = true := by rw [← h]; exact (mem_iff _ _).2 (Or.inr hd)
      rcases (mem_iff _ _).1 h1 with h2 | h2
      · have := far_not hs hd; rw [e, h2] at this; cases this
      · exact h2
    · intro hd
      have h1 : mem s d = true := by rw [h]; exact (mem_iff _ _).2 (Or.inr hd)
      rcases (mem_iff _ _).1 h1 with h2 | h2
      · have := far_not ht hd; rw [← e, h2] at this; cases this
      · exact h2
  cases s; cases t; simp only at e el; rw [e, el]
/-! A row that rises, settled: what has no gap ahead of it is counted. -/
def nextd (c : V7) (d : Dt) : Bool := decide (d.2 = at7 c d.1.toNat + 1)
theorem nextd_iff (c : V7) (d : Dt) : nextd c d = true ↔ d.2 = at7 c d.1.toNat + 1 := by simp [nextd]
def settleL (c : V7) : List Dt → V7 × List Dt
  | [] => (c, [])
  | d :: t => if hasd c d then settleL c t else if nextd c d then settleL (inc c d.1.toNat) t else ((settleL c t).1, d :: (settleL c t).2)
def setS (c : V7) (l : List Dt) : Ds := ⟨(settleL c l).1, (settleL c l).2⟩
theorem rep_nat {d : Dt} (h0 : 0 ≤ d.1) (h7 : d.1 < 7) : d.1.toNat < 7 := by omega
theorem settle_good : ∀ (l : List Dt) (c : V7), good c = true → (∀ d ∈ l, may d = true) → good (settleL c l).1 = true
  | [], c, h, _ => h
  | d :: t, c, h, hm => by
    have hd := (may_iff d).1 (hm d (List.mem_cons_self ..))
    have ht : ∀ e ∈ t, may e = true := fun e he => hm e (List.mem_cons_of_mem _ he)
    unfold settleL
    split
    · exact settle_good t c h ht
    · split
      · rename_i hn
        rw [nextd_iff] at hn
        exact settle_good t _ (good_inc h (rep_nat hd.1 hd.2.1) (by omega)) ht
      · exact settle_good t c h ht
theorem settle_sub : ∀ (l : List Dt) (c : V7), (settleL c l).2.Sublist l
  | [], c => List.Sublist.slnil
  | d :: t, c => by
    unfold settleL
    split
    · exact (settle_sub t c).cons _
    · split
      · exact (settle_sub t _).cons _
      · exact (settle_sub t c).cons_cons _
/-- A replica whose dots are all behind a gap is counted no further. -/
theorem settle_stay (k : Nat) (hk : k < 7) : ∀ (l : List Dt) (c : V7), (∀ d ∈ l, may d = true) → (∀ d ∈ l, d.1.toNat = k → at7 c k + 1 < d.2) → at7 (settleL c l).1 k = at7 c k
  | [], c, _, _ => rfl
  | d :: t, c, hm, h => by
    have hd := (may_iff d).1 (hm d (List.mem_cons_self ..))
    have ht : ∀ e ∈ t, may e = true := fun e he => hm e (List.mem_cons_of_mem _ he)
    have h' : ∀ e ∈ t, e.1.toNat = k → at7 c k + 1 < e.2 := fun e he => h e (List.mem_cons_of_mem _ he)
    unfold settleL
    split
    · exact settle_stay k hk t c ht h'
    · split
      · rename_i hn
        rw [nextd_iff] at hn
        have hne : k ≠ d.1.toNat := fun e => by
          have := h d (List.mem_cons_self ..) e.symm
          rw [← e] at hn; omega
        have e1 : at7 (inc c d.1.toNat) k = at7 c k := by rw [at7_inc c (rep_nat hd.1 hd.2.1) hk, if_neg hne]
        rw [settle_stay k hk t _ ht (fun e he h2 => by rw [e1]; exact h' e he h2), e1]
      · exact settle_stay k hk t c ht h'
theorem settle_mem : ∀ (l : List Dt) (c : V7), good c = true → (∀ d ∈ l, may d = true) → ∀ x, (mem (setS c l) x = true ↔ hasd c x = true ∨ x ∈ l)
  | [], c, _, _, x => by rw [mem_iff]; rfl
  | d :: t, c, hg, hm, x => by
    have hd := (may_iff d).1 (hm d (List.mem_cons_self ..))
    have ht : ∀ e ∈ t, may e = true := fun e he => hm e (List.mem_cons_of_mem _ he)
    by_cases h1 : hasd c d = true
    · have e : setS c (d :: t) = setS c t := by unfold setS; rw [settleL, if_pos h1]
      rw [e, settle_mem t c hg ht x, List.mem_cons]
      constructor
      · rintro (h | h)
        · exact Or.inl h
        · exact Or.inr (Or.inr h)
      · rintro (h | rfl | h)
        · exact Or.inl h
        · exact Or.inl h1
        · exact Or.inr h
    · by_cases h2 : nextd c d = true
      · have e : setS c (d :: t) = setS (inc c d.1.toNat) t := by unfold setS; rw [settleL, if_neg h1, if_pos h2]
        have hn := (nextd_iff c d).1 h2
        rw [e, settle_mem t _ (good_inc hg (rep_nat hd.1 hd.2.1) (by omega)) ht x, List.mem_cons]
        have key : hasd (inc c d.1.toNat) x = true ↔ hasd c x = true ∨ x = d := by
          rw [hasd_iff, hasd_iff]
          constructor
          · rintro ⟨a, b, p, q⟩
            rw [at7_inc c (rep_nat hd.1 hd.2.1) (rep_nat a b)] at q
            by_cases hk : x.1.toNat = d.1.toNat
            · rw [if_pos hk] at q
              by_cases hq : x.2 ≤ at7 c x.1.toNat
              · exact Or.inl ⟨a, b, p, hq⟩
              · exact Or.inr (dt_eq (by omega) (by rw [hn, ← hk]; omega))
            · rw [if_neg hk] at q
              exact Or.inl ⟨a, b, p, q⟩
          · rintro (⟨a, b, p, q⟩ | rfl)
            · refine ⟨a, b, p, ?_⟩
              rw [at7_inc c (rep_nat hd.1 hd.2.1) (rep_nat a b)]
              split <;> omega
            · refine ⟨hd.1, hd.2.1, hd.2.2.1, ?_⟩
              rw [at7_inc c (rep_nat hd.1 hd.2.1) (rep_nat hd.1 hd.2.1), if_pos rfl]
              omega
        rw [key, or_assoc]
      · have e : setS c (d :: t) = ⟨(settleL c t).1, d :: (settleL c t).2⟩ := by unfold setS; rw [settleL, if_neg h1, if_neg h2]
        have ih := settle_mem t c hg ht x
        rw [mem_iff] at ih ⊢
        rw [e]
        unfold setS at ih
        simp only [List.mem_cons] at ih ⊢
        constructor
        · rintro (h | rfl | h)
          · rcases ih.1 (Or.inl h) with h | h
            · exact Or.inl h
            · exact Or.inr (Or.inr h)
          · exact Or.inr (Or.inl rfl)
          · rcases ih.1 (Or.inr h) with h | h
            · exact Or.inl h
            · exact Or.inr (Or.inr h)
        · rintro (h | rfl | h)
          · rcases ih.2 (Or.inl h) with h | h
            · exact Or.inl h
            · exact Or.inr (Or.inr h)
          · exact Or.inr (Or.inl rfl)
          · rcases ih.2 (Or.inr h) with h | h
            · exact Or.inl h
            · exact Or.inr (Or.inr h)
theorem settle_far : ∀ (l : List Dt) (c : V7), good c = true → Up l → (∀ d ∈ l, may d = true) → ∀ d ∈ (settleL c l).2, Far (settleL c l).1 d
  | [], c, _, _, _, d, hd => by simp [settleL] at hd
  | d :: t, c, hg, hu, hm, x, hx => by
    have hd := (may_iff d).1 (hm d (List.mem_cons_self ..))
    have ht : ∀ e ∈ t, may e = true := fun e he => hm e (List.mem_cons_of_mem _ he)
    obtain ⟨hu1, hu2⟩ := up_cons.1 hu
    by_cases h1 : hasd c d = true
    · rw [settleL, if_pos h1] at hx ⊢
      exact settle_far t c hg hu2 ht x hx
    · by_cases h2 : nextd c d = true
      · have hn := (nextd_iff c d).1 h2
        rw [settleL, if_neg h1, if_pos h2] at hx ⊢
        exact settle_far t _ (good_inc hg (rep_nat hd.1 hd.2.1) (by omega)) hu2 ht x hx
      · rw [settleL, if_neg h1, if_neg h2] at hx ⊢
        simp only [List.mem_cons] at hx
        rcases hx with rfl | hx
        · have hf : at7 c x.1.toNat + 1 < x.2 := by
            have e1 : ¬ x.2 ≤ at7 c x.1.toNat := fun h => h1 ((hasd_iff _ _).2 ⟨hd.1, hd.2.1, hd.2.2.1, h⟩)
            have e2 : ¬ x.2 = at7 c x.1.toNat + 1 := fun h => h2 ((nextd_iff _ _).2 h)
            omega
          refine ⟨hd.1, hd.2.1, ?_, hd.2.2.2⟩
          rw [settle_stay x.1.toNat (rep_nat hd.1 hd.2.1) t c ht (fun e he hk => ?_)]
          · exact hf
          · have h3 := (dlt_iff _ _).1 (hu1 e he)
            have h4 := (may_iff e).1 (ht e he)
            omega
        · exact settle_far t c hg hu2 ht x hx
theorem settle_ok {c : V7} {l : List Dt} (hg : good c = true) (hu : Up l) (hm : ∀ d ∈ l, may d = true) : (setS c l).Ok :=
  ⟨settle_good l c hg hm, hu.sublist (settle_sub l c), settle_far l c hg hu hm⟩
theorem far_may {c : V7} {d : Dt} (hg : good c = true) (h : Far c d) : may d = true := by
  have := good_at7 hg d.1.toNat
  obtain ⟨a, b, e, f⟩ := h
  exact (may_iff d).2 ⟨a, b, by omega, f⟩
/-! One into a row that rises. -/
def insL (d : Dt) : List Dt → List Dt
  | [] => [d]
  | e :: t => if dlt e d then e :: insL d t else if e = d then e :: t else d :: e :: t
theorem ins_mem (d x : Dt) : ∀ l : List Dt, x ∈ insL d l ↔ x = d ∨ x ∈ l
  | [] => by simp [insL]
  | e :: t => by
    unfold insL
    split
    · rw [List.mem_cons, ins_mem d x t, List.mem_cons]
      constructor
      · rintro (h | h | h)
        · exact Or.inr (Or.inl h)
        · exact Or.inl h
        · exact Or.inr (Or.inr h)
      · rintro (h | h | h)
        · exact Or.inr (Or.inl h)
        · exact Or.inl h
        · exact Or.inr (Or.inr h)
    · split
      · rename_i h; subst h; simp
      · simp
theorem ins_up (d : Dt) : ∀ l : List Dt, Up l → Up (insL d l)
  | [], _ => by unfold insL; exact up_cons.2 ⟨fun _ h => (by cases h), Up.nil⟩
  | e :: t, h => by
    obtain ⟨h1, h2⟩ := up_cons.1 h
    unfold insL
    split
    · rename_i hlt
      refine up_cons.2 ⟨fun b hb => ?_, ins_up d t h2⟩
      rcases (ins_mem d b t).1 hb with rfl | hb
      · exact hlt
      · exact h1 b hb
    · rename_i hlt
      split
      · exact h
      · rename_i hne
        have hde : dlt d e = true := by
          cases hh : dlt d e with
          | true => rfl
          | false => exact absurd (dlt_total (Bool.eq_false_iff.2 hlt) hh) hne
        refine up_cons.2 ⟨fun b hb => ?_, h⟩
        rcases List.mem_cons.1 hb with rfl | hb
        · exact hde
        · exact dlt_trans hde (h1 b hb)
theorem ins_len (d : Dt) : ∀ l : List Dt, l.length ≤ (insL d l).length ∧ (insL d l).length ≤ l.length + 1
  | [] => by simp [insL]
  | e :: t => by
    unfold insL
    have := ins_len d t
    split
    · simp; omega
    · split
      · simp
      · simp
/-- How many stand ahead of d. -/
def place (d : Dt) : List Dt → Nat
  | [] => 0
  | e :: t => if dlt e d then place d t + 1 else 0
theorem place_le (d : Dt) : ∀ l : List Dt, place d l ≤ l.length
  | [] => Nat.le_refl _
  | e :: t => by
    unfold place
    have := place_le d t
    split
    · simp; omega
    · simp
theorem place_lt (d : Dt) : ∀ (l : List Dt) (k : Nat) (e : Dt), k < place d l → l[k]? = some e → dlt e d = true
  | [], k, e, h, _ => by simp [place] at h
  | x :: t, k, e, h, hk => by
    unfold place at h
    split at h
    · rename_i hx
      cases k with
      | zero => simp at hk; subst hk; exact hx
      | succ k => exact place_lt d t k e (by omega) (by simpa using hk)
    · omega
theorem place_ge (d : Dt) : ∀ (l : List Dt), Up l → ∀ (k : Nat) (e : Dt), place d l ≤ k → l[k]? = some e → dlt e d = false
  | [], _, k, e, _, hk => by simp at hk
  | x :: t, hu, k, e, h, hk => by
    obtain ⟨h1, h2⟩ := up_cons.1 hu
    unfold place at h
    split at h
    · cases k with
      | zero => omega
      | succ k => exact place_ge d t h2 k e (by omega) (by simpa using hk)
    · rename_i hx
      cases k with
      | zero => simp at hk; subst hk; exact Bool.eq_false_iff.2 hx
      | succ k =>
        have hm : e ∈ t := List.mem_of_getElem? (by simpa using hk)
        cases he : dlt e d with
        | false => rfl
        | true => exact absurd (dlt_trans (h1 e hm) he) hx
/-- It is the one place that parts the row so. -/
theorem place_uniq {d : Dt} {l : List Dt} (hu : Up l) {i : Nat} (hi : i ≤ l.length) (h1 : ∀ k e, k < i → l[k]? = some e → dlt e d = true) (h2 : ∀ k e, i ≤ k → l[k]? = some e → dlt e d = false) : i = place d l := by
  have hp := place_le d l
  rcases Nat.lt_trichotomy i (place d l) with h | h | h
  · have hk : l[i]? = some l[i] := List.getElem?_eq_getElem (by omega)
    have := place_lt d l i _ h hk; rw [h2 i _ (Nat.le_refl _) hk] at this; cases this
  · exact h
  · have hk : l[place d l]? = some l[place d l] := List.getElem?_eq_getElem (by omega)
    have := place_ge d l hu _ _ (Nat.le_refl _) hk; rw [h1 _ _ h hk] at this; cases this
theorem at_place {d : Dt} {l : List Dt} (hu : Up l) : d ∈ l ↔ l[place d l]? = some d := by
  constructor
  · intro h
    obtain ⟨k, hk, e⟩ := List.getElem_of_mem h
    have hk' : l[k]? = some d := by rw [List.getElem?_eq_getElem hk, e]
    rcases Nat.lt_trichotomy k (place d l) with h1 | h1 | h1
    · have := place_lt d l k d h1 hk'; rw [dlt_irrefl] at this; cases this
    · rw [← h1]; exact hk'
    · have hp : place d l < l.length := by omega
      have h2 := place_ge d l hu _ _ (Nat.le_refl _) (List.getElem?_eq_getElem hp)
      have h3 := List.pairwise_iff_getElem.1 hu (place d l) k hp hk h1
      rw [e, h2] at h3; cases h3
  · intro h; exact List.mem_of_getElem? h
theorem ins_place (d : Dt) : ∀ (l : List Dt), Up l → ¬ d ∈ l → insL d l = l.take (place d l) ++ d :: l.drop (place d l)
  | [], _, _ => rfl
  | e :: t, hu, hn => by
    obtain ⟨h1, h2⟩ := up_cons.1 hu
    have hn' : ¬ d ∈ t := fun h => hn (List.mem_cons_of_mem _ h)
    have hne : ¬ e = d := fun h => hn (h ▸ List.mem_cons_self ..)
    unfold insL place
    split
    · rw [ins_place d t h2 hn']; simp
    · simp
theorem ins_has (d : Dt) : ∀ (l : List Dt), Up l → d ∈ l → insL d l = l
  | [], _, h => by cases h
  | e :: t, hu, h => by
    obtain ⟨h1, h2⟩ := up_cons.1 hu
    unfold insL
    split
    · rename_i hlt
      rcases List.mem_cons.1 h with rfl | h
      · rw [dlt_irrefl] at hlt; cases hlt
      · rw [ins_has d t h2 h]
    · rename_i hlt
      rcases List.mem_cons.1 h with rfl | h
      · rw [if_pos rfl]
      · exact absurd (h1 d h) hlt
/-! The gap closed from a place on. -/
def closeL (c : V7) : List Dt → V7 × List Dt
  | [] => (c, [])
  | d :: t => if nextd c d then closeL (inc c d.1.toNat) t else (c, d :: t)
/-- Of dots none of which is there, those of one replica first, closing is settling. -/
theorem close_settle (r : Int) : ∀ (l : List Dt) (c : V7), Up l → (∀ d ∈ l, may d = true) → (∀ d ∈ l, r ≤ d.1 ∧ at7 c d.1.toNat < d.2 ∧ (d.1 ≠ r → at7 c d.1.toNat + 1 < d.2)) → settleL c l = closeL c l
  | [], c, _, _, _ => rfl
  | d :: t, c, hu, hm, h => by
    obtain ⟨hu1, hu2⟩ := up_cons.1 hu
    have hd := (may_iff d).1 (hm d (List.mem_cons_self ..))
    have ht : ∀ e ∈ t, may e = true := fun e he => hm e (List.mem_cons_of_mem _ he)
    obtain ⟨a1, a2, a3⟩ := h d (List.mem_cons_self ..)
    have hh : ¬ hasd c d = true := fun k => by have := ((hasd_iff _ _).1 k).2.2.2; omega
    rw [settleL, if_neg hh, closeL]
    by_cases hn : nextd c d = true
    · rw [if_pos hn, if_pos hn]
      have hn' := (nextd_iff _ _).1 hn
      have hr : d.1 = r := by
        rcases Classical.em (d.1 = r) with e | e
        · exact e
        · have := a3 e; omega
      refine close_settle r t _ hu2 ht fun e he => ?_
      obtain ⟨b1, b2, b3⟩ := h e (List.mem_cons_of_mem _ he)
      have he' := (may_iff e).1 (ht e he)
      have h3 := (dlt_iff _ _).1 (hu1 e he)
      rw [at7_inc c (rep_nat hd.1 hd.2.1) (rep_nat he'.1 he'.2.1)]
      refine ⟨b1, ?_, fun hne => ?_⟩
      · split
        · rename_i hk; have : e.1 = d.1 := by omega
          rw [hk]; omega
        · exact b2
      · have := b3 hne
        rw [if_neg (by omega)]; exact this
    · rw [if_neg hn, if_neg hn]
      have hn' : ¬ d.2 = at7 c d.1.toNat + 1 := fun k => hn ((nextd_iff _ _).2 k)
      have stuck : ∀ (t : List Dt), (∀ e ∈ t, may e = true ∧ at7 c e.1.toNat + 1 < e.2) → settleL c t = (c, t) := by
        intro t
        induction t with
        | nil => intro _; rfl
        | cons e u ih =>
          intro hk
          have hk1 := hk e (List.mem_cons_self ..)
          have g1 : ¬ hasd c e = true := fun k => by have := ((hasd_iff _ _).1 k).2.2.2; omega
          have g2 : ¬ nextd c e = true := fun k => by have := (nextd_iff _ _).1 k; omega
          rw [settleL, if_neg g1, if_neg g2, ih fun x hx => hk x (List.mem_cons_of_mem _ hx)]
      rw [stuck t fun e he => ⟨ht e he, ?_⟩]
      obtain ⟨b1, b2, b3⟩ := h e (List.mem_cons_of_mem _ he)
      have he' := (may_iff e).1 (ht e he)
      have h3 := (dlt_iff _ _).1 (hu1 e he)
      rcases Classical.em (e.1 = r) with er | er
      · have : e.1 = d.1 := by omega
        rw [this]; omega
      · exact b3 er
theorem settle_skip : ∀ (p q : List Dt) (c : V7), (∀ e ∈ p, may e = true ∧ at7 c e.1.toNat + 1 < e.2) → settleL c (p ++ q) = ((settleL c q).1, p ++ (settleL c q).2)
  | [], q, c, _ => rfl
  | e :: u, q, c, hk => by
    have hk1 := hk e (List.mem_cons_self ..)
    have g1 : ¬ hasd c e = true := fun k => by have := ((hasd_iff _ _).1 k).2.2.2; omega
    have g2 : ¬ nextd c e = true := fun k => by have := (nextd_iff _ _).1 k; omega
    rw [List.cons_append, settleL, if_neg g1, if_neg g2, settle_skip u q c fun x hx => hk x (List.mem_cons_of_mem _ hx)]
    rfl
/-- What an Add leaves. -/
def addS (s : Ds) (d : Dt) : Ds := setS s.c (insL d s.l)
theorem add_may {s : Ds} {d : Dt} (h : s.Ok) (hm : may d = true) : ∀ x ∈ insL d s.l, may x = true := fun x hx => by
  rcases (ins_mem d x s.l).1 hx with rfl | hx
  · exact hm
  · exact far_may h.good (h.far x hx)
theorem add_ok {s : Ds} {d : Dt} (h : s.Ok) (hm : may d = true) : (addS s d).Ok := settle_ok h.good (ins_up d _ h.up) (add_may h hm)
theorem add_mem {s : Ds} {d : Dt} (h : s.Ok) (hm : may d = true) (x : Dt) : mem (addS s d) x = true ↔ mem s x = true ∨ x = d := by
  unfold addS
  rw [settle_mem _ _ h.good (add_may h hm), ins_mem, mem_iff]
  constructor
  · rintro (a | a | a)
    · exact Or.inl (Or.inl a)
    · exact Or.inr a
    · exact Or.inl (Or.inr a)
  · rintro ((a | a) | a)
    · exact Or.inl a
    · exact Or.inr (Or.inr a)
    · exact Or.inr (Or.inl a)
theorem add_len (s : Ds) (d : Dt) : (addS s d).l.length ≤ s.l.length + 1 := Nat.le_trans (settle_sub _ _).length_le (ins_len d s.l).2
/-- .. of one that is there: nothing. -/
theorem add_there {s : Ds} {d : Dt} (h : s.Ok) (hm : may d = true) (hd : mem s d = true) : addS s d = s :=
  canon (add_ok h hm) h fun x => by
    rw [Bool.eq_iff_iff, add_mem h hm]
    constructor
    · rintro (a | rfl)
      · exact a
      · exact hd
    · exact Or.inl
/-- .. of one behind a gap: it is loose. -/
theorem add_loose {s : Ds} {d : Dt} (h : s.Ok) (hm : may d = true) (hd : mem s d = false) (hn : nextd s.c d = false) : addS s d = ⟨s.c, s.l.take (place d s.l) ++ d :: s.l.drop (place d s.l)⟩ := by
  have hm' := (may_iff d).1 hm
  have h1 : ¬ hasd s.c d = true := fun k => by rw [(mem_iff s d).2 (Or.inl k)] at hd; cases hd
  have h2 : ¬ d ∈ s.l := fun k => by rw [(mem_iff s d).2 (Or.inr k)] at hd; cases hd
  have hf : at7 s.c d.1.toNat + 1 < d.2 := by
    have e1 : ¬ d.2 ≤ at7 s.c d.1.toNat := fun k => h1 ((hasd_iff _ _).2 ⟨hm'.1, hm'.2.1, hm'.2.2.1, k⟩)
    have e2 : ¬ d.2 = at7 s.c d.1.toNat + 1 := fun k => by rw [(nextd_iff _ _).2 k] at hn; cases hn
    omega
  have := settle_skip (insL d s.l) [] s.c fun e he => ⟨add_may h hm e he, ?_⟩
  · rw [List.append_nil] at this
    unfold addS setS
    rw [this, ← ins_place d s.l h.up h2]
    simp [settleL]
  · rcases (ins_mem d e s.l).1 he with rfl | he
    · exact hf
    · exact (h.far e he).2.2.1
/-- .. of the next one of its replica: it is counted, and what has no gap ahead of it any more. -/
theorem add_next {s : Ds} {d : Dt} (h : s.Ok) (hm : may d = true) (hd : mem s d = false) (hn : nextd s.c d = true) :
    addS s d = ⟨(closeL (inc s.c d.1.toNat) (s.l.drop (place d s.l))).1, s.l.take (place d s.l) ++ (closeL (inc s.c d.1.toNat) (s.l.drop (place d s.l))).2⟩ := by
  have hm' := (may_iff d).1 hm
  have hn' := (nextd_iff _ _).1 hn
  have h1 : ¬ hasd s.c d = true := fun k => by rw [(mem_iff s d).2 (Or.inl k)] at hd; cases hd
  have h2 : ¬ d ∈ s.l := fun k => by rw [(mem_iff s d).2 (Or.inr k)] at hd; cases hd
  have hup := h.up
  rw [← List.take_append_drop (place d s.l) s.l] at hup
  have hup2 : Up (s.l.drop (place d s.l)) := (List.pairwise_append.1 hup).2.1
  have hsub : ∀ e ∈ s.l.drop (place d s.l), e ∈ s.l := fun e he => List.mem_of_mem_drop he
  have hd' : ∀ e ∈ s.l.drop (place d s.l), dlt e d = false := fun e he => by
    obtain ⟨k, hk, rfl⟩ := List.getElem_of_mem he
    exact place_ge d s.l h.up (place d s.l + k) _ (by omega) (by rw [List.getElem_drop]; exact List.getElem?_eq_getElem _)
  have e1 : addS s d = setS s.c (s.l.take (place d s.l) ++ d :: s.l.drop (place d s.l)) := by unfold addS; rw [ins_place d s.l h.up h2]
  have e2 := settle_skip (s.l.take (place d s.l)) (d :: s.l.drop (place d s.l)) s.c fun e he => ⟨far_may h.good (h.far e (List.mem_of_mem_take he)), (h.far e (List.mem_of_mem_take he)).2.2.1⟩
  have e3 : settleL s.c (d :: s.l.drop (place d s.l)) = settleL (inc s.c d.1.toNat) (s.l.drop (place d s.l)) := by rw [settleL, if_neg h1, if_pos hn]
  have e4 := close_settle d.1 (s.l.drop (place d s.l)) (inc s.c d.1.toNat) hup2 (fun e he => far_may h.good (h.far e (hsub e he))) fun e he => by
    obtain ⟨f1, f2, f3, f4⟩ := h.far e (hsub e he)
    have h5 := (dlt_not _ _).1 (hd' e he)
    rw [at7_inc s.c (rep_nat hm'.1 hm'.2.1) (rep_nat f1 f2)]
    have hne : ¬ (e.1 = d.1 ∧ e.2 = d.2) := fun k => h2 (dt_eq k.1 k.2 ▸ hsub e he)
    refine ⟨by omega, ?_, fun hk => ?_⟩
    · split
      · omega
      · omega
    · rw [if_neg (by omega)]; exact f3
  rw [e1]
  unfold setS
  rw [e2, e3, e4]
/-- How many they are. -/
def sum7 (c : V7) : Int := c.x0 + c.x1 + c.x2 + c.x3 + c.x4 + c.x5 + c.x6
def lenS (s : Ds) : Int := (s.l.length : Nat) + sum7 s.c
theorem sum_inc (c : V7) {i : Nat} (hi : i < 7) : sum7 (inc c i) = sum7 c + 1 := by
  rcases seven hi with rfl | rfl | rfl | rfl | rfl | rfl | rfl <;> simp [sum7, inc] <;> omega
theorem settle_len : ∀ (l : List Dt) (c : V7), Up l → (∀ d ∈ l, may d = true ∧ hasd c d = false) → lenS (setS c l) = (l.length : Nat) + sum7 c
  | [], c, _, _ => rfl
  | d :: t, c, hu, h => by
    obtain ⟨hu1, hu2⟩ := up_cons.1 hu
    obtain ⟨hm, h1⟩ := h d (List.mem_cons_self ..)
    have hd := (may_iff d).1 hm
    have h1' : ¬ hasd c d = true := by rw [h1]; simp
    by_cases h2 : nextd c d = true
    · have hn := (nextd_iff _ _).1 h2
      have e : setS c (d :: t) = setS (inc c d.1.toNat) t := by unfold setS; rw [settleL, if_neg h1', if_pos h2]
      rw [e, settle_len t _ hu2 fun x hx => ⟨(h x (List.mem_cons_of_mem _ hx)).1, ?_⟩, sum_inc c (rep_nat hd.1 hd.2.1)]
      · simp; omega
      · have h3 := (dlt_iff _ _).1 (hu1 x hx)
        obtain ⟨hmx, hx1⟩ := h x (List.mem_cons_of_mem _ hx)
        have hmx' := (may_iff x).1 hmx
        rw [Bool.eq_false_iff] at hx1 ⊢
        intro k
        apply hx1
        rw [hasd_iff] at k ⊢
        refine ⟨k.1, k.2.1, k.2.2.1, ?_⟩
        have k4 := k.2.2.2
        rw [at7_inc c (rep_nat hd.1 hd.2.1) (rep_nat hmx'.1 hmx'.2.1)] at k4
        split at k4
        · rename_i hk
          rw [hk] at k4; omega
        · exact k4
    · have e : setS c (d :: t) = ⟨(settleL c t).1, d :: (settleL c t).2⟩ := by unfold setS; rw [settleL, if_neg h1', if_neg h2]
      have ih := settle_len t c hu2 fun x hx => h x (List.mem_cons_of_mem _ hx)
      rw [e]
      unfold lenS setS at *
      simp only [List.length_cons] at *
      omega
theorem add_lenS {s : Ds} {d : Dt} (h : s.Ok) (hm : may d = true) (hd : mem s d = false) : lenS (addS s d) = lenS s + 1 := by
  have h1 : hasd s.c d = false := by rw [Bool.eq_false_iff]; exact fun k => by rw [(mem_iff s d).2 (Or.inl k)] at hd; cases hd
  have h2 : ¬ d ∈ s.l := fun k => by rw [(mem_iff s d).2 (Or.inr k)] at hd; cases hd
  unfold addS
  rw [settle_len _ _ (ins_up d _ h.up) fun x hx => ⟨add_may h hm x hx, ?_⟩, ins_place d s.l h.up h2]
  · unfold lenS
    simp
    have := place_le d s.l
    omega
  · rcases (ins_mem d x s.l).1 hx with rfl | hx
    · exact h1
    · have := (h.far x hx).2.2.1
      rw [Bool.eq_false_iff]
      exact fun k => by have := ((hasd_iff _ _).1 k).2.2.2; omega
/-! Two together. -/
def joinL (a b : List Dt) : List Dt := b.foldl (fun acc d => insL d acc) a
theorem join_up : ∀ (b a : List Dt), Up a → Up (joinL a b)
  | [], _, h => h
  | d :: t, a, h => join_up t (insL d a) (ins_up d a h)
theorem join_mem (x : Dt) : ∀ (b a : List Dt), x ∈ joinL a b ↔ x ∈ a ∨ x ∈ b
  | [], a => by simp [joinL]
  | d :: t, a => by
    have e : joinL a (d :: t) = joinL (insL d a) t := rfl
    rw [e, join_mem x t (insL d a), ins_mem, List.mem_cons]
    constructor
    · rintro ((h | h) | h)
      · exact Or.inr (Or.inl h)
      · exact Or.inl h
      · exact Or.inr (Or.inr h)
    · rintro (h | h | h)
      · exact Or.inl (Or.inr h)
      · exact Or.inl (Or.inl h)
      · exact Or.inr h
theorem join_len : ∀ (b a : List Dt), (joinL a b).length ≤ a.length + b.length
  | [], a => by simp [joinL]
  | d :: t, a => by
    have e : joinL a (d :: t) = joinL (insL d a) t := rfl
    have := join_len t (insL d a)
    have := (ins_len d a).2
    rw [e]; simp; omega
def mergeS (s o : Ds) : Ds := setS (mrg s.c o.c) (joinL s.l o.l)
theorem at7_mrg' (a b : V7) (k : Nat) : at7 (mrg a b) k = max (at7 a k) (at7 b k) := by
  unfold at7 mrg
  split <;> rfl
theorem good_mrg {a b : V7} (ha : good a = true) (hb : good b = true) : good (mrg a b) = true := good_of fun k _ => by
  have := good_at7 ha k
  have := good_at7 hb k
  rw [at7_mrg']; omega
theorem hasd_mrg (a b : V7) (d : Dt) : hasd (mrg a b) d = true ↔ hasd a d = true ∨ hasd b d = true := by
  rw [hasd_iff, hasd_iff, hasd_iff, at7_mrg']
  omega
theorem merge_may {s o : Ds} (hs : s.Ok) (ho : o.Ok) : ∀ x ∈ joinL s.l o.l, may x = true := fun x hx => by
  rcases (join_mem x o.l s.l).1 hx with h | h
  · exact far_may hs.good (hs.far x h)
  · exact far_may ho.good (ho.far x h)
theorem merge_ok {s o : Ds} (hs : s.Ok) (ho : o.Ok) : (mergeS s o).Ok := settle_ok (good_mrg hs.good ho.good) (join_up _ _ hs.up) (merge_may hs ho)
theorem merge_mem {s o : Ds} (hs : s.Ok) (ho : o.Ok) (x : Dt) : mem (mergeS s o) x = true ↔ mem s x = true ∨ mem o x = true := by
  unfold mergeS
  rw [settle_mem _ _ (good_mrg hs.good ho.good) (merge_may hs ho), hasd_mrg, join_mem, mem_iff, mem_iff]
  constructor
  · rintro ((a | a) | (a | a))
    · exact Or.inl (Or.inl a)
    · exact Or.inr (Or.inl a)
    · exact Or.inl (Or.inr a)
    · exact Or.inr (Or.inr a)
  · rintro ((a | a) | (a | a))
    · exact Or.inl (Or.inl a)
    · exact Or.inr (Or.inl a)
    · exact Or.inl (Or.inr a)
    · exact Or.inr (Or.inr a)
theorem merge_len (s o : Ds) : (mergeS s o).l.length ≤ s.l.length + o.l.length := Nat.le_trans (settle_sub _ _).length_le (join_len _ _)
theorem merge_comm {s o : Ds} (hs : s.Ok) (ho : o.Ok) : mergeS s o = mergeS o s := canon (merge_ok hs ho) (merge_ok ho hs) fun x => by
  rw [Bool.eq_iff_iff, merge_mem hs ho, merge_mem ho hs, or_comm]
/-! Many added. -/
def addM (s : Ds) (d : Dt) : Ds := if may d then addS s d else s
def addAll (s : Ds) (l : List Dt) : Ds := l.foldl addM s
def zeroS : Ds := ⟨⟨0, 0, 0, 0, 0, 0, 0⟩, []⟩
theorem zero_ok : zeroS.Ok := ⟨by decide, Up.nil, fun d h => by cases h⟩
theorem zero_mem (x : Dt) : mem zeroS x = false := by
  rw [Bool.eq_false_iff]
  intro h
  rcases (mem_iff _ _).1 h with h | h
  · obtain ⟨a, b, e, f⟩ := (hasd_iff _ _).1 h
    have : at7 zeroS.c x.1.toNat = 0 := by
      unfold at7 zeroS; split <;> rfl
    omega
  · cases h
theorem addM_ok {s : Ds} (h : s.Ok) (d : Dt) : (addM s d).Ok := by
  unfold addM; split
  · exact add_ok h ‹_›
  · exact h
theorem addM_mem {s : Ds} (h : s.Ok) (d x : Dt) : mem (addM s d) x = true ↔ mem s x = true ∨ (may d = true ∧ x = d) := by
  unfold addM; split
  · rename_i hm
    rw [add_mem h hm]; simp [hm]
  · rename_i hm
    simp [hm]
theorem addM_len (s : Ds) (d : Dt) : (addM s d).l.length ≤ s.l.length + 1 := by
  unfold addM; split
  · exact add_len s d
  · omega
theorem all_ok : ∀ (l : List Dt) (s : Ds), s.Ok → (addAll s l).Ok
  | [], s, h => h
  | d :: t, s, h => all_ok t _ (addM_ok h d)
theorem all_mem (x : Dt) : ∀ (l : List Dt) (s : Ds), s.Ok → (mem (addAll s l) x = true ↔ mem s x = true ∨ (may x = true ∧ x ∈ l))
  | [], s, _ => by simp [addAll]
  | d :: t, s, h => by
    have e : addAll s (d :: t) = addAll (addM s d) t := rfl
    rw [e, all_mem x t _ (addM_ok h d), addM_mem h, List.mem_cons]
    constructor
    · rintro ((a | ⟨a, rfl⟩) | ⟨a, b⟩)
      · exact Or.inl a
      · exact Or.inr ⟨a, Or.inl rfl⟩
      · exact Or.inr ⟨a, Or.inr b⟩
    · rintro (a | ⟨a, rfl | b⟩)
      · exact Or.inl (Or.inl a)
      · exact Or.inl (Or.inr ⟨a, rfl⟩)
      · exact Or.inr ⟨a, b⟩
theorem all_len : ∀ (l : List Dt) (s : Ds), (addAll s l).l.length ≤ s.l.length + l.length
  | [], s => by simp [addAll]
  | d :: t, s => by
    have e : addAll s (d :: t) = addAll (addM s d) t := rfl
    have := all_len t (addM s d)
    have := addM_len s d
    rw [e]; simp; omega
theorem all_snoc (s : Ds) (l : List Dt) (d : Dt) : addAll s (l ++ [d]) = addM (addAll s l) d := by
  unfold addAll; rw [List.foldl_append]; rfl
/-- In whatever order. -/
theorem all_perm {l m : List Dt} (h : ∀ x, x ∈ l ↔ x ∈ m) : addAll zeroS l = addAll zeroS m :=
  canon (all_ok _ _ zero_ok) (all_ok _ _ zero_ok) fun x => by
    rw [Bool.eq_iff_iff, all_mem x _ _ zero_ok, all_mem x _ _ zero_ok, h]
end C
end Go.Proofs.Ytebfhomopdnkkaa
