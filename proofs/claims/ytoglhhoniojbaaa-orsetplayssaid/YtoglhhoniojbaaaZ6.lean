/-
  Several texts in one: QMath, QRow, WRef7, QObj, RIns, QApp.
-/
import Derived.Test.YtoglhhoniojbaaaOOrd
import Derived.Test.YtoglhhoniojbaaaBRow
import Derived.Test.YtoglhhoniojbaaaWBox
import Derived.Test.YtoglhhoniojbaaaZ4
import Derived.Test.YtoglhhoniojbaaaZ1
import Derived.Test.YtoglhhoniojbaaaZ9
namespace Go.Proofs.Ytoglhhoniojbaaa
open Go.RowKit Go.Lib Go.Sort Go.Shelf
set_option linter.unusedVariables false

namespace C
structure AddE where
  d : Dt
  x : Tx
  gone : Bool
structure RemE where
  x : Tx
  v : V7
structure Rf where
  l : List AddE
  r : List RemE
def Rf.zero : Rf := ⟨[], []⟩
def findA (l : List AddE) (d : Dt) : Option AddE := l.find? fun e => decide (e.d = d)
def goneR (r : List RemE) (x : Tx) (d : Dt) : Bool := r.any fun e => decide (e.x = x) && hasd e.v d
def addF (R : Rf) (d : Dt) (x : Tx) : Rf := if may d = true ∧ tooLong x = false ∧ findA R.l d = none then ⟨R.l ++ [⟨d, x, goneR R.r x d⟩], R.r⟩ else R
def errF (R : Rf) (d : Dt) (x : Tx) : Int := if may d = true ∧ tooLong x = false then (match findA R.l d with | none => 0 | some e => if e.x = x then 0 else 5) else 1
def markE (x : Tx) (v : V7) (e : AddE) : AddE := ⟨e.d, e.x, e.gone || (decide (e.x = x) && hasd v e.d)⟩
def remF (R : Rf) (x : Tx) (v : V7) : Rf := if tooLong x = false ∧ good v = true then ⟨R.l.map (markE x v), R.r ++ [⟨x, v⟩]⟩ else R
structure RelF (S : Os) (R : Rf) : Prop where
  ad : ∀ d x, S.ad d = some x ↔ ∃ e ∈ R.l, e.d = d ∧ e.x = x
  gn : ∀ e ∈ R.l, e.gone = hasd (S.go e.x) e.d
  go : ∀ x d, hasd (S.go x) d = goneR R.r x d
theorem rel_zero : RelF Os.zero Rf.zero := ⟨fun d x => ⟨fun h => (by cases h), fun ⟨e, he, _⟩ => (by cases he)⟩, fun e he => (by cases he), fun x d => hasd_none d⟩
theorem find_none {l : List AddE} {d : Dt} : findA l d = none ↔ ∀ e ∈ l, e.d ≠ d := by
  unfold findA
  rw [List.find?_eq_none]
  simp
theorem find_some {l : List AddE} {d : Dt} {e : AddE} (h : findA l d = some e) : e ∈ l ∧ e.d = d := by
  unfold findA at h
  exact ⟨List.mem_of_find?_eq_some h, by simpa using List.find?_some h⟩
theorem RelF.find {S : Os} {R : Rf} (h : RelF S R) (d : Dt) : S.ad d = (findA R.l d).map AddE.x := by
  cases hf : findA R.l d with
  | none =>
    cases hs : S.ad d with
    | none => rfl
    | some x =>
      obtain ⟨e, he, hd, _⟩ := (h.ad d x).1 hs
      exact absurd hd (find_none.1 hf e he)
  | some e =>
    obtain ⟨h1, h2⟩ := find_some hf
    exact (h.ad d e.x).2 ⟨e, h1, h2, rfl⟩
theorem RelF.err {S : Os} {R : Rf} (h : RelF S R) (d : Dt) (x : Tx) : errF R d x = errO S d x := by
  unfold errF errO
  rw [h.find d]
  cases findA R.l d <;> rfl
theorem RelF.add {S : Os} {R : Rf} (h : RelF S R) (d : Dt) (x : Tx) : RelF (addO S d x) (addF R d x) := by
  have hn : S.ad d = none ↔ findA R.l d = none := by rw [h.find d]; cases findA R.l d <;> simp
  by_cases hc : may d = true ∧ tooLong x = false ∧ findA R.l d = none
  · have hc' : may d = true ∧ tooLong x = false ∧ S.ad d = none := ⟨hc.1, hc.2.1, hn.2 hc.2.2⟩
    have e2 : addF R d x = ⟨R.l ++ [⟨d, x, goneR R.r x d⟩], R.r⟩ := if_pos hc
    have hno := find_none.1 hc.2.2
    rw [e2]
    refine ⟨fun e y => ?_, fun e he => ?_, fun y e => ?_⟩
    · rw [addO_ad]
      by_cases hed : e = d
      · subst hed
        rw [if_pos ⟨hc', rfl⟩]
        constructor
        · intro k
          cases k
          exact ⟨⟨e, x, goneR R.r x e⟩, by simp, rfl, rfl⟩
        · rintro ⟨z, hz, h1, h2⟩
          rcases List.mem_append.1 hz with hz | hz
          · exact absurd h1 (hno z hz)
          · obtain rfl : z = ⟨e, x, goneR R.r x e⟩ := by simpa using hz
            simp at h2
            rw [h2]
      · rw [if_neg fun k => hed k.2, h.ad e y]
        constructor
        · rintro ⟨z, hz, h1⟩
          exact ⟨z, List.mem_append_left _ hz, h1⟩
        · rintro ⟨z, hz, h1, h2⟩
          rcases List.mem_append.1 hz with hz | hz
          · exact ⟨z, hz, h1, h2⟩
          · obtain rfl : z = ⟨d, x, goneR R.r x d⟩ := by simpa using hz
            exact absurd h1.symm hed
    · rw [addO_go]
      rcases List.mem_append.1 he with he | he
      · exact h.gn e he
      · obtain rfl : e = ⟨d, x, goneR R.r x d⟩ := by simpa using he
        exact (h.go x d).symm
    · rw [addO_go]; exact h.go y e
  · have hc' : ¬ (may d = true ∧ tooLong x = false ∧ S.ad d = none) := fun k => hc ⟨k.1, k.2.1, hn.1 k.2.2⟩
    have e1 : addO S d x = S := if_neg hc'
    have e2 : addF R d x = R := if_neg hc
    rw [e1, e2]; exact h
theorem RelF.rem {S : Os} {R : Rf} (h : RelF S R) (x : Tx) (v : V7) : RelF (remO S x v) (remF R x v) := by
  by_cases hc : tooLong x = false ∧ good v = true
  · have e2 : remF R x v = ⟨R.l.map (markE x v), R.r ++ [⟨x, v⟩]⟩ := if_pos hc
    have hgo : ∀ y d, hasd ((remO S x v).go y) d = (hasd (S.go y) d || (decide (x = y) && hasd v d)) := fun y d => by
      rw [remO_go]
      by_cases hy : y = x
      · subst hy
        rw [if_pos ⟨hc, rfl⟩, Bool.eq_iff_iff, hasd_mrg]
        simp
      · rw [if_neg fun k => hy k.2]
        have : decide (x = y) = false := by simpa using fun e => hy e.symm
        rw [this]; simp
    rw [e2]
    refine ⟨fun d y => ?_, fun e he => ?_, fun y d => ?_⟩
    · rw [remO_ad, h.ad d y]
      constructor
      · rintro ⟨z, hz, h1, h2⟩
        exact ⟨markE x v z, List.mem_map_of_mem hz, h1, h2⟩
      · rintro ⟨z, hz, h1, h2⟩
        obtain ⟨q, hq, rfl⟩ := List.mem_map.1 hz
        exact ⟨q, hq, h1, h2⟩
    · obtain ⟨q, hq, rfl⟩ := List.mem_map.1 he
      show (q.gone || (decide (q.x = x) && hasd v q.d)) = hasd ((remO S x v).go q.x) q.d
      rw [hgo, h.gn q hq]
      congr 2
      rw [decide_eq_decide]
      exact eq_comm
    · rw [hgo, h.go y d]
      unfold goneR
      simp
  · have e1 : remO S x v = S := if_neg hc
    have e2 : remF R x v = R := if_neg hc
    rw [e1, e2]; exact h
/-- A text's dots. -/
def dotsF : List AddE → Tx → List Dt → List Dt
  | [], _, acc => acc
  | e :: t, x, acc => dotsF t x (if (decide (e.x = x) && !e.gone) = true then insL e.d acc else acc)
theorem dotsF_up (x : Tx) : ∀ (l : List AddE) (acc : List Dt), Up acc → Up (dotsF l x acc)
  | [], acc, h => h
  | e :: t, acc, h => by
    unfold dotsF
    refine dotsF_up x t _ ?_
    split
    · exact ins_up _ _ h
    · exact h
theorem dotsF_mem (x : Tx) (d : Dt) : ∀ (l : List AddE) (acc : List Dt), d ∈ dotsF l x acc ↔ d ∈ acc ∨ ∃ e ∈ l, e.x = x ∧ e.gone = false ∧ e.d = d
  | [], acc => by simp [dotsF]
  | e :: t, acc => by
    unfold dotsF
    rw [dotsF_mem x d t]
    by_cases hc : (decide (e.x = x) && !e.gone) = true
    · rw [if_pos hc, ins_mem]
      simp only [Bool.and_eq_true, decide_eq_true_eq, Bool.not_eq_true'] at hc
      constructor
      · rintro ((h | h) | ⟨z, hz, h⟩)
        · exact Or.inr ⟨e, List.mem_cons_self .., hc.1, hc.2, h.symm⟩
        · exact Or.inl h
        · exact Or.inr ⟨z, List.mem_cons_of_mem _ hz, h⟩
      · rintro (h | ⟨z, hz, h1, h2, h3⟩)
        · exact Or.inl (Or.inr h)
        · rcases List.mem_cons.1 hz with rfl | hz
          · exact Or.inl (Or.inl h3.symm)
          · exact Or.inr ⟨z, hz, h1, h2, h3⟩
    · rw [if_neg hc]
      simp only [Bool.and_eq_true, decide_eq_true_eq, Bool.not_eq_true', not_and] at hc
      constructor
      · rintro (h | ⟨z, hz, h⟩)
        · exact Or.inl h
        · exact Or.inr ⟨z, List.mem_cons_of_mem _ hz, h⟩
      · rintro (h | ⟨z, hz, h1, h2, h3⟩)
        · exact Or.inl h
        · rcases List.mem_cons.1 hz with rfl | hz
          · exact absurd h2 (hc h1)
          · exact Or.inr ⟨z, hz, h1, h2, h3⟩
theorem dotsF_len (x : Tx) : ∀ (l : List AddE) (acc : List Dt), (dotsF l x acc).length ≤ acc.length + l.length
  | [], acc => Nat.le_refl _
  | e :: t, acc => by
    unfold dotsF
    refine Nat.le_trans (dotsF_len x t _) ?_
    simp only [List.length_cons]
    split
    · have := (ins_len e.d acc).2; omega
    · omega
theorem dotsF_snoc (x : Tx) (e : AddE) : ∀ (l : List AddE) (acc : List Dt), dotsF (l ++ [e]) x acc = if (decide (e.x = x) && !e.gone) = true then insL e.d (dotsF l x acc) else dotsF l x acc
  | [], acc => rfl
  | q :: t, acc => by
    simp only [List.cons_append]
    unfold dotsF
    exact dotsF_snoc x e t _
theorem RelF.dots {S : Os} {R : Rf} (h : RelF S R) (hok : S.Ok) (x : Tx) : dotsF R.l x [] = S.th x := by
  refine up_eq (dotsF_up x _ _ Up.nil) (hok.up x) fun d => ?_
  rw [dotsF_mem, hok.mem, h.ad]
  constructor
  · rintro (h1 | ⟨e, he, h1, h2, h3⟩)
    · cases h1
    · refine ⟨⟨e, he, h3, h1⟩, ?_⟩
      rw [← h1, ← h3, ← h.gn e he]; exact h2
  · rintro ⟨⟨e, he, h1, h2⟩, h3⟩
    refine Or.inr ⟨e, he, h2, ?_, h1⟩
    rw [h.gn e he, h2, h1]; exact h3
/-- Texts, rising. -/
def insT (b : List UInt8) : List (List UInt8) → List (List UInt8)
  | [] => [b]
  | e :: t => if e < b then e :: insT b t else if e = b then e :: t else b :: e :: t
def allF : List AddE → List (List UInt8) → List (List UInt8)
  | [], acc => acc
  | e :: t, acc => allF t (if e.gone = true then acc else insT e.x.toList acc)
theorem insT_mem (b x : List UInt8) : ∀ l : List (List UInt8), x ∈ insT b l ↔ x = b ∨ x ∈ l
  | [] => by simp [insT]
  | e :: t => by
    unfold insT
    split
    · rw [List.mem_cons, insT_mem b x t, List.mem_cons]
      constructor
      · rintro (h | h | h)
        · exact Or.inr (Or.inl h)
        · exact Or.inl h
        · exact Or.inr (Or.inr h)
      · rintro (h | h | h)
        · exact Or.inr (Or.inl h)
        · exact Or.inl h
        · exact Or.inr (Or.inr h)
    · split
      · rename_i h
        subst h
        simp
      · simp
theorem tlt_trans {a b c : List UInt8} (h : a < b) (k : b < c) : a < c := by
  have : Trans (α := UInt8) (β := UInt8) (γ := UInt8) (· < ·) (· < ·) (· < ·) := ⟨UInt8.lt_trans⟩
  exact List.lt_trans h k
theorem tlt_of {a b : List UInt8} (h : ¬ a < b) (hne : ¬ a = b) : b < a := by
  refine Classical.byContradiction fun k => hne ?_
  exact List.le_antisymm k h
theorem tlt_irr (a : List UInt8) : ¬ a < a := List.lt_irrefl a
theorem insT_up (b : List UInt8) : ∀ l : List (List UInt8), l.Pairwise (· < ·) → (insT b l).Pairwise (· < ·)
  | [], _ => by unfold insT; exact List.pairwise_singleton _ _
  | e :: t, h => by
    obtain ⟨h1, h2⟩ := List.pairwise_cons.1 h
    unfold insT
    split
    · rename_i hlt
      refine List.pairwise_cons.2 ⟨fun x hx => ?_, insT_up b t h2⟩
      rcases (insT_mem b x t).1 hx with rfl | hx
      · exact hlt
      · exact h1 x hx
    · split
      · exact h
      · rename_i hlt hne
        have hbe := tlt_of hlt hne
        refine List.pairwise_cons.2 ⟨fun x hx => ?_, h⟩
        rcases List.mem_cons.1 hx with rfl | hx
        · exact hbe
        · exact tlt_trans hbe (h1 x hx)
theorem allF_up : ∀ (l : List AddE) (acc : List (List UInt8)), acc.Pairwise (· < ·) → (allF l acc).Pairwise (· < ·)
  | [], acc, h => h
  | e :: t, acc, h => by
    unfold allF
    refine allF_up t _ ?_
    split
    · exact h
    · exact insT_up _ _ h
theorem allF_mem (b : List UInt8) : ∀ (l : List AddE) (acc : List (List UInt8)), b ∈ allF l acc ↔ b ∈ acc ∨ ∃ e ∈ l, e.gone = false ∧ e.x.toList = b
  | [], acc => by simp [allF]
  | e :: t, acc => by
    unfold allF
    rw [allF_mem b t]
    cases hg : e.gone with
    | true =>
      rw [if_pos rfl]
      constructor
      · rintro (h | ⟨z, hz, h⟩)
        · exact Or.inl h
        · exact Or.inr ⟨z, List.mem_cons_of_mem _ hz, h⟩
      · rintro (h | ⟨z, hz, h1, h2⟩)
        · exact Or.inl h
        · rcases List.mem_cons.1 hz with rfl | hz
          · rw [hg] at h1; cases h1
          · exact Or.inr ⟨z, hz, h1, h2⟩
    | false =>
      rw [if_neg (by simp), insT_mem]
      constructor
      · rintro ((h | h) | ⟨z, hz, h⟩)
        · exact Or.inr ⟨e, List.mem_cons_self .., hg, h.symm⟩
        · exact Or.inl h
        · exact Or.inr ⟨z, List.mem_cons_of_mem _ hz, h⟩
      · rintro (h | ⟨z, hz, h1, h2⟩)
        · exact Or.inl (Or.inr h)
        · rcases List.mem_cons.1 hz with rfl | hz
          · exact Or.inl (Or.inl h2.symm)
          · exact Or.inr ⟨z, hz, h1, h2⟩
theorem insT_len (b : List UInt8) : ∀ l : List (List UInt8), (insT b l).length ≤ l.length + 1
  | [] => Nat.le_refl _
  | e :: t => by
    unfold insT
    split
    · have := insT_len b t; simp only [List.length_cons]; omega
    · split <;> simp
theorem allF_len : ∀ (l : List AddE) (acc : List (List UInt8)), (allF l acc).length ≤ acc.length + l.length
  | [], acc => Nat.le_refl _
  | e :: t, acc => by
    unfold allF
    refine Nat.le_trans (allF_len t _) ?_
    simp only [List.length_cons]
    split
    · omega
    · have := insT_len e.x.toList acc; omega
theorem allF_snoc (e : AddE) : ∀ (l : List AddE) (acc : List (List UInt8)), allF (l ++ [e]) acc = if e.gone = true then allF l acc else insT e.x.toList (allF l acc)
  | [], acc => rfl
  | q :: t, acc => by
    simp only [List.cons_append]
    unfold allF
    exact allF_snoc e t _
end C
theorem tx_list (x : Tx) : (⟨x.toList.toArray⟩ : Tx) = x := by
  cases x with
  | mk a => simp [ByteArray.toList_eq]
theorem all_rel {S : C.Os} {R : C.Rf} (h : C.RelF S R) (hok : S.Ok) (hs : ∀ x, S.th x ≠ [] → x.size ≤ 100) : IsAll S (C.allF R.l []) := by
  have hu := C.allF_up R.l [] List.Pairwise.nil
  refine ⟨hu.imp fun {a b} hab => ?_, hu.imp fun {a b} hab e => ?_, fun b => ?_⟩
  · simp only [leB, decide_eq_true_eq]
    exact List.le_of_lt hab
  · subst e; exact C.tlt_irr _ hab
  · rw [C.allF_mem]
    constructor
    · rintro (h1 | ⟨e, he, hg, rfl⟩)
      · cases h1
      · have hne : S.th e.x ≠ [] := fun k => by
          have hm : e.d ∈ S.th e.x := (hok.mem e.x e.d).2 ⟨(h.ad _ _).2 ⟨e, he, rfl, rfl⟩, by rw [← h.gn e he]; exact hg⟩
          rw [k] at hm; cases hm
        have hsz := hs _ hne
        rw [tx_list]
        refine ⟨hne, ?_⟩
        rw [ByteArray.toList_eq]
        have : e.x.data.toList.length = e.x.size := by rw [Array.length_toList]; rfl
        rw [this]
        exact Nat.le_trans hsz (by decide)
    · rintro ⟨hne, hl⟩
      obtain ⟨d, hd⟩ := List.exists_mem_of_ne_nil _ hne
      obtain ⟨h1, h2⟩ := (hok.mem _ d).1 hd
      obtain ⟨e, he, h3, h4⟩ := (h.ad _ _).1 h1
      refine Or.inr ⟨e, he, ?_, ?_⟩
      · rw [h.gn e he, h4, h3]; exact h2
      · rw [h4, ByteArray.toList_eq]
end Go.Proofs.Ytoglhhoniojbaaa

namespace Go.Proofs.Ytoglhhoniojbaaa
open Go.RowKit Go.Lib
set_option linter.unusedVariables false

section
variable {α : Type} (enc : α → List Value)
def rowG (l : List α) : List Value := l.flatMap enc
theorem rowG_append (a b : List α) : rowG enc a ++ rowG enc b = rowG enc (a ++ b) := by simp [rowG]
theorem rowG_length {k : Nat} (hk : ∀ x, (enc x).length = k) : ∀ l : List α, (rowG enc l).length = l.length * k
  | [] => by simp [rowG]
  | x :: t => by
    have e : rowG enc (x :: t) = enc x ++ rowG enc t := rfl
    rw [e, List.length_append, hk, rowG_length hk t, List.length_cons, Nat.add_mul]; omega
theorem rowG_one (h1 : ∀ x, ∀ u ∈ enc x, u.oneCell' = true) (l : List α) : ∀ u ∈ rowG enc l, u.oneCell' = true := by
  intro u hu
  obtain ⟨x, _, hx⟩ := List.mem_flatMap.1 hu
  exact h1 x u hx
theorem rowG_get {k : Nat} (hk : ∀ x, (enc x).length = k) : ∀ (l : List α) (i : Nat) (x : α) (j : Nat), l[i]? = some x → j < k → (rowG enc l)[i * k + j]? = (enc x)[j]?
  | [], i, x, j, h, _ => by simp at h
  | y :: t, 0, x, j, h, hj => by
    obtain rfl : y = x := by simpa using h
    have e : rowG enc (y :: t) = enc y ++ rowG enc t := rfl
    rw [e, Nat.zero_mul, Nat.zero_add, List.getElem?_append_left (by rw [hk]; exact hj)]
  | y :: t, i + 1, x, j, h, hj => by
    have e : rowG enc (y :: t) = enc y ++ rowG enc t := rfl
    rw [e, List.getElem?_append_right (by rw [hk, Nat.add_mul]; omega), hk, show (i + 1) * k + j - k = i * k + j by rw [Nat.add_mul]; omega]
    exact rowG_get hk t i x j (by simpa using h) hj
theorem rowG_set {k : Nat} (hk : ∀ x, (enc x).length = k) : ∀ (l : List α) (i : Nat) (x y : α) (j : Nat) (u : Value), l[i]? = some x → j < k → enc y = (enc x).set j u → (rowG enc l).set (i * k + j) u = rowG enc (l.set i y)
  | [], i, x, y, j, u, h, _, _ => by simp at h
  | z :: t, 0, x, y, j, u, h, hj, hy => by
    obtain rfl : z = x := by simpa using h
    have e : rowG enc (z :: t) = enc z ++ rowG enc t := rfl
    have e2 : rowG enc ((z :: t).set 0 y) = enc y ++ rowG enc t := rfl
    rw [e, e2, Nat.zero_mul, Nat.zero_add, List.set_append_left _ _ (by rw [hk]; exact hj), hy]
  | z :: t, i + 1, x, y, j, u, h, hj, hy => by
    have e : rowG enc (z :: t) = enc z ++ rowG enc t := rfl
    have e2 : rowG enc ((z :: t).set (i + 1) y) = enc z ++ rowG enc (t.set i y) := rfl
    rw [e, e2, List.set_append_right _ _ (by rw [hk, Nat.add_mul]; omega), hk, show (i + 1) * k + j - k = i * k + j by rw [Nat.add_mul]; omega, rowG_set hk t i x y j u (by simpa using h) hj hy]
/-- Such a row. -/
def OwnG (w : World) (e k : Nat) (v : Value) (l : List α) : Prop := w.ownsRow 0 e k v l.length (rowG enc l)
variable {enc}
theorem OwnG.nil (w : World) (e k : Nat) : OwnG enc w e k (.slice none 0 0) ([] : List α) := World.ownsRow_nil _ _ _ _
theorem OwnG.same {w w' : World} {e k : Nat} {v : Value} {l : List α} (h : OwnG enc w e k v l) (hb : ∀ b, v.ownBlock = some b → w'.heap[b]? = w.heap[b]?) : OwnG enc w' e k v l := row_same h hb
theorem OwnG.lt {w : World} {e k : Nat} {v : Value} {l : List α} (h : OwnG enc w e k v l) {b : Nat} (hb : v.ownBlock = some b) : b < w.heap.size := row_lt h hb
theorem OwnG.below {w w' : World} {e k : Nat} {v : Value} {l : List α} (h : OwnG enc w e k v l) (hb : Below w.heap.size w w') : OwnG enc w' e k v l := h.same fun b hv => hb.block b (h.lt hv)
theorem OwnG.slice {w : World} {e k : Nat} {v : Value} {l : List α} (h : OwnG enc w e k v l) : ∃ p c, v = .slice p l.length c ∧ (0 < l.length → ∃ g, p = some ⟨g, 0, none⟩) := by
  rcases h.2 with ⟨rfl, h0⟩ | ⟨g, cap, cur, rfl, _⟩
  · exact ⟨none, 0, by rw [h0], fun hl => by omega⟩
  · exact ⟨some ⟨g, 0, none⟩, cap, rfl, fun _ => ⟨g, rfl⟩⟩
theorem OwnG.cell {w : World} {e k g n cap : Nat} {l : List α} (hk : ∀ x, (enc x).length = k) (h : OwnG enc w e k (.slice (some ⟨g, 0, none⟩) n cap) l) {i : Nat} {x : α} (hx : l[i]? = some x) {j : Nat} {u : Value} (hj : j < k) (hu : (enc x)[j]? = some u) : w.cell? ⟨g, i * k + j, none⟩ = some u := by
  have h1 := World.ownsRow.cells h rfl (i * k + j) u (by rw [rowG_get enc hk l i x j hx hj]; exact hu)
  rw [WideShapes.add_plain] at h1
  simpa using h1
theorem OwnG.src {w : World} {e k : Nat} {v : Value} {l : List α} (h : OwnG enc w e k v l) : SrcAt w k v l.length (rowG enc l) := row_src h
theorem OwnG.fz {w : World} {e k g n cap : Nat} {l : List α} (h : OwnG enc w e k (.slice (some ⟨g, 0, none⟩) n cap) l) (hl : n = l.length) (j : Nat) : w.frozen? ⟨g, j, none⟩ = false := by
  subst hl
  exact World.ownsRow.frozenAt h j
theorem OwnG.set {w : World} {e k g n cap : Nat} {l : List α} (hk : ∀ x, (enc x).length = k) (h : OwnG enc w e k (.slice (some ⟨g, 0, none⟩) n cap) l) (hn : n = l.length) {i : Nat} {x y : α} (hx : l[i]? = some x) {j : Nat} {u : Value} (hj : j < k) (hy : enc y = (enc x).set j u) : OwnG enc (w.setCell ⟨g, i * k + j, none⟩ u) e k (.slice (some ⟨g, 0, none⟩) n cap) (l.set i y) := by
  subst hn
  have h1 := (World.ownsRow.stored h (i * k + j) u).1
  rw [rowG_set enc hk l i x y j u hx hj hy] at h1
  unfold OwnG
  rw [List.length_set]
  exact h1
/-- A record that stands alone in a block, as a row of one. -/
theorem src_one {w : World} {e k g : Nat} {x : α} (hk : ∀ x, (enc x).length = k) (h : w.heap[g]? = some (.cells (enc x).toArray e)) : SrcAt w k (.slice (some ⟨g, 0, none⟩) 1 1) 1 (rowG enc [x]) := by
  refine ⟨some ⟨g, 0, none⟩, 1, rfl, by rw [rowG_length enc hk]; rfl, (fun e => by cases e), fun a ha j u hj => ?_⟩
  cases ha
  rw [WideShapes.add_plain, Nat.zero_add]
  have e1 : rowG enc [x] = enc x := by simp [rowG]
  rw [e1] at hj
  simp [World.cell?, h, hj]
end
end Go.Proofs.Ytoglhhoniojbaaa

namespace Go.Proofs.Ytoglhhoniojbaaa
open Go.RowKit Go.Lib
set_option linter.unusedVariables false

set_option maxRecDepth 100000 in
set_option maxHeartbeats 4000000 in
theorem rgood_any (a : V7) (w : World) :
    Calls Try.prog 46 #[a.v] w fun e w' => e = .returned (.bool (C.good a)) ∧ Below w.heap.size w w' := by
  obtain ⟨a0, a1, a2, a3, a4, a5, a6⟩ := a
  simp only [V7.v, C.good, C.inB]
  go_enter Try.func46, Try.ntmps46
  go_wp2
  refine wp_loop_rounds 8 ?_
  repeat' (rw [rounds_succ]; go_wp2)
  all_goals
    go_ret
    exact ⟨ret_bool (by simp; omega), below_new _ _⟩
theorem rgood_at {a : V7} {b : Bool} (h : C.good a = b) (w : World) : Calls Try.prog 46 #[a.v] w fun e w' => e = .returned (.bool b) ∧ Below w.heap.size w w' := by
  have := rgood_any a w; rw [h] at this; exact this
set_option maxRecDepth 100000 in
set_option maxHeartbeats 4000000 in
theorem rhas_any (a : V7) (r n : Int) (w : World) :
    Calls Try.prog 45 #[a.v, .agg #[.int .i64 r, .int .i64 n]] w fun e w' => e = .returned (.bool (C.has a r n)) ∧ Below w.heap.size w w' := by
  obtain ⟨a0, a1, a2, a3, a4, a5, a6⟩ := a
  simp only [V7.v]
  by_cases h0 : 0 ≤ r
  · by_cases h7 : r < 7
    · by_cases hn : 1 ≤ n
      · obtain ⟨k, rfl⟩ := Int.eq_ofNat_of_zero_le h0
        have hc : k = 0 ∨ k = 1 ∨ k = 2 ∨ k = 3 ∨ k = 4 ∨ k = 5 ∨ k = 6 := by omega
        clear h0 h7
        rcases hc with rfl | rfl | rfl | rfl | rfl | rfl | rfl
        all_goals
          go_enter Try.func45, Try.ntmps45
          go_wp2
          go_quiet (fail)
          go_wp2
          go_ret
          exact ⟨ret_bool (by simp [C.has, C.at7, hn]), bel_alike (bt (below_new _ _) (below_new _ _)) rfl rfl rfl rfl⟩
      · have e : C.has ⟨a0, a1, a2, a3, a4, a5, a6⟩ r n = false := by simp [C.has, hn]
        have hn' : decide (1 ≤ n) = false := by simpa using hn
        rw [e]
        clear e
        go_enter Try.func45, Try.ntmps45
        go_wp2
        go_quiet (fail)
        go_wp2
        go_ret
        exact ⟨rfl, bel_alike (bt (below_new _ _) (below_new _ _)) rfl rfl rfl rfl⟩
    · have e : C.has ⟨a0, a1, a2, a3, a4, a5, a6⟩ r n = false := by simp [C.has, h7]
      have h7' : decide (r < 7) = false := by simpa using h7
      rw [e]
      clear e
      go_enter Try.func45, Try.ntmps45
      go_wp2
      go_quiet (fail)
      go_wp2
      go_ret
      exact ⟨rfl, bel_alike (bt (below_new _ _) (below_new _ _)) rfl rfl rfl rfl⟩
  · have e : C.has ⟨a0, a1, a2, a3, a4, a5, a6⟩ r n = false := by simp [C.has, h0]
    have h0' : decide (0 ≤ r) = false := by simpa using h0
    rw [e]
    clear e
    go_enter Try.func45, Try.ntmps45
    go_wp2
    go_quiet (fail)
    go_wp2
    go_ret
    exact ⟨rfl, bel_alike (bt (below_new _ _) (below_new _ _)) rfl rfl rfl rfl⟩
end Go.Proofs.Ytoglhhoniojbaaa

namespace Go.Proofs.Ytoglhhoniojbaaa
open Go.RowKit Go.Lib
set_option linter.unusedVariables false

def encE (e : C.AddE) : List Value := [.int .i64 e.d.1, .int .i64 e.d.2, .string e.x, .bool e.gone]
def encR (e : C.RemE) : List Value := [.string e.x, .int .i64 e.v.x0, .int .i64 e.v.x1, .int .i64 e.v.x2, .int .i64 e.v.x3, .int .i64 e.v.x4, .int .i64 e.v.x5, .int .i64 e.v.x6]
theorem encE_len (e : C.AddE) : (encE e).length = 4 := rfl
theorem encR_len (e : C.RemE) : (encR e).length = 8 := rfl
theorem encE_one (e : C.AddE) : ∀ u ∈ encE e, u.oneCell' = true := by
  intro u hu
  simp only [encE, List.mem_cons, List.mem_nil_iff, or_false] at hu
  rcases hu with rfl | rfl | rfl | rfl <;> rfl
theorem encR_one (e : C.RemE) : ∀ u ∈ encR e, u.oneCell' = true := by
  intro u hu
  simp only [encR, List.mem_cons, List.mem_nil_iff, or_false] at hu
  rcases hu with rfl | rfl | rfl | rfl | rfl | rfl | rfl | rfl <;> rfl
theorem u_adds : Try.prog.underlying 37 = some (.slice 82) := Try.underlying37
theorem u_rems : Try.prog.underlying 38 = some (.slice 84) := Try.underlying38
theorem info_adds : (Try.prog.info? 82).map (fun i => (i.zero, i.size, i.bytes)) = some (some (.agg #[.int .i64 0, .int .i64 0, .string ByteArray.empty, .bool false]), 4, 40) := by kernel_rfl
theorem info_rems : (Try.prog.info? 84).map (fun i => (i.zero, i.size, i.bytes)) = some (some (.agg #[.string ByteArray.empty, .int .i64 0, .int .i64 0, .int .i64 0, .int .i64 0, .int .i64 0, .int .i64 0, .int .i64 0]), 8, 72) := by kernel_rfl
abbrev OwnE (w : World) (v : Value) (l : List C.AddE) : Prop := OwnG encE w 82 4 v l
abbrev OwnR (w : World) (v : Value) (l : List C.RemE) : Prop := OwnG encR w 84 8 v l
/-- The document's own set at block g; its rows are the slices vl, vr. -/
structure RsAt (w : World) (g : Nat) (vl vr : Value) (R : C.Rf) : Prop where
  blk : w.heap[g]? = some (.cells #[vl, vr] 40)
  lo : OwnE w vl R.l
  ro : OwnR w vr R.r
def rfoot (g : Nat) (vl vr : Value) (b : Nat) : Prop := b = g ∨ vl.ownBlock = some b ∨ vr.ownBlock = some b
section
variable {w w' : World} {g : Nat} {vl vr : Value} {R : C.Rf}
theorem RsAt.lt (h : RsAt w g vl vr R) {b : Nat} (hb : rfoot g vl vr b) : b < w.heap.size := by
  rcases hb with rfl | hb | hb
  · exact (Array.getElem?_eq_some_iff.1 h.blk).1
  · exact h.lo.lt hb
  · exact h.ro.lt hb
theorem RsAt.same (h : RsAt w g vl vr R) (hs : ∀ b, rfoot g vl vr b → w'.heap[b]? = w.heap[b]?) : RsAt w' g vl vr R :=
  ⟨(hs g (Or.inl rfl)).trans h.blk, h.lo.same fun b hb => hs b (Or.inr (Or.inl hb)), h.ro.same fun b hb => hs b (Or.inr (Or.inr hb))⟩
theorem RsAt.below (h : RsAt w g vl vr R) (hb : Below w.heap.size w w') : RsAt w' g vl vr R := h.same fun b hf => hb.block b (h.lt hf)
theorem RsAt.cells (h : RsAt w g vl vr R) : w.cell? ⟨g, 0, none⟩ = some vl ∧ w.cell? ⟨g, 1, none⟩ = some vr := by simp [World.cell?, h.blk]
theorem RsAt.fz (h : RsAt w g vl vr R) (o : Nat) : w.frozen? ⟨g, o, none⟩ = false := by simp [World.frozen?, h.blk]
theorem RsAt.apart (h : RsAt w g vl vr R) : vl.ownBlock ≠ some g ∧ vr.ownBlock ≠ some g := by
  refine ⟨fun e => ?_, fun e => ?_⟩
  · obtain ⟨cur, hc⟩ := row_type h.lo e
    have hb := h.blk
    rw [hb] at hc
    simp at hc
  · obtain ⟨cur, hc⟩ := row_type h.ro e
    have hb := h.blk
    rw [hb] at hc
    simp at hc
end
/-- What a call that writes leaves. -/
def RsRet (w : World) (g : Nat) (vl vr : Value) (R' : C.Rf) (w' : World) : Prop :=
  (∃ vl' vr', RsAt w' g vl' vr' R' ∧ ∀ b, rfoot g vl' vr' b → rfoot g vl vr b ∨ w.heap.size ≤ b) ∧ Turn w w' (fun b => b = g)
theorem RsRet.same {w w' : World} {g : Nat} {vl vr : Value} {R : C.Rf} (h : RsAt w g vl vr R) (hb : Below w.heap.size w w') : RsRet w g vl vr R w' :=
  ⟨⟨vl, vr, h.below hb, fun b hb => Or.inl hb⟩, Turn.of_below hb⟩
/-- Another row of adds. -/
theorem RsRet.setL {w w' : World} {g : Nat} {vl vr v' : Value} {R : C.Rf} {l' : List C.AddE} (h : RsAt w g vl vr R) (hb : Below w.heap.size w w') (ho : OwnE w' v' l') (hf : ∀ b, v'.ownBlock = some b → w.heap.size ≤ b) : RsRet w g vl vr ⟨l', R.r⟩ (w'.setCell ⟨g, 0, none⟩ v') := by
  have hgl := h.lt (Or.inl rfl)
  have hq : w'.heap[g]? = some (.cells #[vl, vr] 40) := (hb.block g hgl).trans h.blk
  refine ⟨⟨v', vr, ⟨set_block hq, ho.same fun b hb' => set_other (by have := hf b hb'; omega), h.ro.same fun b hb' => (set_other (fun e => h.apart.2 (by rw [hb', e]))).trans (hb.block b (h.ro.lt hb'))⟩, fun b hb' => ?_⟩, Turn.setCell (S := fun b => b = g) (Turn.of_below hb) rfl _⟩
  rcases hb' with rfl | hb' | hb'
  · exact Or.inl (Or.inl rfl)
  · exact Or.inr (hf b hb')
  · exact Or.inl (Or.inr (Or.inr hb'))
/-- Another row of removes. -/
theorem RsRet.setR {w w' : World} {g : Nat} {vl vr v' : Value} {R : C.Rf} {r' : List C.RemE} (h : RsAt w g vl vr R) (hb : Below w.heap.size w w') (ho : OwnR w' v' r') (hf : ∀ b, v'.ownBlock = some b → w.heap.size ≤ b) : RsRet w g vl vr ⟨R.l, r'⟩ (w'.setCell ⟨g, 1, none⟩ v') := by
  have hgl := h.lt (Or.inl rfl)
  have hq : w'.heap[g]? = some (.cells #[vl, vr] 40) := (hb.block g hgl).trans h.blk
  refine ⟨⟨vl, v', ⟨set_block hq, h.lo.same fun b hb' => (set_other (fun e => h.apart.1 (by rw [hb', e]))).trans (hb.block b (h.lo.lt hb')), ho.same fun b hb' => set_other (by have := hf b hb'; omega)⟩, fun b hb' => ?_⟩, Turn.setCell (S := fun b => b = g) (Turn.of_below hb) rfl _⟩
  rcases hb' with rfl | hb' | hb'
  · exact Or.inl (Or.inl rfl)
  · exact Or.inl (Or.inr (Or.inl hb'))
  · exact Or.inr (hf b hb')
theorem RsRet.trans {w w1 w2 : World} {g : Nat} {vl vr : Value} {R1 R2 : C.Rf} (h : RsRet w g vl vr R1 w1) (h2 : ∀ vl1 vr1, RsAt w1 g vl1 vr1 R1 → RsRet w1 g vl1 vr1 R2 w2) : RsRet w g vl vr R2 w2 := by
  obtain ⟨⟨vl1, vr1, h1, f1⟩, t1⟩ := h
  obtain ⟨⟨vl2, vr2, h3, f2⟩, t2⟩ := h2 vl1 vr1 h1
  refine ⟨⟨vl2, vr2, h3, fun b hb => ?_⟩, t1.trans t2 fun x hx => Or.inl hx⟩
  rcases f2 b hb with hb | hb
  · exact f1 b hb
  · exact Or.inr (Nat.le_trans t1.size hb)
/-- A step that appends records behind a row that was made since wc. -/
theorem stepG {α : Type} {enc : α → List Value} {t e k bytes : Nat} {z : Value} (ht : Try.prog.underlying t = some (.slice e)) (hinf : (Try.prog.info? e).map (fun i => (i.zero, i.size, i.bytes)) = some (some z, k, bytes)) (hzs : z.cells.size = k) (hsz : 0 < k) (hby : bytes ≤ 1000) (h1c : ∀ x, ∀ u ∈ enc x, u.oneCell' = true)
    {wc W : World} {ops : Array Oper} {o : Oper} {a : Act} {K : Act → World → Prop} {Q : Exit → Act → World → Prop} {E : Prop} (hgd : o.guard = none) (s y : Operand) (ho : o.op = .call { callee := .builtin .append, args := #[s, y], argTypes := #[t, t] })
    {vr x : Value} {r ns : List α} (hs : a.eval s = vr) (hr : OwnG enc W e k vr r) (hf : ∀ b, vr.ownBlock = some b → wc.heap.size ≤ b) (hB : Below wc.heap.size wc W) (hy : a.eval y = x) (hx : SrcAt W k x ns.length (rowG enc ns)) (hn : r.length + ns.length ≤ 1000000)
    (h : ∀ v' w', OwnG enc w' e k v' (r ++ ns) → (∀ b, v'.ownBlock = some b → wc.heap.size ≤ b) → Below wc.heap.size wc w' → (∀ (b : Nat) (ob : Obj), W.heap[b]? = some ob → vr.ownBlock ≠ some b → w'.heap[b]? = some ob) → K (a.put o.dst v') w') :
    if Region.wanted o (yielded ops a.tmps) = true then Oper.wp Try.prog o a W K Q else E := by
  have hbb : (r.length + ns.length) * bytes ≤ 140737488355328 := Nat.le_trans (Nat.mul_le_mul hn hby) (by decide)
  refine step_append_src ht hinf hzs hsz hgd s y ho hs hr hy hx (rowG_one enc h1c _) (by unfold maxLen; omega) hbb fun v' w' h1 h2 h3 => h v' w' ?_ ?_ (bel_grown hB h2 hf) fun b ob hb hne => ?_
  · unfold OwnG; rw [List.length_append, ← rowG_append]; exact h1
  · intro b hb
    rcases h3 with h3 | h3
    · exact hf b (h3.symm.trans hb)
    · rw [h3] at hb; cases hb; exact hB.size
  · rw [h2.block b (Array.getElem?_eq_some_iff.1 hb).1 fun e => hne e.symm]; exact hb
theorem OwnG.empty {α : Type} {enc : α → List Value} (w : World) (e k : Nat) : OwnG enc (w.alloc (.cells #[] e)) e k (.slice (some ⟨w.heap.size, 0, none⟩) 0 0) [] := World.ownsRow_lit w #[] 0 (Nat.zero_le _) (Nat.zero_le _) (by simp)
end Go.Proofs.Ytoglhhoniojbaaa

namespace Go.Proofs.Ytoglhhoniojbaaa
open Go.RowKit Go.Lib
set_option linter.unusedVariables false

namespace C
/-- Where the first is that does not lie ahead. -/
theorem insL_at (d : Dt) : ∀ (l : List Dt) (k : Nat), (∀ j x, j < k → l[j]? = some x → dlt x d = true) → (∀ x, l[k]? = some x → dlt x d = false) → k ≤ l.length → insL d l = if l[k]? = some d then l else l.take k ++ d :: l.drop k
  | [], k, _, _, hk => by
    obtain rfl : k = 0 := by simpa using hk
    simp [insL]
  | e :: t, 0, _, h2, _ => by
    have h := h2 e rfl
    unfold insL
    rw [if_neg (by rw [h]; simp)]
    by_cases he : e = d
    · simp [he]
    · simp [he]
  | e :: t, k + 1, h1, h2, hk => by
    have h := h1 0 e (by omega) rfl
    have ih := insL_at d t k (fun j x hj hx => h1 (j + 1) x (by omega) (by simpa using hx)) (fun x hx => h2 x (by simpa using hx)) (by simpa using hk)
    unfold insL
    rw [if_pos h, ih]
    by_cases he : t[k]? = some d
    · simp [he]
    · simp [he]
end C
/-- How much room a row has. -/
theorem cap_of {w : World} {p : Option Addr} {n c : Nat} {l : List C.Dt} (h : OwnD w (.slice p n c) l) : l.length ≤ c := by
  rcases h.shape with ⟨h1, rfl⟩ | ⟨g, cap, cur, hv, _, hn, _⟩
  · exact Nat.zero_le _
  · cases hv; exact hn
theorem src_take {w : World} {g n c k : Nat} {l : List C.Dt} (hk : k ≤ l.length) (h : OwnD w (.slice (some ⟨g, 0, none⟩) n c) l) : SrcAt w 2 (.slice (some ⟨g, 0, none⟩) k c) (l.take k).length (rowD (l.take k)) := by
  refine ⟨some ⟨g, 0, none⟩, c, by rw [List.length_take, Nat.min_eq_left hk], rowD_length _, (fun e => by cases e), fun a ha j u hj => ?_⟩
  cases ha
  have h1 := World.ownsRow.cells h rfl j u (by rw [← List.take_append_drop k l, ← rowD_append, List.getElem?_append_left (List.getElem?_eq_some_iff.1 hj).1]; exact hj)
  exact h1
theorem src_drop {w : World} {g n c k : Nat} {l : List C.Dt} (h : OwnD w (.slice (some ⟨g, 0, none⟩) n c) l) : SrcAt w 2 (.slice (some ⟨g, k * 2, none⟩) (l.length - k) (c - k)) (l.drop k).length (rowD (l.drop k)) := by
  refine ⟨some ⟨g, k * 2, none⟩, c - k, by rw [List.length_drop], rowD_length _, (fun e => by cases e), fun a ha j u hj => ?_⟩
  cases ha
  by_cases hk : k ≤ l.length
  · have e : (rowD (l.take k)).length = k * 2 := by rw [rowD_length, List.length_take, Nat.min_eq_left hk]
    have h1 := World.ownsRow.cells h rfl (k * 2 + j) u (by rw [← List.take_append_drop k l, ← rowD_append, List.getElem?_append_right (by omega), e, Nat.add_sub_cancel_left]; exact hj)
    rw [WideShapes.add_plain] at h1 ⊢
    simpa using h1
  · rw [List.drop_eq_nil_of_le (by omega)] at hj
    simp [rowD] at hj
theorem src_zero (W : World) (p : Option Addr) (c : Nat) : SrcAt W 2 (.slice p 0 c) ([] : List C.Dt).length (rowD []) := ⟨p, c, rfl, rfl, fun _ => rfl, fun a _ j u hj => by simp [rowD] at hj⟩
/-- A step that appends dots behind a row that was made since wc. -/
theorem stepD {wc W : World} {ops : Array Oper} {o : Oper} {a : Act} {K : Act → World → Prop} {Q : Exit → Act → World → Prop} {E : Prop} (hgd : o.guard = none) (s y : Operand) (ho : o.op = .call { callee := .builtin .append, args := #[s, y], argTypes := #[49, 49] })
    {vr x : Value} {r ns : List C.Dt} (hs : a.eval s = vr) (hr : OwnD W vr r) (hf : ∀ b, vr.ownBlock = some b → wc.heap.size ≤ b) (hB : Below wc.heap.size wc W) (hy : a.eval y = x) (hx : SrcAt W 2 x ns.length (rowD ns)) (hn : r.length + ns.length ≤ 1000000)
    (h : ∀ v' w', OwnD w' v' (r ++ ns) → (∀ b, v'.ownBlock = some b → wc.heap.size ≤ b) → Below wc.heap.size wc w' → (∀ (b : Nat) (ob : Obj), W.heap[b]? = some ob → vr.ownBlock ≠ some b → w'.heap[b]? = some ob) → K (a.put o.dst v') w') :
    if Region.wanted o (yielded ops a.tmps) = true then Oper.wp Try.prog o a W K Q else E := by
  refine step_append_src u_dots info_dot rfl (by decide) hgd s y ho hs hr hy hx (rowD_one _) (by unfold maxLen; omega) (by omega) fun v' w' h1 h2 h3 => h v' w' ?_ ?_ (bel_grown hB h2 hf) fun b ob hb hne => ?_
  · unfold OwnD; rw [List.length_append, ← rowD_append]; exact h1
  · intro b hb
    rcases h3 with h3 | h3
    · exact hf b (h3.symm.trans hb)
    · rw [h3] at hb; cases hb; exact hB.size
  · rw [h2.block b (Array.getElem?_eq_some_iff.1 hb).1 fun e => hne e.symm]; exact hb
set_option maxRecDepth 100000 in
set_option maxHeartbeats 8000000 in
theorem rinsert_any (v : Value) (l : List C.Dt) (d1 d2 : Int) (w : World) (h : OwnD w v l) (hl : l.length ≤ 100000) :
    Calls Try.prog 50 #[v, .agg #[.int .i64 d1, .int .i64 d2]] w fun e w' => (∃ v', e = .returned v' ∧ OwnD w' v' (C.insL (d1, d2) l) ∧ (v' = v ∨ ∀ b, v'.ownBlock = some b → w.heap.size ≤ b)) ∧ Below w.heap.size w w' := by
  obtain ⟨q1, c1, hv1⟩ := h.len
  subst hv1
  have H1 : Hid (OwnD w (.slice q1 l.length c1) l) := h
  clear h
  obtain ⟨n, hn⟩ : ∃ n, n = l.length := ⟨_, rfl⟩
  have HN : Hid (n = l.length) := hn
  rw [← hn]
  rw [← hn] at hl
  clear hn
  go_enter Try.func50, Try.ntmps50
  have HQ0 : Hid ((w.alloc (.cells #[.int .i64 d1, .int .i64 d2] 31)).heap[w.heap.size]? = some (.cells #[.int .i64 d1, .int .i64 d2] 31)) := heap_alloc_new w _
  go_wp2_with fail
  go_loopw [5] (fun s5 wr => ∃ k : Nat, s5 = .int .i64 k ∧ k ≤ n ∧ Hid (∀ j x, j < k → l[j]? = some x → C.dlt x (d1, d2) = true) ∧ Hid (Below w.heap.size w wr) ∧ Hid (wr.heap[w.heap.size]? = some (.cells #[.int .i64 d1, .int .i64 d2] 31))) (fun s5 _ => n - (intOf s5).toNat)
  case atStart => exact ⟨0, rfl, Nat.zero_le _, fun j x hj => absurd hj (by omega), below_new _ _, HQ0.out⟩
  case round =>
    obtain ⟨k, rfl, hkn, HK, HB, HQ⟩ := hrel
    by_cases hlt : k < n
    · obtain ⟨⟨x1, x2⟩, hx⟩ : ∃ x, l[k]? = some x := ⟨_, List.getElem?_eq_getElem (by have := HN.out; omega)⟩
      obtain ⟨g1, cc1, e1⟩ := OwnD.at H1.out (by have := HN.out; omega)
      cases e1
      have hne : Nonempty (NewW wr) := ⟨NewW.start wr⟩
      have a0 : ∀ m : NewW wr, m.v.cell? ⟨g1, k * 2, none⟩ = some (.int .i64 x1) := fun m => (OwnD.cell (OwnD.below H1.out (bt HB.out m.h)) k (x1, x2) hx).1
      have a1 : ∀ m : NewW wr, m.v.cell? ⟨g1, k * 2 + 1, none⟩ = some (.int .i64 x2) := fun m => (OwnD.cell (OwnD.below H1.out (bt HB.out m.h)) k (x1, x2) hx).2
      have b0 : ∀ m : NewW wr, m.v.cell? ⟨w.heap.size, 0, none⟩ = some (.int .i64 d1) := fun m => (box2 (keep_on m.h HQ.out)).1
      have b1 : ∀ m : NewW wr, m.v.cell? ⟨w.heap.size, 1, none⟩ = some (.int .i64 d2) := fun m => (box2 (keep_on m.h HQ.out)).2
      have HX : Hid (l[k]? = some (x1, x2)) := hx
      clear hx
      obtain ⟨qb, hqb⟩ : ∃ qb, qb = C.dlt (x1, x2) (d1, d2) := ⟨_, rfl⟩
      have HLS : Hid (∀ W, Calls Try.prog 72 #[.agg #[.int .i64 x1, .int .i64 x2], .agg #[.int .i64 d1, .int .i64 d2]] W fun e w' => e = .returned (.bool qb) ∧ Below W.heap.size W w') := fun W => by rw [hqb]; exact rless_any x1 x2 d1 d2 W
      have HD : Hid (C.dlt (x1, x2) (d1, d2) = qb) := hqb.symm
      clear hqb
      cases qb with
      | true =>
        go_wp2_with fail
        refine wp_region_new (by kernel_rfl) (by kernel_rfl) ?_
        repeat (go_big_quiet_step (with_reducible exact new_of (HLS.out _)))
        refine wpQuiet_nil ?_
        rintro _ ⟨w2, rfl⟩
        go_wp2
        go_roundw
        case rel =>
          refine ⟨k + 1, by go_num, by omega, ?_, bt HB.out w2.h, keep_on w2.h HQ.out⟩
          intro j x hj hx
          by_cases e : j = k
          · subst e
            rw [HX.out] at hx
            cases hx
            exact HD.out
          · exact HK.out j x (by omega) hx
        case measure => simp [intOf]; omega
      | false =>
        go_wp2_with fail
        refine wp_region_new (by kernel_rfl) (by kernel_rfl) ?_
        repeat (go_big_quiet_step (with_reducible exact new_of (HLS.out _)))
        refine wpQuiet_nil ?_
        rintro _ ⟨w2, rfl⟩
        have HB2 : Hid (Below w.heap.size w w2.v) := bt HB.out w2.h
        have HQ2 : Hid (w2.v.heap[w.heap.size]? = some (.cells #[.int .i64 d1, .int .i64 d2] 31)) := keep_on w2.h HQ.out
        obtain ⟨wc, hwc⟩ : ∃ wc, w2.v = wc := ⟨_, rfl⟩
        rw [hwc] at HB2 HQ2 ⊢
        clear hwc a0 a1 b0 b1 hne HQ HB w2
        have hne : Nonempty (NewW wc) := ⟨NewW.start wc⟩
        have a0 : ∀ m : NewW wc, m.v.cell? ⟨g1, k * 2, none⟩ = some (.int .i64 x1) := fun m => (OwnD.cell (OwnD.below H1.out (bt HB2.out m.h)) k (x1, x2) HX.out).1
        have a1 : ∀ m : NewW wc, m.v.cell? ⟨g1, k * 2 + 1, none⟩ = some (.int .i64 x2) := fun m => (OwnD.cell (OwnD.below H1.out (bt HB2.out m.h)) k (x1, x2) HX.out).2
        have b0 : ∀ m : NewW wc, m.v.cell? ⟨w.heap.size, 0, none⟩ = some (.int .i64 d1) := fun m => (box2 (keep_on m.h HQ2.out)).1
        have b1 : ∀ m : NewW wc, m.v.cell? ⟨w.heap.size, 1, none⟩ = some (.int .i64 d2) := fun m => (box2 (keep_on m.h HQ2.out)).2
        obtain ⟨qb, hqb⟩ : ∃ qb, qb = (x1 == d1 && x2 == d2) := ⟨_, rfl⟩
        have kq : ∀ W, (Op.equalIn 10000 31 (.agg #[.int .i64 x1, .int .i64 x2]) (.agg #[.int .i64 d1, .int .i64 d2])).run Try.prog W = .ok qb W := fun W => by rw [hqb]; exact eq2_dot x1 x2 d1 d2 W
        have HE : Hid (qb = true ↔ (x1, x2) = (d1, d2)) := by
          show _ ↔ _
          rw [hqb]; simp [Prod.ext_iff]
        have HI : Hid (C.insL (d1, d2) l = if l[k]? = some (d1, d2) then l else l.take k ++ (d1, d2) :: l.drop k) := C.insL_at (d1, d2) l k HK.out (fun x hx => by rw [HX.out] at hx; cases hx; exact HD.out) (by have := HN.out; omega)
        clear hqb
        cases qb with
        | true =>
          go_wp2_with fail
          refine wp_region_new (by kernel_rfl) (by kernel_rfl) ?_
          repeat (go_big_quiet_step (fail))
          refine wpQuiet_nil ?_
          rintro _ ⟨w3, rfl⟩
          go_wp2
          go_ret
          refine ⟨⟨.slice (some ⟨g1, 0, none⟩) n c1, rfl, ?_, Or.inl rfl⟩, bt HB2.out w3.h⟩
          rw [HI.out, HX.out, HE.out.1 (by trivial), if_pos rfl]
          have h1 := H1.out.below (bt HB2.out w3.h)
          rw [← HN.out] at h1
          exact h1
        | false =>
          go_wp2_with fail
          refine wp_region_new (by kernel_rfl) (by kernel_rfl) ?_
          repeat (go_big_quiet_step (fail))
          refine wpQuiet_nil ?_
          rintro _ ⟨w3, rfl⟩
          go_wp2_with fail
          have hcap : n ≤ c1 := by have := cap_of H1.out; have := HN.out; omega
          have hck : ¬ c1 = k := by omega
          have HS3 : Hid (∀ W, Below wc.heap.size wc W → SrcAt W 2 (.slice (some ⟨g1, 0, none⟩) k c1) (l.take k).length (rowD (l.take k))) := fun W hW => src_take (by have := HN.out; omega) (H1.out.below (bt HB2.out hW))
          have HS10 : Hid (∀ W, Below wc.heap.size wc W → SrcAt W 2 (.slice (some ⟨g1, k * 2, none⟩) (n - k) (c1 - k)) (l.drop k).length (rowD (l.drop k))) := fun W hW => by rw [HN.out]; exact src_drop (H1.out.below (bt HB2.out hW))
          have hC : ∃ m : NewW wc, w3.v.drew = m.v := ⟨⟨w3.v.drew, w3.h.drew⟩, rfl⟩
          refine wp_region_held_drew (S := fun w' => ∃ m : NewW wc, w' = m.v) (by kernel_rfl) hC (fun _ => ?_)
          have hB : Below wc.heap.size wc w3.v.drew := w3.h.drew
          generalize hW0 : w3.v.drew = W0 at *
          clear hW0 w3
          refine takeList (i := 1) rfl (by kernel_rfl) (by kernel_rfl) (by kernel_rfl) (fun _ _ _ _ h => h) rfl rfl hC (fun K hK => ?_)
          go_big_quiet_op
          refine hK _ ?_
          clear hK K
          refine takeList (i := 2) rfl (by kernel_rfl) (by kernel_rfl) (by kernel_rfl) (fun _ _ _ _ h => h) rfl rfl hC (fun K hK => ?_)
          go_big_quiet_op
          refine hK _ ?_
          clear hK K
          refine takeVal (i := 3) (.slice (some ⟨g1, 0, none⟩) k c1) rfl (by kernel_rfl) (by kernel_rfl) (by kernel_rfl) (fun _ _ _ _ h => h) rfl hC (fun w' _ => by go_simp; try (intro h; omega)) ?_
          go_simp
          refine takeList (i := 5) rfl (by kernel_rfl) (by kernel_rfl) (by kernel_rfl) (fun _ _ _ _ h => h) rfl rfl hC (fun K hK => ?_)
          go_big_quiet_op
          refine hK _ ?_
          clear hK K
          refine takeList (i := 8) rfl (by kernel_rfl) (by kernel_rfl) (by kernel_rfl) (fun _ _ _ _ h => h) rfl rfl hC (fun K hK => ?_)
          go_big_quiet_op
          refine hK _ ?_
          clear hK K
          refine takeList (i := 9) rfl (by kernel_rfl) (by kernel_rfl) (by kernel_rfl) (fun _ _ _ _ h => h) rfl rfl hC (fun K hK => ?_)
          go_big_quiet_op
          refine hK _ ?_
          clear hK K
          refine takeVal (i := 10) (.slice (some ⟨g1, k * 2, none⟩) (n - k) (c1 - k)) rfl (by kernel_rfl) (by kernel_rfl) (by kernel_rfl) (fun _ _ _ _ h => h) rfl hC (fun w' _ => by go_simp; try (intro h; omega)) ?_
          go_simp
          clear a0 a1 b0 b1 hne
          refine wpAnyH_ready (rs := [0, 6]) (by kernel_rfl) (by simp) (AllReadyH.cons (at_of_drop (i := 0) rfl) (fun K hK => ?_) (AllReadyH.cons (at_of_drop (i := 6) rfl) (fun K hK => ?_) AllReadyH.nil))
          · rw [if_pos (by rfl)]
            go_simp
            have hal := below_new W0 (.cells #[] 31)
            have hr := OwnD.empty W0
            obtain ⟨vr, hvr⟩ : ∃ vr, Value.slice (some ⟨W0.heap.size, 0, none⟩) 0 0 = vr := ⟨_, rfl⟩
            have hrf : ∀ b, vr.ownBlock = some b → wc.heap.size ≤ b := fun b hb => by rw [← hvr] at hb; cases hb; exact hB.size
            rw [hvr] at hr ⊢
            replace hB := bt hB hal
            refine hK.out _ _ ⟨⟨_, hB⟩, rfl⟩ (fun hC => ?_)
            generalize World.alloc W0 (.cells #[] 31) = W1 at *
            clear hK K hal hvr
            refine wpAnyH_ready (rs := [4, 6]) (by kernel_rfl) (by simp) (AllReadyH.cons (at_of_drop (i := 4) rfl) (fun K hK => ?_) (AllReadyH.cons (at_of_drop (i := 6) rfl) (fun K hK => ?_) AllReadyH.nil))
            · refine stepD (ns := l.take k) rfl _ _ rfl rfl hr hrf hB rfl (HS3.out _ hB) (by have := HN.out; simp <;> omega) ?_
              intro vr W2 hr hrf hB hk
              clear hk
              refine hK.out _ _ ⟨⟨_, hB⟩, rfl⟩ (fun hC => ?_)
              go_simp
              clear hK K
              refine wpAnyH_ready (rs := [6]) (by kernel_rfl) (by simp) (AllReadyH.cons (at_of_drop (i := 6) rfl) (fun K hK => ?_) AllReadyH.nil)
              rw [if_pos (by rfl)]
              go_simp
              have hal := below_new W2 (.cells #[.int .i64 d1, .int .i64 d2] 31)
              obtain ⟨vd, hvd⟩ : ∃ vd, W2.heap.size = vd := ⟨_, rfl⟩
              have hd := heap_alloc_new W2 (.cells #[.int .i64 d1, .int .i64 d2] 31)
              have hdn : vr.ownBlock ≠ some vd := fun e => by have := row_lt hr e; omega
              replace hr := OwnD.below hr hal
              rw [hvd] at hd ⊢
              replace hB := bt hB hal
              refine hK.out _ _ ⟨⟨_, hB⟩, rfl⟩ (fun hC => ?_)
              generalize World.alloc W2 (.cells #[.int .i64 d1, .int .i64 d2] 31) = W3 at *
              clear hK K hal hvd
              refine wpAnyH_ready (rs := [7]) (by kernel_rfl) (by simp) (AllReadyH.cons (at_of_drop (i := 7) rfl) (fun K hK => ?_) AllReadyH.nil)
              refine stepD (ns := [(d1, d2)]) rfl _ _ rfl rfl hr hrf hB rfl (two_src (c := 1) hd) (by have := HN.out; simp <;> omega) ?_
              intro vr W4 hr hrf hB hk
              clear hk
              refine hK.out _ _ ⟨⟨_, hB⟩, rfl⟩ (fun hC => ?_)
              go_simp
              clear hK K
              refine wpAnyH_ready (rs := [11]) (by kernel_rfl) (by simp) (AllReadyH.cons (at_of_drop (i := 11) rfl) (fun K hK => ?_) AllReadyH.nil)
              refine stepD (ns := l.drop k) rfl _ _ rfl rfl hr hrf hB rfl (HS10.out _ hB) (by have := HN.out; simp <;> omega) ?_
              intro vr W5 hr hrf hB hk
              clear hk
              refine hK.out _ _ ⟨⟨_, hB⟩, rfl⟩ (fun hC => ?_)
              go_simp
              clear hK K
              refine takeList (i := 12) rfl (by kernel_rfl) (by kernel_rfl) (by kernel_rfl) (fun _ _ _ _ h => h) rfl rfl hC (fun K hK => ?_)
              go_big_quiet_op
              refine hK _ ?_
              clear hK K
              refine wpAnyH_done (by kernel_rfl) ?_ _
              go_wp2
              go_ret
              refine ⟨⟨_, rfl, ?_, Or.inr fun b hb => ?_⟩, bt HB2.out hB⟩
              · rw [HI.out, if_neg (by rw [HX.out]; intro e; have := HE.out.2 (by simpa using e); cases this)]
                simpa using hr
              · exact Nat.le_trans HB2.out.size (hrf b hb)
            · rw [if_pos (by rfl)]
              go_simp
              have hal := below_new W1 (.cells #[.int .i64 d1, .int .i64 d2] 31)
              obtain ⟨vd, hvd⟩ : ∃ vd, W1.heap.size = vd := ⟨_, rfl⟩
              have hd := heap_alloc_new W1 (.cells #[.int .i64 d1, .int .i64 d2] 31)
              have hdn : vr.ownBlock ≠ some vd := fun e => by have := row_lt hr e; omega
              replace hr := OwnD.below hr hal
              rw [hvd] at hd ⊢
              replace hB := bt hB hal
              refine hK.out _ _ ⟨⟨_, hB⟩, rfl⟩ (fun hC => ?_)
              generalize World.alloc W1 (.cells #[.int .i64 d1, .int .i64 d2] 31) = W2 at *
              clear hK K hal hvd
              refine wpAnyH_ready (rs := [4]) (by kernel_rfl) (by simp) (AllReadyH.cons (at_of_drop (i := 4) rfl) (fun K hK => ?_) AllReadyH.nil)
              refine stepD (ns := l.take k) rfl _ _ rfl rfl hr hrf hB rfl (HS3.out _ hB) (by have := HN.out; simp <;> omega) ?_
              intro vr W3 hr hrf hB hk
              replace hd := hk _ _ hd hdn
              clear hk
              refine hK.out _ _ ⟨⟨_, hB⟩, rfl⟩ (fun hC => ?_)
              go_simp
              clear hK K
              refine wpAnyH_ready (rs := [7]) (by kernel_rfl) (by simp) (AllReadyH.cons (at_of_drop (i := 7) rfl) (fun K hK => ?_) AllReadyH.nil)
              refine stepD (ns := [(d1, d2)]) rfl _ _ rfl rfl hr hrf hB rfl (two_src (c := 1) hd) (by have := HN.out; simp <;> omega) ?_
              intro vr W4 hr hrf hB hk
              clear hk
              refine hK.out _ _ ⟨⟨_, hB⟩, rfl⟩ (fun hC => ?_)
              go_simp
              clear hK K
              refine wpAnyH_ready (rs := [11]) (by kernel_rfl) (by simp) (AllReadyH.cons (at_of_drop (i := 11) rfl) (fun K hK => ?_) AllReadyH.nil)
              refine stepD (ns := l.drop k) rfl _ _ rfl rfl hr hrf hB rfl (HS10.out _ hB) (by have := HN.out; simp <;> omega) ?_
              intro vr W5 hr hrf hB hk
              clear hk
              refine hK.out _ _ ⟨⟨_, hB⟩, rfl⟩ (fun hC => ?_)
              go_simp
              clear hK K
              refine takeList (i := 12) rfl (by kernel_rfl) (by kernel_rfl) (by kernel_rfl) (fun _ _ _ _ h => h) rfl rfl hC (fun K hK => ?_)
              go_big_quiet_op
              refine hK _ ?_
              clear hK K
              refine wpAnyH_done (by kernel_rfl) ?_ _
              go_wp2
              go_ret
              refine ⟨⟨_, rfl, ?_, Or.inr fun b hb => ?_⟩, bt HB2.out hB⟩
              · rw [HI.out, if_neg (by rw [HX.out]; intro e; have := HE.out.2 (by simpa using e); cases this)]
                simpa using hr
              · exact Nat.le_trans HB2.out.size (hrf b hb)
          · rw [if_pos (by rfl)]
            go_simp
            have hal := below_new W0 (.cells #[.int .i64 d1, .int .i64 d2] 31)
            obtain ⟨vd, hvd⟩ : ∃ vd, W0.heap.size = vd := ⟨_, rfl⟩
            have hd := heap_alloc_new W0 (.cells #[.int .i64 d1, .int .i64 d2] 31)
            rw [hvd] at hd ⊢
            replace hB := bt hB hal
            refine hK.out _ _ ⟨⟨_, hB⟩, rfl⟩ (fun hC => ?_)
            generalize World.alloc W0 (.cells #[.int .i64 d1, .int .i64 d2] 31) = W1 at *
            clear hK K hal hvd
            refine wpAnyH_ready (rs := [0]) (by kernel_rfl) (by simp) (AllReadyH.cons (at_of_drop (i := 0) rfl) (fun K hK => ?_) AllReadyH.nil)
            rw [if_pos (by rfl)]
            go_simp
            have hal := below_new W1 (.cells #[] 31)
            have hr := OwnD.empty W1
            obtain ⟨vr, hvr⟩ : ∃ vr, Value.slice (some ⟨W1.heap.size, 0, none⟩) 0 0 = vr := ⟨_, rfl⟩
            have hrf : ∀ b, vr.ownBlock = some b → wc.heap.size ≤ b := fun b hb => by rw [← hvr] at hb; cases hb; exact hB.size
            have hdn : vr.ownBlock ≠ some vd := fun e => by rw [← hvr] at e; cases e; exact absurd (Array.getElem?_eq_some_iff.1 hd).1 (Nat.lt_irrefl _)
            replace hd := keep_on hal hd
            rw [hvr] at hr ⊢
            replace hB := bt hB hal
            refine hK.out _ _ ⟨⟨_, hB⟩, rfl⟩ (fun hC => ?_)
            generalize World.alloc W1 (.cells #[] 31) = W2 at *
            clear hK K hal hvr
            refine wpAnyH_ready (rs := [4]) (by kernel_rfl) (by simp) (AllReadyH.cons (at_of_drop (i := 4) rfl) (fun K hK => ?_) AllReadyH.nil)
            refine stepD (ns := l.take k) rfl _ _ rfl rfl hr hrf hB rfl (HS3.out _ hB) (by have := HN.out; simp <;> omega) ?_
            intro vr W3 hr hrf hB hk
            replace hd := hk _ _ hd hdn
            clear hk
            refine hK.out _ _ ⟨⟨_, hB⟩, rfl⟩ (fun hC => ?_)
            go_simp
            clear hK K
            refine wpAnyH_ready (rs := [7]) (by kernel_rfl) (by simp) (AllReadyH.cons (at_of_drop (i := 7) rfl) (fun K hK => ?_) AllReadyH.nil)
            refine stepD (ns := [(d1, d2)]) rfl _ _ rfl rfl hr hrf hB rfl (two_src (c := 1) hd) (by have := HN.out; simp <;> omega) ?_
            intro vr W4 hr hrf hB hk
            clear hk
            refine hK.out _ _ ⟨⟨_, hB⟩, rfl⟩ (fun hC => ?_)
            go_simp
            clear hK K
            refine wpAnyH_ready (rs := [11]) (by kernel_rfl) (by simp) (AllReadyH.cons (at_of_drop (i := 11) rfl) (fun K hK => ?_) AllReadyH.nil)
            refine stepD (ns := l.drop k) rfl _ _ rfl rfl hr hrf hB rfl (HS10.out _ hB) (by have := HN.out; simp <;> omega) ?_
            intro vr W5 hr hrf hB hk
            clear hk
            refine hK.out _ _ ⟨⟨_, hB⟩, rfl⟩ (fun hC => ?_)
            go_simp
            clear hK K
            refine takeList (i := 12) rfl (by kernel_rfl) (by kernel_rfl) (by kernel_rfl) (fun _ _ _ _ h => h) rfl rfl hC (fun K hK => ?_)
            go_big_quiet_op
            refine hK _ ?_
            clear hK K
            refine wpAnyH_done (by kernel_rfl) ?_ _
            go_wp2
            go_ret
            refine ⟨⟨_, rfl, ?_, Or.inr fun b hb => ?_⟩, bt HB2.out hB⟩
            · rw [HI.out, if_neg (by rw [HX.out]; intro e; have := HE.out.2 (by simpa using e); cases this)]
              simpa using hr
            · exact Nat.le_trans HB2.out.size (hrf b hb)
    · obtain rfl : k = n := by omega
      have HI : Hid (C.insL (d1, d2) l = l ++ [(d1, d2)]) := by
        show _ = _
        rw [C.insL_at (d1, d2) l k HK.out (fun x hx => by rw [List.getElem?_eq_none (by have := HN.out; omega)] at hx; cases hx) (by have := HN.out; omega), List.getElem?_eq_none (by have := HN.out; omega), if_neg (by simp), List.take_of_length_le (by have := HN.out; omega), List.drop_eq_nil_of_le (by have := HN.out; omega)]
      have hcap : k ≤ c1 := by have := cap_of H1.out; have := HN.out; omega
      rcases H1.out.shape with ⟨e1, e2⟩ | ⟨g1, cap, cur, e1, -⟩
      · subst e2
        cases e1
        obtain rfl : k = 0 := HN.out
        have HS3 : Hid (∀ {B : Nat} {A : World} (W : World), Below B A W → SrcAt W 2 (.slice none 0 0) ([] : List C.Dt).length (rowD [])) := fun W _ => src_zero W none 0
        have HS10 : Hid (∀ {B : Nat} {A : World} (W : World), Below B A W → SrcAt W 2 (.slice none 0 0) ([] : List C.Dt).length (rowD [])) := fun W _ => src_zero W none 0
        have hne : Nonempty (NewW wr) := ⟨NewW.start wr⟩
        have b0 : ∀ m : NewW wr, m.v.cell? ⟨w.heap.size, 0, none⟩ = some (.int .i64 d1) := fun m => (box2 (keep_on m.h HQ.out)).1
        have b1 : ∀ m : NewW wr, m.v.cell? ⟨w.heap.size, 1, none⟩ = some (.int .i64 d2) := fun m => (box2 (keep_on m.h HQ.out)).2
        go_wp2_with fail
        refine wp_region_new (by kernel_rfl) (by kernel_rfl) ?_
        repeat (go_big_quiet_step (fail))
        refine wpQuiet_nil ?_
        rintro _ ⟨w2, rfl⟩
        have HB2 : Hid (Below w.heap.size w w2.v) := bt HB.out w2.h
        have HQ2 : Hid (w2.v.heap[w.heap.size]? = some (.cells #[.int .i64 d1, .int .i64 d2] 31)) := keep_on w2.h HQ.out
        obtain ⟨wc, hwc⟩ : ∃ wc, w2.v = wc := ⟨_, rfl⟩
        rw [hwc] at HB2 HQ2 ⊢
        clear hwc b0 b1 hne HQ HB w2
        have hne : Nonempty (NewW wc) := ⟨NewW.start wc⟩
        have b0 : ∀ m : NewW wc, m.v.cell? ⟨w.heap.size, 0, none⟩ = some (.int .i64 d1) := fun m => (box2 (keep_on m.h HQ2.out)).1
        have b1 : ∀ m : NewW wc, m.v.cell? ⟨w.heap.size, 1, none⟩ = some (.int .i64 d2) := fun m => (box2 (keep_on m.h HQ2.out)).2
        go_wp2_with fail
        refine wp_region_new (by kernel_rfl) (by kernel_rfl) ?_
        repeat (go_big_quiet_step (fail))
        refine wpQuiet_nil ?_
        rintro _ ⟨w3, rfl⟩
        go_wp2_with fail
        have hC : ∃ m : NewW wc, w3.v.drew = m.v := ⟨⟨w3.v.drew, w3.h.drew⟩, rfl⟩
        refine wp_region_held_drew (S := fun w' => ∃ m : NewW wc, w' = m.v) (by kernel_rfl) hC (fun _ => ?_)
        have hB : Below wc.heap.size wc w3.v.drew := w3.h.drew
        generalize hW0 : w3.v.drew = W0 at *
        clear hW0 w3
        refine takeList (i := 1) rfl (by kernel_rfl) (by kernel_rfl) (by kernel_rfl) (fun _ _ _ _ h => h) rfl rfl hC (fun K hK => ?_)
        go_big_quiet_op
        refine hK _ ?_
        clear hK K
        refine takeList (i := 2) rfl (by kernel_rfl) (by kernel_rfl) (by kernel_rfl) (fun _ _ _ _ h => h) rfl rfl hC (fun K hK => ?_)
        go_big_quiet_op
        refine hK _ ?_
        clear hK K
        refine takeVal (i := 3) (.slice none 0 0) rfl (by kernel_rfl) (by kernel_rfl) (by kernel_rfl) (fun _ _ _ _ h => h) rfl hC (fun w' _ => by go_simp; try (intro h; omega)) ?_
        go_simp
        refine takeList (i := 5) rfl (by kernel_rfl) (by kernel_rfl) (by kernel_rfl) (fun _ _ _ _ h => h) rfl rfl hC (fun K hK => ?_)
        go_big_quiet_op
        refine hK _ ?_
        clear hK K
        refine takeList (i := 8) rfl (by kernel_rfl) (by kernel_rfl) (by kernel_rfl) (fun _ _ _ _ h => h) rfl rfl hC (fun K hK => ?_)
        go_big_quiet_op
        refine hK _ ?_
        clear hK K
        refine takeList (i := 9) rfl (by kernel_rfl) (by kernel_rfl) (by kernel_rfl) (fun _ _ _ _ h => h) rfl rfl hC (fun K hK => ?_)
        go_big_quiet_op
        refine hK _ ?_
        clear hK K
        refine takeVal (i := 10) (.slice none 0 0) rfl (by kernel_rfl) (by kernel_rfl) (by kernel_rfl) (fun _ _ _ _ h => h) rfl hC (fun w' _ => by go_simp; try (intro h; omega)) ?_
        go_simp
        clear b0 b1 hne
        refine wpAnyH_ready (rs := [0, 6]) (by kernel_rfl) (by simp) (AllReadyH.cons (at_of_drop (i := 0) rfl) (fun K hK => ?_) (AllReadyH.cons (at_of_drop (i := 6) rfl) (fun K hK => ?_) AllReadyH.nil))
        · rw [if_pos (by rfl)]
          go_simp
          have hal := below_new W0 (.cells #[] 31)
          have hr := OwnD.empty W0
          obtain ⟨vr, hvr⟩ : ∃ vr, Value.slice (some ⟨W0.heap.size, 0, none⟩) 0 0 = vr := ⟨_, rfl⟩
          have hrf : ∀ b, vr.ownBlock = some b → wc.heap.size ≤ b := fun b hb => by rw [← hvr] at hb; cases hb; exact hB.size
          rw [hvr] at hr ⊢
          replace hB := bt hB hal
          refine hK.out _ _ ⟨⟨_, hB⟩, rfl⟩ (fun hC => ?_)
          generalize World.alloc W0 (.cells #[] 31) = W1 at *
          clear hK K hal hvr
          refine wpAnyH_ready (rs := [4, 6]) (by kernel_rfl) (by simp) (AllReadyH.cons (at_of_drop (i := 4) rfl) (fun K hK => ?_) (AllReadyH.cons (at_of_drop (i := 6) rfl) (fun K hK => ?_) AllReadyH.nil))
          · refine stepD (ns := []) rfl _ _ rfl rfl hr hrf hB rfl (HS3.out _ hB) (by have := HN.out; simp <;> omega) ?_
            intro vr W2 hr hrf hB hk
            clear hk
            refine hK.out _ _ ⟨⟨_, hB⟩, rfl⟩ (fun hC => ?_)
            go_simp
            clear hK K
            refine wpAnyH_ready (rs := [6]) (by kernel_rfl) (by simp) (AllReadyH.cons (at_of_drop (i := 6) rfl) (fun K hK => ?_) AllReadyH.nil)
            rw [if_pos (by rfl)]
            go_simp
            have hal := below_new W2 (.cells #[.int .i64 d1, .int .i64 d2] 31)
            obtain ⟨vd, hvd⟩ : ∃ vd, W2.heap.size = vd := ⟨_, rfl⟩
            have hd := heap_alloc_new W2 (.cells #[.int .i64 d1, .int .i64 d2] 31)
            have hdn : vr.ownBlock ≠ some vd := fun e => by have := row_lt hr e; omega
            replace hr := OwnD.below hr hal
            rw [hvd] at hd ⊢
            replace hB := bt hB hal
            refine hK.out _ _ ⟨⟨_, hB⟩, rfl⟩ (fun hC => ?_)
            generalize World.alloc W2 (.cells #[.int .i64 d1, .int .i64 d2] 31) = W3 at *
            clear hK K hal hvd
            refine wpAnyH_ready (rs := [7]) (by kernel_rfl) (by simp) (AllReadyH.cons (at_of_drop (i := 7) rfl) (fun K hK => ?_) AllReadyH.nil)
            refine stepD (ns := [(d1, d2)]) rfl _ _ rfl rfl hr hrf hB rfl (two_src (c := 1) hd) (by have := HN.out; simp <;> omega) ?_
            intro vr W4 hr hrf hB hk
            clear hk
            refine hK.out _ _ ⟨⟨_, hB⟩, rfl⟩ (fun hC => ?_)
            go_simp
            clear hK K
            refine wpAnyH_ready (rs := [11]) (by kernel_rfl) (by simp) (AllReadyH.cons (at_of_drop (i := 11) rfl) (fun K hK => ?_) AllReadyH.nil)
            refine stepD (ns := []) rfl _ _ rfl rfl hr hrf hB rfl (HS10.out _ hB) (by have := HN.out; simp <;> omega) ?_
            intro vr W5 hr hrf hB hk
            clear hk
            refine hK.out _ _ ⟨⟨_, hB⟩, rfl⟩ (fun hC => ?_)
            go_simp
            clear hK K
            refine takeList (i := 12) rfl (by kernel_rfl) (by kernel_rfl) (by kernel_rfl) (fun _ _ _ _ h => h) rfl rfl hC (fun K hK => ?_)
            go_big_quiet_op
            refine hK _ ?_
            clear hK K
            refine wpAnyH_done (by kernel_rfl) ?_ _
            go_wp2
            go_ret
            refine ⟨⟨_, rfl, ?_, Or.inr fun b hb => ?_⟩, bt HB2.out hB⟩
            · rw [HI.out]
              simpa using hr
            · exact Nat.le_trans HB2.out.size (hrf b hb)
          · rw [if_pos (by rfl)]
            go_simp
            have hal := below_new W1 (.cells #[.int .i64 d1, .int .i64 d2] 31)
            obtain ⟨vd, hvd⟩ : ∃ vd, W1.heap.size = vd := ⟨_, rfl⟩
            have hd := heap_alloc_new W1 (.cells #[.int .i64 d1, .int .i64 d2] 31)
            have hdn : vr.ownBlock ≠ some vd := fun e => by have := row_lt hr e; omega
            replace hr := OwnD.below hr hal
            rw [hvd] at hd ⊢
            replace hB := bt hB hal
            refine hK.out _ _ ⟨⟨_, hB⟩, rfl⟩ (fun hC => ?_)
            generalize World.alloc W1 (.cells #[.int .i64 d1, .int .i64 d2] 31) = W2 at *
            clear hK K hal hvd
            refine wpAnyH_ready (rs := [4]) (by kernel_rfl) (by simp) (AllReadyH.cons (at_of_drop (i := 4) rfl) (fun K hK => ?_) AllReadyH.nil)
            refine stepD (ns := []) rfl _ _ rfl rfl hr hrf hB rfl (HS3.out _ hB) (by have := HN.out; simp <;> omega) ?_
            intro vr W3 hr hrf hB hk
            replace hd := hk _ _ hd hdn
            clear hk
            refine hK.out _ _ ⟨⟨_, hB⟩, rfl⟩ (fun hC => ?_)
            go_simp
            clear hK K
            refine wpAnyH_ready (rs := [7]) (by kernel_rfl) (by simp) (AllReadyH.cons (at_of_drop (i := 7) rfl) (fun K hK => ?_) AllReadyH.nil)
            refine stepD (ns := [(d1, d2)]) rfl _ _ rfl rfl hr hrf hB rfl (two_src (c := 1) hd) (by have := HN.out; simp <;> omega) ?_
            intro vr W4 hr hrf hB hk
            clear hk
            refine hK.out _ _ ⟨⟨_, hB⟩, rfl⟩ (fun hC => ?_)
            go_simp
            clear hK K
            refine wpAnyH_ready (rs := [11]) (by kernel_rfl) (by simp) (AllReadyH.cons (at_of_drop (i := 11) rfl) (fun K hK => ?_) AllReadyH.nil)
            refine stepD (ns := []) rfl _ _ rfl rfl hr hrf hB rfl (HS10.out _ hB) (by have := HN.out; simp <;> omega) ?_
            intro vr W5 hr hrf hB hk
            clear hk
            refine hK.out _ _ ⟨⟨_, hB⟩, rfl⟩ (fun hC => ?_)
            go_simp
            clear hK K
            refine takeList (i := 12) rfl (by kernel_rfl) (by kernel_rfl) (by kernel_rfl) (fun _ _ _ _ h => h) rfl rfl hC (fun K hK => ?_)
            go_big_quiet_op
            refine hK _ ?_
            clear hK K
            refine wpAnyH_done (by kernel_rfl) ?_ _
            go_wp2
            go_ret
            refine ⟨⟨_, rfl, ?_, Or.inr fun b hb => ?_⟩, bt HB2.out hB⟩
            · rw [HI.out]
              simpa using hr
            · exact Nat.le_trans HB2.out.size (hrf b hb)
        · rw [if_pos (by rfl)]
          go_simp
          have hal := below_new W0 (.cells #[.int .i64 d1, .int .i64 d2] 31)
          obtain ⟨vd, hvd⟩ : ∃ vd, W0.heap.size = vd := ⟨_, rfl⟩
          have hd := heap_alloc_new W0 (.cells #[.int .i64 d1, .int .i64 d2] 31)
          rw [hvd] at hd ⊢
          replace hB := bt hB hal
          refine hK.out _ _ ⟨⟨_, hB⟩, rfl⟩ (fun hC => ?_)
          generalize World.alloc W0 (.cells #[.int .i64 d1, .int .i64 d2] 31) = W1 at *
          clear hK K hal hvd
          refine wpAnyH_ready (rs := [0]) (by kernel_rfl) (by simp) (AllReadyH.cons (at_of_drop (i := 0) rfl) (fun K hK => ?_) AllReadyH.nil)
          rw [if_pos (by rfl)]
          go_simp
          have hal := below_new W1 (.cells #[] 31)
          have hr := OwnD.empty W1
          obtain ⟨vr, hvr⟩ : ∃ vr, Value.slice (some ⟨W1.heap.size, 0, none⟩) 0 0 = vr := ⟨_, rfl⟩
          have hrf : ∀ b, vr.ownBlock = some b → wc.heap.size ≤ b := fun b hb => by rw [← hvr] at hb; cases hb; exact hB.size
          have hdn : vr.ownBlock ≠ some vd := fun e => by rw [← hvr] at e; cases e; exact absurd (Array.getElem?_eq_some_iff.1 hd).1 (Nat.lt_irrefl _)
          replace hd := keep_on hal hd
          rw [hvr] at hr ⊢
          replace hB := bt hB hal
          refine hK.out _ _ ⟨⟨_, hB⟩, rfl⟩ (fun hC => ?_)
          generalize World.alloc W1 (.cells #[] 31) = W2 at *
          clear hK K hal hvr
          refine wpAnyH_ready (rs := [4]) (by kernel_rfl) (by simp) (AllReadyH.cons (at_of_drop (i := 4) rfl) (fun K hK => ?_) AllReadyH.nil)
          refine stepD (ns := []) rfl _ _ rfl rfl hr hrf hB rfl (HS3.out _ hB) (by have := HN.out; simp <;> omega) ?_
          intro vr W3 hr hrf hB hk
          replace hd := hk _ _ hd hdn
          clear hk
          refine hK.out _ _ ⟨⟨_, hB⟩, rfl⟩ (fun hC => ?_)
          go_simp
          clear hK K
          refine wpAnyH_ready (rs := [7]) (by kernel_rfl) (by simp) (AllReadyH.cons (at_of_drop (i := 7) rfl) (fun K hK => ?_) AllReadyH.nil)
          refine stepD (ns := [(d1, d2)]) rfl _ _ rfl rfl hr hrf hB rfl (two_src (c := 1) hd) (by have := HN.out; simp <;> omega) ?_
          intro vr W4 hr hrf hB hk
          clear hk
          refine hK.out _ _ ⟨⟨_, hB⟩, rfl⟩ (fun hC => ?_)
          go_simp
          clear hK K
          refine wpAnyH_ready (rs := [11]) (by kernel_rfl) (by simp) (AllReadyH.cons (at_of_drop (i := 11) rfl) (fun K hK => ?_) AllReadyH.nil)
          refine stepD (ns := []) rfl _ _ rfl rfl hr hrf hB rfl (HS10.out _ hB) (by have := HN.out; simp <;> omega) ?_
          intro vr W5 hr hrf hB hk
          clear hk
          refine hK.out _ _ ⟨⟨_, hB⟩, rfl⟩ (fun hC => ?_)
          go_simp
          clear hK K
          refine takeList (i := 12) rfl (by kernel_rfl) (by kernel_rfl) (by kernel_rfl) (fun _ _ _ _ h => h) rfl rfl hC (fun K hK => ?_)
          go_big_quiet_op
          refine hK _ ?_
          clear hK K
          refine wpAnyH_done (by kernel_rfl) ?_ _
          go_wp2
          go_ret
          refine ⟨⟨_, rfl, ?_, Or.inr fun b hb => ?_⟩, bt HB2.out hB⟩
          · rw [HI.out]
            simpa using hr
          · exact Nat.le_trans HB2.out.size (hrf b hb)
      · cases e1
        by_cases hck : c1 = k
        · subst hck
          have hne : Nonempty (NewW wr) := ⟨NewW.start wr⟩
          have b0 : ∀ m : NewW wr, m.v.cell? ⟨w.heap.size, 0, none⟩ = some (.int .i64 d1) := fun m => (box2 (keep_on m.h HQ.out)).1
          have b1 : ∀ m : NewW wr, m.v.cell? ⟨w.heap.size, 1, none⟩ = some (.int .i64 d2) := fun m => (box2 (keep_on m.h HQ.out)).2
          go_wp2_with fail
          refine wp_region_new (by kernel_rfl) (by kernel_rfl) ?_
          repeat (go_big_quiet_step (fail))
          refine wpQuiet_nil ?_
          rintro _ ⟨w2, rfl⟩
          have HB2 : Hid (Below w.heap.size w w2.v) := bt HB.out w2.h
          have HQ2 : Hid (w2.v.heap[w.heap.size]? = some (.cells #[.int .i64 d1, .int .i64 d2] 31)) := keep_on w2.h HQ.out
          obtain ⟨wc, hwc⟩ : ∃ wc, w2.v = wc := ⟨_, rfl⟩
          rw [hwc] at HB2 HQ2 ⊢
          clear hwc b0 b1 hne HQ HB w2
          have hne : Nonempty (NewW wc) := ⟨NewW.start wc⟩
          have b0 : ∀ m : NewW wc, m.v.cell? ⟨w.heap.size, 0, none⟩ = some (.int .i64 d1) := fun m => (box2 (keep_on m.h HQ2.out)).1
          have b1 : ∀ m : NewW wc, m.v.cell? ⟨w.heap.size, 1, none⟩ = some (.int .i64 d2) := fun m => (box2 (keep_on m.h HQ2.out)).2
          go_wp2_with fail
          refine wp_region_new (by kernel_rfl) (by kernel_rfl) ?_
          repeat (go_big_quiet_step (fail))
          refine wpQuiet_nil ?_
          rintro _ ⟨w3, rfl⟩
          go_wp2_with fail
          have HS3 : Hid (∀ W, Below wc.heap.size wc W → SrcAt W 2 (.slice (some ⟨g1, 0, none⟩) c1 c1) l.length (rowD l)) := fun W hW => by rw [show Value.slice (some ⟨g1, 0, none⟩) c1 c1 = .slice (some ⟨g1, 0, none⟩) l.length c1 from by rw [← HN.out]]; exact row_src (H1.out.below (bt HB2.out hW))
          have HS10 : Hid (∀ W, Below wc.heap.size wc W → SrcAt W 2 (.slice (some ⟨g1, 0, none⟩) 0 0) ([] : List C.Dt).length (rowD [])) := fun W _ => src_zero W _ _
          have hC : ∃ m : NewW wc, w3.v.drew = m.v := ⟨⟨w3.v.drew, w3.h.drew⟩, rfl⟩
          refine wp_region_held_drew (S := fun w' => ∃ m : NewW wc, w' = m.v) (by kernel_rfl) hC (fun _ => ?_)
          have hB : Below wc.heap.size wc w3.v.drew := w3.h.drew
          generalize hW0 : w3.v.drew = W0 at *
          clear hW0 w3
          refine takeList (i := 1) rfl (by kernel_rfl) (by kernel_rfl) (by kernel_rfl) (fun _ _ _ _ h => h) rfl rfl hC (fun K hK => ?_)
          go_big_quiet_op
          refine hK _ ?_
          clear hK K
          refine takeList (i := 2) rfl (by kernel_rfl) (by kernel_rfl) (by kernel_rfl) (fun _ _ _ _ h => h) rfl rfl hC (fun K hK => ?_)
          go_big_quiet_op
          refine hK _ ?_
          clear hK K
          refine takeVal (i := 3) (.slice (some ⟨g1, 0, none⟩) c1 c1) rfl (by kernel_rfl) (by kernel_rfl) (by kernel_rfl) (fun _ _ _ _ h => h) rfl hC (fun w' _ => by go_simp; try (intro h; omega)) ?_
          go_simp
          refine takeList (i := 5) rfl (by kernel_rfl) (by kernel_rfl) (by kernel_rfl) (fun _ _ _ _ h => h) rfl rfl hC (fun K hK => ?_)
          go_big_quiet_op
          refine hK _ ?_
          clear hK K
          refine takeList (i := 8) rfl (by kernel_rfl) (by kernel_rfl) (by kernel_rfl) (fun _ _ _ _ h => h) rfl rfl hC (fun K hK => ?_)
          go_big_quiet_op
          refine hK _ ?_
          clear hK K
          refine takeList (i := 9) rfl (by kernel_rfl) (by kernel_rfl) (by kernel_rfl) (fun _ _ _ _ h => h) rfl rfl hC (fun K hK => ?_)
          go_big_quiet_op
          refine hK _ ?_
          clear hK K
          refine takeVal (i := 10) (.slice (some ⟨g1, 0, none⟩) 0 0) rfl (by kernel_rfl) (by kernel_rfl) (by kernel_rfl) (fun _ _ _ _ h => h) rfl hC (fun w' _ => by go_simp; try (intro h; omega)) ?_
          go_simp
          clear b0 b1 hne
          refine wpAnyH_ready (rs := [0, 6]) (by kernel_rfl) (by simp) (AllReadyH.cons (at_of_drop (i := 0) rfl) (fun K hK => ?_) (AllReadyH.cons (at_of_drop (i := 6) rfl) (fun K hK => ?_) AllReadyH.nil))
          · rw [if_pos (by rfl)]
            go_simp
            have hal := below_new W0 (.cells #[] 31)
            have hr := OwnD.empty W0
            obtain ⟨vr, hvr⟩ : ∃ vr, Value.slice (some ⟨W0.heap.size, 0, none⟩) 0 0 = vr := ⟨_, rfl⟩
            have hrf : ∀ b, vr.ownBlock = some b → wc.heap.size ≤ b := fun b hb => by rw [← hvr] at hb; cases hb; exact hB.size
            rw [hvr] at hr ⊢
            replace hB := bt hB hal
            refine hK.out _ _ ⟨⟨_, hB⟩, rfl⟩ (fun hC => ?_)
            generalize World.alloc W0 (.cells #[] 31) = W1 at *
            clear hK K hal hvr
            refine wpAnyH_ready (rs := [4, 6]) (by kernel_rfl) (by simp) (AllReadyH.cons (at_of_drop (i := 4) rfl) (fun K hK => ?_) (AllReadyH.cons (at_of_drop (i := 6) rfl) (fun K hK => ?_) AllReadyH.nil))
            · refine stepD (ns := l) rfl _ _ rfl rfl hr hrf hB rfl (HS3.out _ hB) (by have := HN.out; simp <;> omega) ?_
              intro vr W2 hr hrf hB hk
              clear hk
              refine hK.out _ _ ⟨⟨_, hB⟩, rfl⟩ (fun hC => ?_)
              go_simp
              clear hK K
              refine wpAnyH_ready (rs := [6]) (by kernel_rfl) (by simp) (AllReadyH.cons (at_of_drop (i := 6) rfl) (fun K hK => ?_) AllReadyH.nil)
              rw [if_pos (by rfl)]
              go_simp
              have hal := below_new W2 (.cells #[.int .i64 d1, .int .i64 d2] 31)
              obtain ⟨vd, hvd⟩ : ∃ vd, W2.heap.size = vd := ⟨_, rfl⟩
              have hd := heap_alloc_new W2 (.cells #[.int .i64 d1, .int .i64 d2] 31)
              have hdn : vr.ownBlock ≠ some vd := fun e => by have := row_lt hr e; omega
              replace hr := OwnD.below hr hal
              rw [hvd] at hd ⊢
              replace hB := bt hB hal
              refine hK.out _ _ ⟨⟨_, hB⟩, rfl⟩ (fun hC => ?_)
              generalize World.alloc W2 (.cells #[.int .i64 d1, .int .i64 d2] 31) = W3 at *
              clear hK K hal hvd
              refine wpAnyH_ready (rs := [7]) (by kernel_rfl) (by simp) (AllReadyH.cons (at_of_drop (i := 7) rfl) (fun K hK => ?_) AllReadyH.nil)
              refine stepD (ns := [(d1, d2)]) rfl _ _ rfl rfl hr hrf hB rfl (two_src (c := 1) hd) (by have := HN.out; simp <;> omega) ?_
              intro vr W4 hr hrf hB hk
              clear hk
              refine hK.out _ _ ⟨⟨_, hB⟩, rfl⟩ (fun hC => ?_)
              go_simp
              clear hK K
              refine wpAnyH_ready (rs := [11]) (by kernel_rfl) (by simp) (AllReadyH.cons (at_of_drop (i := 11) rfl) (fun K hK => ?_) AllReadyH.nil)
              refine stepD (ns := []) rfl _ _ rfl rfl hr hrf hB rfl (HS10.out _ hB) (by have := HN.out; simp <;> omega) ?_
              intro vr W5 hr hrf hB hk
              clear hk
              refine hK.out _ _ ⟨⟨_, hB⟩, rfl⟩ (fun hC => ?_)
              go_simp
              clear hK K
              refine takeList (i := 12) rfl (by kernel_rfl) (by kernel_rfl) (by kernel_rfl) (fun _ _ _ _ h => h) rfl rfl hC (fun K hK => ?_)
              go_big_quiet_op
              refine hK _ ?_
              clear hK K
              refine wpAnyH_done (by kernel_rfl) ?_ _
              go_wp2
              go_ret
              refine ⟨⟨_, rfl, ?_, Or.inr fun b hb => ?_⟩, bt HB2.out hB⟩
              · rw [HI.out]
                simpa using hr
              · exact Nat.le_trans HB2.out.size (hrf b hb)
            · rw [if_pos (by rfl)]
              go_simp
              have hal := below_new W1 (.cells #[.int .i64 d1, .int .i64 d2] 31)
              obtain ⟨vd, hvd⟩ : ∃ vd, W1.heap.size = vd := ⟨_, rfl⟩
              have hd := heap_alloc_new W1 (.cells #[.int .i64 d1, .int .i64 d2] 31)
              have hdn : vr.ownBlock ≠ some vd := fun e => by have := row_lt hr e; omega
              replace hr := OwnD.below hr hal
              rw [hvd] at hd ⊢
              replace hB := bt hB hal
              refine hK.out _ _ ⟨⟨_, hB⟩, rfl⟩ (fun hC => ?_)
              generalize World.alloc W1 (.cells #[.int .i64 d1, .int .i64 d2] 31) = W2 at *
              clear hK K hal hvd
              refine wpAnyH_ready (rs := [4]) (by kernel_rfl) (by simp) (AllReadyH.cons (at_of_drop (i := 4) rfl) (fun K hK => ?_) AllReadyH.nil)
              refine stepD (ns := l) rfl _ _ rfl rfl hr hrf hB rfl (HS3.out _ hB) (by have := HN.out; simp <;> omega) ?_
              intro vr W3 hr hrf hB hk
              replace hd := hk _ _ hd hdn
              clear hk
              refine hK.out _ _ ⟨⟨_, hB⟩, rfl⟩ (fun hC => ?_)
              go_simp
              clear hK K
              refine wpAnyH_ready (rs := [7]) (by kernel_rfl) (by simp) (AllReadyH.cons (at_of_drop (i := 7) rfl) (fun K hK => ?_) AllReadyH.nil)
              refine stepD (ns := [(d1, d2)]) rfl _ _ rfl rfl hr hrf hB rfl (two_src (c := 1) hd) (by have := HN.out; simp <;> omega) ?_
              intro vr W4 hr hrf hB hk
              clear hk
              refine hK.out _ _ ⟨⟨_, hB⟩, rfl⟩ (fun hC => ?_)
              go_simp
              clear hK K
              refine wpAnyH_ready (rs := [11]) (by kernel_rfl) (by simp) (AllReadyH.cons (at_of_drop (i := 11) rfl) (fun K hK => ?_) AllReadyH.nil)
              refine stepD (ns := []) rfl _ _ rfl rfl hr hrf hB rfl (HS10.out _ hB) (by have := HN.out; simp <;> omega) ?_
              intro vr W5 hr hrf hB hk
              clear hk
              refine hK.out _ _ ⟨⟨_, hB⟩, rfl⟩ (fun hC => ?_)
              go_simp
              clear hK K
              refine takeList (i := 12) rfl (by kernel_rfl) (by kernel_rfl) (by kernel_rfl) (fun _ _ _ _ h => h) rfl rfl hC (fun K hK => ?_)
              go_big_quiet_op
              refine hK _ ?_
              clear hK K
              refine wpAnyH_done (by kernel_rfl) ?_ _
              go_wp2
              go_ret
              refine ⟨⟨_, rfl, ?_, Or.inr fun b hb => ?_⟩, bt HB2.out hB⟩
              · rw [HI.out]
                simpa using hr
              · exact Nat.le_trans HB2.out.size (hrf b hb)
          · rw [if_pos (by rfl)]
            go_simp
            have hal := below_new W0 (.cells #[.int .i64 d1, .int .i64 d2] 31)
            obtain ⟨vd, hvd⟩ : ∃ vd, W0.heap.size = vd := ⟨_, rfl⟩
            have hd := heap_alloc_new W0 (.cells #[.int .i64 d1, .int .i64 d2] 31)
            rw [hvd] at hd ⊢
            replace hB := bt hB hal
            refine hK.out _ _ ⟨⟨_, hB⟩, rfl⟩ (fun hC => ?_)
            generalize World.alloc W0 (.cells #[.int .i64 d1, .int .i64 d2] 31) = W1 at *
            clear hK K hal hvd
            refine wpAnyH_ready (rs := [0]) (by kernel_rfl) (by simp) (AllReadyH.cons (at_of_drop (i := 0) rfl) (fun K hK => ?_) AllReadyH.nil)
            rw [if_pos (by rfl)]
            go_simp
            have hal := below_new W1 (.cells #[] 31)
            have hr := OwnD.empty W1
            obtain ⟨vr, hvr⟩ : ∃ vr, Value.slice (some ⟨W1.heap.size, 0, none⟩) 0 0 = vr := ⟨_, rfl⟩
            have hrf : ∀ b, vr.ownBlock = some b → wc.heap.size ≤ b := fun b hb => by rw [← hvr] at hb; cases hb; exact hB.size
            have hdn : vr.ownBlock ≠ some vd := fun e => by rw [← hvr] at e; cases e; exact absurd (Array.getElem?_eq_some_iff.1 hd).1 (Nat.lt_irrefl _)
            replace hd := keep_on hal hd
            rw [hvr] at hr ⊢
            replace hB := bt hB hal
            refine hK.out _ _ ⟨⟨_, hB⟩, rfl⟩ (fun hC => ?_)
            generalize World.alloc W1 (.cells #[] 31) = W2 at *
            clear hK K hal hvr
            refine wpAnyH_ready (rs := [4]) (by kernel_rfl) (by simp) (AllReadyH.cons (at_of_drop (i := 4) rfl) (fun K hK => ?_) AllReadyH.nil)
            refine stepD (ns := l) rfl _ _ rfl rfl hr hrf hB rfl (HS3.out _ hB) (by have := HN.out; simp <;> omega) ?_
            intro vr W3 hr hrf hB hk
            replace hd := hk _ _ hd hdn
            clear hk
            refine hK.out _ _ ⟨⟨_, hB⟩, rfl⟩ (fun hC => ?_)
            go_simp
            clear hK K
            refine wpAnyH_ready (rs := [7]) (by kernel_rfl) (by simp) (AllReadyH.cons (at_of_drop (i := 7) rfl) (fun K hK => ?_) AllReadyH.nil)
            refine stepD (ns := [(d1, d2)]) rfl _ _ rfl rfl hr hrf hB rfl (two_src (c := 1) hd) (by have := HN.out; simp <;> omega) ?_
            intro vr W4 hr hrf hB hk
            clear hk
            refine hK.out _ _ ⟨⟨_, hB⟩, rfl⟩ (fun hC => ?_)
            go_simp
            clear hK K
            refine wpAnyH_ready (rs := [11]) (by kernel_rfl) (by simp) (AllReadyH.cons (at_of_drop (i := 11) rfl) (fun K hK => ?_) AllReadyH.nil)
            refine stepD (ns := []) rfl _ _ rfl rfl hr hrf hB rfl (HS10.out _ hB) (by have := HN.out; simp <;> omega) ?_
            intro vr W5 hr hrf hB hk
            clear hk
            refine hK.out _ _ ⟨⟨_, hB⟩, rfl⟩ (fun hC => ?_)
            go_simp
            clear hK K
            refine takeList (i := 12) rfl (by kernel_rfl) (by kernel_rfl) (by kernel_rfl) (fun _ _ _ _ h => h) rfl rfl hC (fun K hK => ?_)
            go_big_quiet_op
            refine hK _ ?_
            clear hK K
            refine wpAnyH_done (by kernel_rfl) ?_ _
            go_wp2
            go_ret
            refine ⟨⟨_, rfl, ?_, Or.inr fun b hb => ?_⟩, bt HB2.out hB⟩
            · rw [HI.out]
              simpa using hr
            · exact Nat.le_trans HB2.out.size (hrf b hb)
        · skip
          have hne : Nonempty (NewW wr) := ⟨NewW.start wr⟩
          have b0 : ∀ m : NewW wr, m.v.cell? ⟨w.heap.size, 0, none⟩ = some (.int .i64 d1) := fun m => (box2 (keep_on m.h HQ.out)).1
          have b1 : ∀ m : NewW wr, m.v.cell? ⟨w.heap.size, 1, none⟩ = some (.int .i64 d2) := fun m => (box2 (keep_on m.h HQ.out)).2
          go_wp2_with fail
          refine wp_region_new (by kernel_rfl) (by kernel_rfl) ?_
          repeat (go_big_quiet_step (fail))
          refine wpQuiet_nil ?_
          rintro _ ⟨w2, rfl⟩
          have HB2 : Hid (Below w.heap.size w w2.v) := bt HB.out w2.h
          have HQ2 : Hid (w2.v.heap[w.heap.size]? = some (.cells #[.int .i64 d1, .int .i64 d2] 31)) := keep_on w2.h HQ.out
          obtain ⟨wc, hwc⟩ : ∃ wc, w2.v = wc := ⟨_, rfl⟩
          rw [hwc] at HB2 HQ2 ⊢
          clear hwc b0 b1 hne HQ HB w2
          have hne : Nonempty (NewW wc) := ⟨NewW.start wc⟩
          have b0 : ∀ m : NewW wc, m.v.cell? ⟨w.heap.size, 0, none⟩ = some (.int .i64 d1) := fun m => (box2 (keep_on m.h HQ2.out)).1
          have b1 : ∀ m : NewW wc, m.v.cell? ⟨w.heap.size, 1, none⟩ = some (.int .i64 d2) := fun m => (box2 (keep_on m.h HQ2.out)).2
          go_wp2_with fail
          refine wp_region_new (by kernel_rfl) (by kernel_rfl) ?_
          repeat (go_big_quiet_step (fail))
          refine wpQuiet_nil ?_
          rintro _ ⟨w3, rfl⟩
          go_wp2_with fail
          have HS3 : Hid (∀ W, Below wc.heap.size wc W → SrcAt W 2 (.slice (some ⟨g1, 0, none⟩) k c1) l.length (rowD l)) := fun W hW => by rw [HN.out]; exact row_src (H1.out.below (bt HB2.out hW))
          have HS10 : Hid (∀ W, Below wc.heap.size wc W → SrcAt W 2 (.slice (some ⟨g1, k * 2, none⟩) 0 (c1 - k)) ([] : List C.Dt).length (rowD [])) := fun W _ => src_zero W _ _
          have hC : ∃ m : NewW wc, w3.v.drew = m.v := ⟨⟨w3.v.drew, w3.h.drew⟩, rfl⟩
          refine wp_region_held_drew (S := fun w' => ∃ m : NewW wc, w' = m.v) (by kernel_rfl) hC (fun _ => ?_)
          have hB : Below wc.heap.size wc w3.v.drew := w3.h.drew
          generalize hW0 : w3.v.drew = W0 at *
          clear hW0 w3
          refine takeList (i := 1) rfl (by kernel_rfl) (by kernel_rfl) (by kernel_rfl) (fun _ _ _ _ h => h) rfl rfl hC (fun K hK => ?_)
          go_big_quiet_op
          refine hK _ ?_
          clear hK K
          refine takeList (i := 2) rfl (by kernel_rfl) (by kernel_rfl) (by kernel_rfl) (fun _ _ _ _ h => h) rfl rfl hC (fun K hK => ?_)
          go_big_quiet_op
          refine hK _ ?_
          clear hK K
          refine takeVal (i := 3) (.slice (some ⟨g1, 0, none⟩) k c1) rfl (by kernel_rfl) (by kernel_rfl) (by kernel_rfl) (fun _ _ _ _ h => h) rfl hC (fun w' _ => by go_simp; try (intro h; omega)) ?_
          go_simp
          refine takeList (i := 5) rfl (by kernel_rfl) (by kernel_rfl) (by kernel_rfl) (fun _ _ _ _ h => h) rfl rfl hC (fun K hK => ?_)
          go_big_quiet_op
          refine hK _ ?_
          clear hK K
          refine takeList (i := 8) rfl (by kernel_rfl) (by kernel_rfl) (by kernel_rfl) (fun _ _ _ _ h => h) rfl rfl hC (fun K hK => ?_)
          go_big_quiet_op
          refine hK _ ?_
          clear hK K
          refine takeList (i := 9) rfl (by kernel_rfl) (by kernel_rfl) (by kernel_rfl) (fun _ _ _ _ h => h) rfl rfl hC (fun K hK => ?_)
          go_big_quiet_op
          refine hK _ ?_
          clear hK K
          refine takeVal (i := 10) (.slice (some ⟨g1, k * 2, none⟩) 0 (c1 - k)) rfl (by kernel_rfl) (by kernel_rfl) (by kernel_rfl) (fun _ _ _ _ h => h) rfl hC (fun w' _ => by go_simp; try (intro h; omega)) ?_
          go_simp
          clear b0 b1 hne
          refine wpAnyH_ready (rs := [0, 6]) (by kernel_rfl) (by simp) (AllReadyH.cons (at_of_drop (i := 0) rfl) (fun K hK => ?_) (AllReadyH.cons (at_of_drop (i := 6) rfl) (fun K hK => ?_) AllReadyH.nil))
          · rw [if_pos (by rfl)]
            go_simp
            have hal := below_new W0 (.cells #[] 31)
            have hr := OwnD.empty W0
            obtain ⟨vr, hvr⟩ : ∃ vr, Value.slice (some ⟨W0.heap.size, 0, none⟩) 0 0 = vr := ⟨_, rfl⟩
            have hrf : ∀ b, vr.ownBlock = some b → wc.heap.size ≤ b := fun b hb => by rw [← hvr] at hb; cases hb; exact hB.size
            rw [hvr] at hr ⊢
            replace hB := bt hB hal
            refine hK.out _ _ ⟨⟨_, hB⟩, rfl⟩ (fun hC => ?_)
            generalize World.alloc W0 (.cells #[] 31) = W1 at *
            clear hK K hal hvr
            refine wpAnyH_ready (rs := [4, 6]) (by kernel_rfl) (by simp) (AllReadyH.cons (at_of_drop (i := 4) rfl) (fun K hK => ?_) (AllReadyH.cons (at_of_drop (i := 6) rfl) (fun K hK => ?_) AllReadyH.nil))
            · refine stepD (ns := l) rfl _ _ rfl rfl hr hrf hB rfl (HS3.out _ hB) (by have := HN.out; simp <;> omega) ?_
              intro vr W2 hr hrf hB hk
              clear hk
              refine hK.out _ _ ⟨⟨_, hB⟩, rfl⟩ (fun hC => ?_)
              go_simp
              clear hK K
              refine wpAnyH_ready (rs := [6]) (by kernel_rfl) (by simp) (AllReadyH.cons (at_of_drop (i := 6) rfl) (fun K hK => ?_) AllReadyH.nil)
              rw [if_pos (by rfl)]
              go_simp
              have hal := below_new W2 (.cells #[.int .i64 d1, .int .i64 d2] 31)
              obtain ⟨vd, hvd⟩ : ∃ vd, W2.heap.size = vd := ⟨_, rfl⟩
              have hd := heap_alloc_new W2 (.cells #[.int .i64 d1, .int .i64 d2] 31)
              have hdn : vr.ownBlock ≠ some vd := fun e => by have := row_lt hr e; omega
              replace hr := OwnD.below hr hal
              rw [hvd] at hd ⊢
              replace hB := bt hB hal
              refine hK.out _ _ ⟨⟨_, hB⟩, rfl⟩ (fun hC => ?_)
              generalize World.alloc W2 (.cells #[.int .i64 d1, .int .i64 d2] 31) = W3 at *
              clear hK K hal hvd
              refine wpAnyH_ready (rs := [7]) (by kernel_rfl) (by simp) (AllReadyH.cons (at_of_drop (i := 7) rfl) (fun K hK => ?_) AllReadyH.nil)
              refine stepD (ns := [(d1, d2)]) rfl _ _ rfl rfl hr hrf hB rfl (two_src (c := 1) hd) (by have := HN.out; simp <;> omega) ?_
              intro vr W4 hr hrf hB hk
              clear hk
              refine hK.out _ _ ⟨⟨_, hB⟩, rfl⟩ (fun hC => ?_)
              go_simp
              clear hK K
              refine wpAnyH_ready (rs := [11]) (by kernel_rfl) (by simp) (AllReadyH.cons (at_of_drop (i := 11) rfl) (fun K hK => ?_) AllReadyH.nil)
              refine stepD (ns := []) rfl _ _ rfl rfl hr hrf hB rfl (HS10.out _ hB) (by have := HN.out; simp <;> omega) ?_
              intro vr W5 hr hrf hB hk
              clear hk
              refine hK.out _ _ ⟨⟨_, hB⟩, rfl⟩ (fun hC => ?_)
              go_simp
              clear hK K
              refine takeList (i := 12) rfl (by kernel_rfl) (by kernel_rfl) (by kernel_rfl) (fun _ _ _ _ h => h) rfl rfl hC (fun K hK => ?_)
              go_big_quiet_op
              refine hK _ ?_
              clear hK K
              refine wpAnyH_done (by kernel_rfl) ?_ _
              go_wp2
              go_ret
              refine ⟨⟨_, rfl, ?_, Or.inr fun b hb => ?_⟩, bt HB2.out hB⟩
              · rw [HI.out]
                simpa using hr
              · exact Nat.le_trans HB2.out.size (hrf b hb)
            · rw [if_pos (by rfl)]
              go_simp
              have hal := below_new W1 (.cells #[.int .i64 d1, .int .i64 d2] 31)
              obtain ⟨vd, hvd⟩ : ∃ vd, W1.heap.size = vd := ⟨_, rfl⟩
              have hd := heap_alloc_new W1 (.cells #[.int .i64 d1, .int .i64 d2] 31)
              have hdn : vr.ownBlock ≠ some vd := fun e => by have := row_lt hr e; omega
              replace hr := OwnD.below hr hal
              rw [hvd] at hd ⊢
              replace hB := bt hB hal
              refine hK.out _ _ ⟨⟨_, hB⟩, rfl⟩ (fun hC => ?_)
              generalize World.alloc W1 (.cells #[.int .i64 d1, .int .i64 d2] 31) = W2 at *
              clear hK K hal hvd
              refine wpAnyH_ready (rs := [4]) (by kernel_rfl) (by simp) (AllReadyH.cons (at_of_drop (i := 4) rfl) (fun K hK => ?_) AllReadyH.nil)
              refine stepD (ns := l) rfl _ _ rfl rfl hr hrf hB rfl (HS3.out _ hB) (by have := HN.out; simp <;> omega) ?_
              intro vr W3 hr hrf hB hk
              replace hd := hk _ _ hd hdn
              clear hk
              refine hK.out _ _ ⟨⟨_, hB⟩, rfl⟩ (fun hC => ?_)
              go_simp
              clear hK K
              refine wpAnyH_ready (rs := [7]) (by kernel_rfl) (by simp) (AllReadyH.cons (at_of_drop (i := 7) rfl) (fun K hK => ?_) AllReadyH.nil)
              refine stepD (ns := [(d1, d2)]) rfl _ _ rfl rfl hr hrf hB rfl (two_src (c := 1) hd) (by have := HN.out; simp <;> omega) ?_
              intro vr W4 hr hrf hB hk
              clear hk
              refine hK.out _ _ ⟨⟨_, hB⟩, rfl⟩ (fun hC => ?_)
              go_simp
              clear hK K
              refine wpAnyH_ready (rs := [11]) (by kernel_rfl) (by simp) (AllReadyH.cons (at_of_drop (i := 11) rfl) (fun K hK => ?_) AllReadyH.nil)
              refine stepD (ns := []) rfl _ _ rfl rfl hr hrf hB rfl (HS10.out _ hB) (by have := HN.out; simp <;> omega) ?_
              intro vr W5 hr hrf hB hk
              clear hk
              refine hK.out _ _ ⟨⟨_, hB⟩, rfl⟩ (fun hC => ?_)
              go_simp
              clear hK K
              refine takeList (i := 12) rfl (by kernel_rfl) (by kernel_rfl) (by kernel_rfl) (fun _ _ _ _ h => h) rfl rfl hC (fun K hK => ?_)
              go_big_quiet_op
              refine hK _ ?_
              clear hK K
              refine wpAnyH_done (by kernel_rfl) ?_ _
              go_wp2
              go_ret
              refine ⟨⟨_, rfl, ?_, Or.inr fun b hb => ?_⟩, bt HB2.out hB⟩
              · rw [HI.out]
                simpa using hr
              · exact Nat.le_trans HB2.out.size (hrf b hb)
          · rw [if_pos (by rfl)]
            go_simp
            have hal := below_new W0 (.cells #[.int .i64 d1, .int .i64 d2] 31)
            obtain ⟨vd, hvd⟩ : ∃ vd, W0.heap.size = vd := ⟨_, rfl⟩
            have hd := heap_alloc_new W0 (.cells #[.int .i64 d1, .int .i64 d2] 31)
            rw [hvd] at hd ⊢
            replace hB := bt hB hal
            refine hK.out _ _ ⟨⟨_, hB⟩, rfl⟩ (fun hC => ?_)
            generalize World.alloc W0 (.cells #[.int .i64 d1, .int .i64 d2] 31) = W1 at *
            clear hK K hal hvd
            refine wpAnyH_ready (rs := [0]) (by kernel_rfl) (by simp) (AllReadyH.cons (at_of_drop (i := 0) rfl) (fun K hK => ?_) AllReadyH.nil)
            rw [if_pos (by rfl)]
            go_simp
            have hal := below_new W1 (.cells #[] 31)
            have hr := OwnD.empty W1
            obtain ⟨vr, hvr⟩ : ∃ vr, Value.slice (some ⟨W1.heap.size, 0, none⟩) 0 0 = vr := ⟨_, rfl⟩
            have hrf : ∀ b, vr.ownBlock = some b → wc.heap.size ≤ b := fun b hb => by rw [← hvr] at hb; cases hb; exact hB.size
            have hdn : vr.ownBlock ≠ some vd := fun e => by rw [← hvr] at e; cases e; exact absurd (Array.getElem?_eq_some_iff.1 hd).1 (Nat.lt_irrefl _)
            replace hd := keep_on hal hd
            rw [hvr] at hr ⊢
            replace hB := bt hB hal
            refine hK.out _ _ ⟨⟨_, hB⟩, rfl⟩ (fun hC => ?_)
            generalize World.alloc W1 (.cells #[] 31) = W2 at *
            clear hK K hal hvr
            refine wpAnyH_ready (rs := [4]) (by kernel_rfl) (by simp) (AllReadyH.cons (at_of_drop (i := 4) rfl) (fun K hK => ?_) AllReadyH.nil)
            refine stepD (ns := l) rfl _ _ rfl rfl hr hrf hB rfl (HS3.out _ hB) (by have := HN.out; simp <;> omega) ?_
            intro vr W3 hr hrf hB hk
            replace hd := hk _ _ hd hdn
            clear hk
            refine hK.out _ _ ⟨⟨_, hB⟩, rfl⟩ (fun hC => ?_)
            go_simp
            clear hK K
            refine wpAnyH_ready (rs := [7]) (by kernel_rfl) (by simp) (AllReadyH.cons (at_of_drop (i := 7) rfl) (fun K hK => ?_) AllReadyH.nil)
            refine stepD (ns := [(d1, d2)]) rfl _ _ rfl rfl hr hrf hB rfl (two_src (c := 1) hd) (by have := HN.out; simp <;> omega) ?_
            intro vr W4 hr hrf hB hk
            clear hk
            refine hK.out _ _ ⟨⟨_, hB⟩, rfl⟩ (fun hC => ?_)
            go_simp
            clear hK K
            refine wpAnyH_ready (rs := [11]) (by kernel_rfl) (by simp) (AllReadyH.cons (at_of_drop (i := 11) rfl) (fun K hK => ?_) AllReadyH.nil)
            refine stepD (ns := []) rfl _ _ rfl rfl hr hrf hB rfl (HS10.out _ hB) (by have := HN.out; simp <;> omega) ?_
            intro vr W5 hr hrf hB hk
            clear hk
            refine hK.out _ _ ⟨⟨_, hB⟩, rfl⟩ (fun hC => ?_)
            go_simp
            clear hK K
            refine takeList (i := 12) rfl (by kernel_rfl) (by kernel_rfl) (by kernel_rfl) (fun _ _ _ _ h => h) rfl rfl hC (fun K hK => ?_)
            go_big_quiet_op
            refine hK _ ?_
            clear hK K
            refine wpAnyH_done (by kernel_rfl) ?_ _
            go_wp2
            go_ret
            refine ⟨⟨_, rfl, ?_, Or.inr fun b hb => ?_⟩, bt HB2.out hB⟩
            · rw [HI.out]
              simpa using hr
            · exact Nat.le_trans HB2.out.size (hrf b hb)
end Go.Proofs.Ytoglhhoniojbaaa

namespace Go.Proofs.Ytoglhhoniojbaaa
open Go.RowKit Go.Lib
set_option linter.unusedVariables false

structure NewT (w : World) (g : Nat) where
  v : World
  h : Turn w v (fun b => b = g)
def NewT.start (w : World) (g : Nat) : NewT w g := ⟨w, Turn.of_below (Below.refl _ _)⟩
theorem NewT.of {w w' : World} (g : Nat) (h : Below w.heap.size w w') : ∃ m : NewT w g, w' = m.v := ⟨⟨w', Turn.of_below h⟩, rfl⟩
theorem NewT.set {w w' : World} (g o : Nat) (h : Below w.heap.size w w') (v : Value) : ∃ m : NewT w g, w'.setCell ⟨g, o, none⟩ v = m.v := ⟨⟨_, Turn.setCell (S := fun b => b = g) (Turn.of_below h) rfl _⟩, rfl⟩
theorem NewT.block {w : World} {g : Nat} (m : NewT w g) {b : Nat} {o : Obj} (hb : w.heap[b]? = some o) (hne : b ≠ g) : m.v.heap[b]? = some o :=
  (m.h.block b (Array.getElem?_eq_some_iff.1 hb).1 hne).trans hb
end Go.Proofs.Ytoglhhoniojbaaa
