/-
  A disk, write by write: what each file has, what is safe, what is not; a fall.
-/
namespace Go.Proofs.Ytlfcpgncgldieaa.C

/-- A write: its number among all, its file, its bytes, whether it is safe. -/
structure Wr where
  num : Nat
  file : Nat
  bytes : List UInt8
  safe : Bool
def dat : List Wr → Nat → List UInt8
  | [], _ => []
  | x :: r, k => (if x.file = k then x.bytes else []) ++ dat r k
def saf : List Wr → Nat → Nat
  | [], _ => 0
  | x :: r, k => (if x.file = k ∧ x.safe = true then x.bytes.length else 0) + saf r k
def used : List Wr → Nat
  | [] => 0
  | x :: r => x.bytes.length + used r
def pend (ws : List Wr) : List Wr := ws.filter fun x => !x.safe
def pof (ws : List Wr) (k : Nat) : List Wr := ws.filter fun x => !x.safe && x.file == k

theorem dat_append (a b : List Wr) (k : Nat) : dat (a ++ b) k = dat a k ++ dat b k := by
  induction a with
  | nil => rfl
  | cons x r ih => simp only [List.cons_append, dat, ih, List.append_assoc]
theorem saf_append (a b : List Wr) (k : Nat) : saf (a ++ b) k = saf a k + saf b k := by
  induction a with
  | nil => simp [saf]
  | cons x r ih => simp only [List.cons_append, saf, ih]; omega
theorem used_append (a b : List Wr) : used (a ++ b) = used a + used b := by
  induction a with
  | nil => simp [used]
  | cons x r ih => simp only [List.cons_append, used, ih]; omega
theorem pof_append (a b : List Wr) (k : Nat) : pof (a ++ b) k = pof a k ++ pof b k := by simp [pof]
theorem saf_le (ws : List Wr) (k : Nat) : saf ws k ≤ (dat ws k).length := by
  induction ws with
  | nil => simp [saf]
  | cons x r ih =>
    simp only [saf, dat, List.length_append]
    by_cases h : x.file = k
    · by_cases hs : x.safe = true
      · simp [h, hs]; omega
      · simp [h, hs]; omega
    · simp [h]; omega
theorem dat_le (ws : List Wr) (k : Nat) : (dat ws k).length ≤ used ws := by
  induction ws with
  | nil => simp [dat]
  | cons x r ih => simp only [dat, used, List.length_append]; split <;> simp <;> omega
theorem bytes_le {ws : List Wr} {x : Wr} (h : x ∈ ws) : x.bytes.length ≤ used ws := by
  induction ws with
  | nil => cases h
  | cons y r ih =>
    rcases List.mem_cons.1 h with rfl | h
    · simp only [used]; omega
    · have := ih h; simp only [used]; omega
theorem pof_mem {ws : List Wr} {k : Nat} {x : Wr} (h : x ∈ pof ws k) : x ∈ ws ∧ x.safe = false ∧ x.file = k := by
  simp only [pof, List.mem_filter, Bool.and_eq_true, beq_iff_eq, Bool.not_eq_true'] at h
  exact ⟨h.1, h.2.1, h.2.2⟩
theorem pend_mem {ws : List Wr} {x : Wr} (h : x ∈ pend ws) : x ∈ ws ∧ x.safe = false := by
  simpa [pend] using h

/-! ### sums and rows over the files from 0 to 999 -/
def sumOn (p : Nat → Bool) (f : Nat → Nat) (n : Nat) : Nat := ((List.range n).map fun k => if p k then f k else 0).sum
theorem sumOn_succ (p : Nat → Bool) (f : Nat → Nat) (n : Nat) : sumOn p f (n + 1) = sumOn p f n + if p n then f n else 0 := by
  simp [sumOn, List.range_succ]
theorem sumOn_congr {p q : Nat → Bool} {f g : Nat → Nat} : ∀ {n : Nat}, (∀ k, k < n → (if p k then f k else 0) = if q k then g k else 0) → sumOn p f n = sumOn q g n
  | 0, _ => rfl
  | n + 1, h => by rw [sumOn_succ, sumOn_succ, sumOn_congr (fun k hk => h k (by omega)), h n (by omega)]
theorem sumOn_add (p : Nat → Bool) (f g : Nat → Nat) : ∀ n, sumOn p (fun k => f k + g k) n = sumOn p f n + sumOn p g n
  | 0 => rfl
  | n + 1 => by rw [sumOn_succ, sumOn_succ, sumOn_succ, sumOn_add p f g n]; split <;> omega
theorem sumOn_none (p : Nat → Bool) (f : Nat → Nat) : ∀ n, (∀ k, k < n → p k = true → f k = 0) → sumOn p f n = 0
  | 0, _ => rfl
  | n + 1, h => by
    rw [sumOn_succ, sumOn_none p f n (fun k hk => h k (by omega))]
    split
    · rw [h n (by omega) (by assumption)]
    · rfl
theorem sumOn_out {p : Nat → Bool} {f : Nat → Nat} {j : Nat} : ∀ {n : Nat}, j < n → p j = true → sumOn p f n = f j + sumOn (fun k => p k && !(k == j)) f n
  | 0, h, _ => by omega
  | n + 1, h, hp => by
    rw [sumOn_succ, sumOn_succ]
    by_cases e : j = n
    · subst e
      have : sumOn p f j = sumOn (fun k => p k && !(k == j)) f j := sumOn_congr fun k hk => by
        have : (k == j) = false := by simp; omega
        simp [this]
      rw [this, if_pos hp]
      simp; omega
    · rw [sumOn_out (n := n) (by omega) hp]
      have : (n == j) = false := by simp; omega
      simp only [this, Bool.not_false, Bool.and_true]
      omega
/-- All bytes, file by file. -/
theorem used_sum (is : Nat → Bool) (n : Nat) : ∀ (ws : List Wr), (∀ x ∈ ws, x.file < n ∧ is x.file = true) → used ws = sumOn is (fun k => (dat ws k).length) n
  | [], _ => by rw [sumOn_none]; rfl; intros; rfl
  | x :: r, h => by
    have h0 := h x (by simp)
    rw [used, used_sum is n r (fun y hy => h y (by simp [hy]))]
    have e : sumOn is (fun k => (dat (x :: r) k).length) n = sumOn is (fun k => if x.file = k then x.bytes.length else 0) n + sumOn is (fun k => (dat r k).length) n := by
      rw [← sumOn_add]
      refine sumOn_congr fun k _ => ?_
      simp only [dat, List.length_append]
      by_cases hk : x.file = k <;> simp [hk]
    have z := sumOn_none (fun k => is k && !(k == x.file)) (fun k => if x.file = k then x.bytes.length else 0) n (fun k _ hk => by
      simp only [Bool.and_eq_true, Bool.not_eq_true', beq_eq_false_iff_ne] at hk
      exact if_neg (fun e => hk.2 e.symm))
    rw [e, sumOn_out (f := fun k => if x.file = k then x.bytes.length else 0) h0.1 h0.2, z]
    simp

def rowOn (p : Nat → Bool) (f : Nat → List Wr) (n : Nat) : List Wr := (List.range n).flatMap fun k => if p k then f k else []
theorem rowOn_succ (p : Nat → Bool) (f : Nat → List Wr) (n : Nat) : rowOn p f (n + 1) = rowOn p f n ++ if p n then f n else [] := by
  simp [rowOn, List.range_succ]
theorem rowOn_congr {p q : Nat → Bool} {f g : Nat → List Wr} : ∀ {n : Nat}, (∀ k, k < n → (if p k then f k else []) = if q k then g k else []) → rowOn p f n = rowOn q g n
  | 0, _ => rfl
  | n + 1, h => by rw [rowOn_succ, rowOn_succ, rowOn_congr (fun k hk => h k (by omega)), h n (by omega)]
theorem rowOn_out {p : Nat → Bool} {f : Nat → List Wr} {j : Nat} : ∀ {n : Nat}, j < n → p j = true → (rowOn p f n).Perm (f j ++ rowOn (fun k => p k && !(k == j)) f n)
  | 0, h, _ => by omega
  | n + 1, h, hp => by
    rw [rowOn_succ, rowOn_succ]
    by_cases e : j = n
    · subst e
      have : rowOn p f j = rowOn (fun k => p k && !(k == j)) f j := rowOn_congr fun k hk => by
        have : (k == j) = false := by simp; omega
        simp [this]
      rw [this, if_pos hp]
      simpa using List.perm_append_comm
    · have h1 := rowOn_out (f := f) (n := n) (by omega) hp
      have : (n == j) = false := by simp; omega
      simp only [this, Bool.not_false, Bool.and_true]
      rw [← List.append_assoc]
      exact h1.append_right _
theorem rowOn_none {p : Nat → Bool} {f : Nat → List Wr} : ∀ {n : Nat}, (∀ k, k < n → p k = false) → rowOn p f n = []
  | 0, _ => rfl
  | n + 1, h => by rw [rowOn_succ, rowOn_none (fun k hk => h k (by omega)), h n (by omega)]; rfl
theorem rowOn_cons {p : Nat → Bool} {f : Nat → List Wr} {j : Nat} {x : Wr} : ∀ {n : Nat}, j < n → p j = true → (rowOn p (fun k => (if k = j then [x] else []) ++ f k) n).Perm (x :: rowOn p f n)
  | 0, h, _ => by omega
  | n + 1, h, hp => by
    rw [rowOn_succ, rowOn_succ]
    by_cases e : j = n
    · subst e
      have : rowOn p (fun k => (if k = j then [x] else []) ++ f k) j = rowOn p f j := rowOn_congr fun k hk => by
        simp [show ¬ k = j by omega]
      rw [this, if_pos hp, if_pos hp]
      simp only [if_true, List.singleton_append]
      exact List.perm_middle
    · have h1 := rowOn_cons (f := f) (x := x) (n := n) (by omega) hp
      rw [show (if p n = true then (if n = j then [x] else []) ++ f n else []) = if p n = true then f n else [] by simp [show ¬ n = j by omega]]
      exact h1.append_right _
/-- All that is not safe, file by file. -/
theorem pend_rows (is : Nat → Bool) (n : Nat) : ∀ (ws : List Wr), (∀ x ∈ ws, x.file < n ∧ is x.file = true) → (rowOn is (pof ws) n).Perm (pend ws)
  | [], _ => by
    have : rowOn is (pof []) n = [] := by
      have : rowOn is (pof []) n = rowOn (fun _ => false) (pof []) n := rowOn_congr fun k _ => by simp [pof]
      rw [this, rowOn_none (fun _ _ => rfl)]
    rw [this]; exact List.Perm.refl _
  | x :: r, h => by
    have h0 := h x (by simp)
    have ih := pend_rows is n r (fun y hy => h y (by simp [hy]))
    by_cases hs : x.safe = true
    · have e : rowOn is (pof (x :: r)) n = rowOn is (pof r) n := rowOn_congr fun k _ => by simp [pof, hs]
      rw [e]
      simpa [pend, hs] using ih
    · have e : rowOn is (pof (x :: r)) n = rowOn is (fun k => (if k = x.file then [x] else []) ++ pof r k) n := rowOn_congr fun k _ => by
        by_cases hk : x.file = k
        · simp [pof, hs, hk]
        · simp [pof, hs, hk, show ¬ k = x.file from fun e => hk e.symm]
      rw [e]
      refine (rowOn_cons h0.1 h0.2).trans ?_
      have : pend (x :: r) = x :: pend r := by simp [pend, hs]
      rw [this]
      exact ih.cons x

/-! ### a fall -/
def stay (keep torn : Int) (n : Nat) (size : Nat) : Nat := if (n : Int) < keep then size else if (n : Int) = keep then min torn.toNat size else 0
def cutW (keep torn : Int) (n : Nat) (l : List UInt8) : List UInt8 := l.take (stay keep torn n l.length)
theorem stay_le (keep torn : Int) (n size : Nat) : stay keep torn n size ≤ size := by unfold stay; split; exact Nat.le_refl _; split; exact Nat.min_le_right _ _; exact Nat.zero_le _
theorem cutW_length (keep torn : Int) (n : Nat) (l : List UInt8) : (cutW keep torn n l).length = stay keep torn n l.length := by
  rw [cutW, List.length_take]; have := stay_le keep torn n l.length; omega
def crashL (keep torn : Int) : Nat → List Wr → List Wr
  | _, [] => []
  | n, x :: r => if x.safe = true then x :: crashL keep torn n r else { x with bytes := cutW keep torn n x.bytes, safe := true } :: crashL keep torn (n + 1) r
/-- What a fall adds to what is safe of a file. -/
def addS (keep torn : Int) : Nat → List Wr → Nat → Nat
  | _, [], _ => 0
  | n, x :: r, k => (if x.file = k then stay keep torn n x.bytes.length else 0) + addS keep torn (n + 1) r k
theorem addS_append (keep torn : Int) (k : Nat) : ∀ (a : List Wr) (n : Nat) (b : List Wr), addS keep torn n (a ++ b) k = addS keep torn n a k + addS keep torn (n + a.length) b k
  | [], n, b => by simp [addS]
  | x :: a, n, b => by
    simp only [List.cons_append, addS, addS_append keep torn k a, List.length_cons]
    rw [show n + 1 + a.length = n + (a.length + 1) by omega]; omega
theorem addS_past (keep torn : Int) (k : Nat) : ∀ (a : List Wr) (n : Nat), keep < n → addS keep torn n a k = 0
  | [], _, _ => rfl
  | x :: a, n, h => by
    simp only [addS, addS_past keep torn k a (n + 1) (by omega)]
    rw [show stay keep torn n x.bytes.length = 0 by unfold stay; rw [if_neg (by omega), if_neg (by omega)]]
    simp
theorem crash_len (keep torn : Int) (k : Nat) : ∀ (ws : List Wr) (n : Nat), (dat (crashL keep torn n ws) k).length = saf ws k + addS keep torn n (pend ws) k
  | [], n => by simp [crashL, dat, saf, pend, addS]
  | x :: r, n => by
    by_cases hs : x.safe = true
    · have e : pend (x :: r) = pend r := by simp [pend, hs]
      rw [crashL, if_pos hs, e, dat, List.length_append, crash_len keep torn k r n, saf]
      by_cases hk : x.file = k <;> simp [hk, hs] <;> omega
    · have e : pend (x :: r) = x :: pend r := by simp [pend, hs]
      rw [crashL, if_neg hs, e, dat, List.length_append, crash_len keep torn k r (n + 1), saf, addS]
      by_cases hk : x.file = k
      · simp [hk, hs, cutW_length]; omega
      · simp [hk, hs]
/-- Of a file what is safe stands ahead. -/
def Ahead (ws : List Wr) : Prop := ws.Pairwise fun a b => a.file = b.file → b.safe = true → a.safe = true
theorem crash_none (keep torn : Int) (k : Nat) : ∀ (ws : List Wr) (n : Nat), keep < n → (∀ x ∈ ws, x.file = k → x.safe = false) → dat (crashL keep torn n ws) k = []
  | [], _, _, _ => rfl
  | x :: r, n, h, hu => by
    by_cases hs : x.safe = true
    · rw [crashL, if_pos hs, dat, crash_none keep torn k r n h (fun y hy => hu y (by simp [hy]))]
      rw [if_neg (fun e => by have := hu x (by simp) e; rw [hs] at this; cases this)]
      rfl
    · rw [crashL, if_neg hs, dat, crash_none keep torn k r (n + 1) (by omega) (fun y hy => hu y (by simp [hy]))]
      have : cutW keep torn n x.bytes = [] := by
        unfold cutW stay; rw [if_neg (by omega), if_neg (by omega)]; rfl
      simp [this]
theorem crash_pre (keep torn : Int) (k : Nat) : ∀ (ws : List Wr) (n : Nat), Ahead ws → ∃ t, dat ws k = dat (crashL keep torn n ws) k ++ t
  | [], _, _ => ⟨[], rfl⟩
  | x :: r, n, h => by
    obtain ⟨h1, h2⟩ := List.pairwise_cons.1 h
    by_cases hs : x.safe = true
    · obtain ⟨t, ht⟩ := crash_pre keep torn k r n h2
      refine ⟨t, ?_⟩
      rw [crashL, if_pos hs, dat, dat, ht, List.append_assoc]
    · rw [crashL, if_neg hs]
      by_cases hk : x.file = k
      · by_cases hn : (n : Int) < keep
        · obtain ⟨t, ht⟩ := crash_pre keep torn k r (n + 1) h2
          refine ⟨t, ?_⟩
          have : cutW keep torn n x.bytes = x.bytes := by unfold cutW stay; rw [if_pos hn]; simp
          rw [dat, dat, ht, this]; simp [hk]
        · have e := crash_none keep torn k r (n + 1) (by omega) (fun y hy hf => by
            cases hy' : y.safe with
            | false => rfl
            | true => exact absurd (h1 y hy (by rw [hk, hf]) hy') hs)
          refine ⟨x.bytes.drop (stay keep torn n x.bytes.length) ++ dat r k, ?_⟩
          rw [dat, dat, e]
          simp only [hk, if_true, List.append_nil, cutW]
          rw [← List.append_assoc, List.take_append_drop]
      · obtain ⟨t, ht⟩ := crash_pre keep torn k r (n + 1) h2
        exact ⟨t, by rw [dat, dat, ht]; simp [hk]⟩
theorem crash_dat (keep torn : Int) (k n : Nat) (ws : List Wr) (h : Ahead ws) : dat (crashL keep torn n ws) k = (dat ws k).take (saf ws k + addS keep torn n (pend ws) k) := by
  obtain ⟨t, ht⟩ := crash_pre keep torn k ws n h
  rw [← crash_len, ht, List.take_left]
theorem crash_safe (keep torn : Int) : ∀ (ws : List Wr) (n : Nat), ∀ x ∈ crashL keep torn n ws, x.safe = true
  | [], _, x, hx => by cases hx
  | y :: r, n, x, hx => by
    rw [crashL] at hx
    split at hx
    · rcases List.mem_cons.1 hx with rfl | hx
      · assumption
      · exact crash_safe keep torn r n x hx
    · rcases List.mem_cons.1 hx with rfl | hx
      · rfl
      · exact crash_safe keep torn r _ x hx
theorem crash_keys (keep torn : Int) : ∀ (ws : List Wr) (n : Nat), (crashL keep torn n ws).map (fun x => (x.num, x.file)) = ws.map fun x => (x.num, x.file)
  | [], _ => rfl
  | y :: r, n => by
    rw [crashL]
    split <;> simp [crash_keys keep torn r]
theorem saf_all (ws : List Wr) (h : ∀ x ∈ ws, x.safe = true) (k : Nat) : saf ws k = (dat ws k).length ∧ pof ws k = [] := by
  induction ws with
  | nil => exact ⟨rfl, rfl⟩
  | cons x r ih =>
    obtain ⟨h1, h2⟩ := ih (fun y hy => h y (by simp [hy]))
    have hx := h x (by simp)
    constructor
    · simp only [saf, dat, List.length_append, h1, hx]
      by_cases hk : x.file = k <;> simp [hk]
    · simpa [pof, hx] using h2

theorem addS_take (keep torn : Int) (l : List Wr) (k j : Nat) : addS keep torn 0 (l.take k) j ≤ addS keep torn 0 l j := by
  have := addS_append keep torn j (l.take k) 0 (l.drop k)
  rw [List.take_append_drop] at this
  omega
theorem addS_snoc (keep torn : Int) {l : List Wr} {k : Nat} {x : Wr} (h : l[k]? = some x) (j : Nat) : addS keep torn 0 (l.take (k + 1)) j = addS keep torn 0 (l.take k) j + if x.file = j then stay keep torn k x.bytes.length else 0 := by
  have hk : k < l.length := (List.getElem?_eq_some_iff.1 h).1
  rw [List.take_add_one, h]
  simp only [Option.toList_some]
  rw [addS_append]
  simp only [addS, List.length_take, Nat.zero_add]
  rw [Nat.min_eq_left (by omega)]; omega
theorem addS_end (keep torn : Int) {l : List Wr} {k : Nat} (h : l.length ≤ k ∨ keep < k) (j : Nat) : addS keep torn 0 (l.take k) j = addS keep torn 0 l j := by
  by_cases hk : l.length ≤ k
  · rw [List.take_of_length_le hk]
  · have hk2 : keep < k := by omega
    have := addS_append keep torn j (l.take k) 0 (l.drop k)
    rw [List.take_append_drop, List.length_take, addS_past keep torn j (l.drop k) _ (by omega)] at this
    omega
theorem safe_le (keep torn : Int) (ws : List Wr) (k j : Nat) : saf ws j + addS keep torn 0 ((pend ws).take k) j ≤ used ws := by
  have h1 := addS_take keep torn (pend ws) k j
  have h2 := crash_len keep torn j ws 0
  have h3 := dat_le (crashL keep torn 0 ws) j
  have h4 : ∀ (ws : List Wr) (n : Nat), used (crashL keep torn n ws) ≤ used ws := by
    intro ws
    induction ws with
    | nil => intro n; exact Nat.le_refl _
    | cons x r ih =>
      intro n
      rw [crashL]
      split
      · have := ih n; simp only [used]; omega
      · have := ih (n + 1); have h := stay_le keep torn n x.bytes.length; simp only [used, cutW_length]; omega
  have := h4 ws 0
  omega

/-! ### a disk's state -/
structure St where
  room : Nat
  is : Nat → Bool
  ws : List Wr
  made : Nat
  off : Bool
  lives : Nat
structure St.Ok (s : St) : Prop where
  room : 64 ≤ s.room ∧ s.room ≤ 1048576
  files : ∀ k, s.is k = true → k < 1000
  has : ∀ x ∈ s.ws, s.is x.file = true
  nums : s.ws.Pairwise fun a b => a.num < b.num
  made : ∀ x ∈ s.ws, x.num < s.made
  ahead : Ahead s.ws
  used : used s.ws ≤ s.room
theorem len_between : ∀ (ws : List Wr) (a m : Nat), (ws.Pairwise fun a b => a.num < b.num) → (∀ x ∈ ws, a ≤ x.num ∧ x.num < m) → ws.length ≤ m - a
  | [], _, _, _, _ => Nat.zero_le _
  | x :: r, a, m, h, hb => by
    obtain ⟨h1, h2⟩ := List.pairwise_cons.1 h
    have hx := hb x (by simp)
    have := len_between r (x.num + 1) m h2 (fun y hy => ⟨h1 y hy, (hb y (by simp [hy])).2⟩)
    simp only [List.length_cons]; omega
theorem len_le_nums {ws : List Wr} (h : ws.Pairwise fun a b => a.num < b.num) (m : Nat) (hm : ∀ x ∈ ws, x.num < m) : ws.length ≤ m :=
  len_between ws 0 m h fun x hx => ⟨Nat.zero_le _, hm x hx⟩
theorem ws_le {s : St} (h : s.Ok) : s.ws.length ≤ s.made := len_le_nums h.nums s.made h.made
theorem pof_le {s : St} (h : s.Ok) (k : Nat) : (pof s.ws k).length ≤ s.made := Nat.le_trans (List.length_filter_le _ _) (ws_le h)
theorem pend_le {s : St} (h : s.Ok) : (pend s.ws).length ≤ s.made := Nat.le_trans (List.length_filter_le _ _) (ws_le h)
def newS (room : Nat) : St := ⟨room, fun _ => false, [], 0, false, 1⟩
def appS (s : St) (f : Nat) (b : List UInt8) : St := { s with is := fun k => s.is k || k == f, ws := s.ws ++ [⟨s.made, f, b, false⟩], made := s.made + 1 }
def crashS (s : St) (keep torn : Int) : St := { s with ws := crashL keep torn 0 s.ws, off := true }
def onS (s : St) : St := { s with off := false, lives := s.lives + 1 }
theorem newS_ok {room : Nat} (h : 64 ≤ room ∧ room ≤ 1048576) : (newS room).Ok :=
  ⟨h, fun k hk => (by cases hk), fun x hx => (by cases hx), List.Pairwise.nil, fun x hx => (by cases hx), List.Pairwise.nil, Nat.zero_le _⟩
theorem appS_ok {s : St} (h : s.Ok) {f : Nat} {b : List UInt8} (hf : f < 1000) (hb : used s.ws + b.length ≤ s.room) : (appS s f b).Ok := by
  refine ⟨h.room, fun k hk => ?_, fun x hx => ?_, ?_, fun x hx => ?_, ?_, ?_⟩
  · simp only [appS, Bool.or_eq_true, beq_iff_eq] at hk
    rcases hk with hk | rfl
    · exact h.files k hk
    · exact hf
  · simp only [appS, List.mem_append, List.mem_singleton] at hx ⊢
    rcases hx with hx | rfl
    · rw [h.has x hx]; rfl
    · simp
  · simp only [appS]
    refine List.pairwise_append.2 ⟨h.nums, List.pairwise_singleton _ _, fun a ha c hc => ?_⟩
    simp only [List.mem_singleton] at hc
    subst hc
    exact h.made a ha
  · simp only [appS, List.mem_append, List.mem_singleton] at hx ⊢
    rcases hx with hx | rfl
    · have := h.made x hx; omega
    · simp only; omega
  · simp only [appS]
    refine List.pairwise_append.2 ⟨h.ahead, List.pairwise_singleton _ _, fun a ha c hc _ hcs => ?_⟩
    simp only [List.mem_singleton] at hc
    subst hc
    cases hcs
  · simp only [appS, used_append, used]; omega
theorem onS_ok {s : St} (h : s.Ok) : (onS s).Ok := ⟨h.room, h.files, h.has, h.nums, h.made, h.ahead, h.used⟩
theorem crash_mem {keep torn : Int} {ws : List Wr} {n : Nat} {x : Wr} (h : x ∈ crashL keep torn n ws) : ∃ y ∈ ws, y.num = x.num ∧ y.file = x.file := by
  have h1 : (x.num, x.file) ∈ (crashL keep torn n ws).map fun x => (x.num, x.file) := List.mem_map.2 ⟨x, h, rfl⟩
  rw [crash_keys] at h1
  obtain ⟨y, hy, e⟩ := List.mem_map.1 h1
  simp only [Prod.mk.injEq] at e
  exact ⟨y, hy, e.1, e.2⟩
theorem crash_used (keep torn : Int) : ∀ (ws : List Wr) (n : Nat), used (crashL keep torn n ws) ≤ used ws
  | [], _ => Nat.le_refl _
  | x :: r, n => by
    rw [crashL]
    split
    · have := crash_used keep torn r n; simp only [used]; omega
    · have := crash_used keep torn r (n + 1); have h := stay_le keep torn n x.bytes.length; simp only [used, cutW_length]; omega
theorem crashS_ok {s : St} (h : s.Ok) (keep torn : Int) : (crashS s keep torn).Ok := by
  refine ⟨h.room, h.files, fun x hx => ?_, ?_, fun x hx => ?_, ?_, ?_⟩
  · obtain ⟨y, hy, _, e⟩ := crash_mem hx
    rw [← e]; exact h.has y hy
  · have : ((crashL keep torn 0 s.ws).map fun x => (x.num, x.file)).Pairwise fun a b => a.1 < b.1 := by
      rw [crash_keys]; exact List.pairwise_map.2 h.nums
    have := List.pairwise_map.1 this
    exact this
  · obtain ⟨y, hy, e, _⟩ := crash_mem hx
    rw [← e]; exact h.made y hy
  · exact (List.pairwise_of_forall_mem_list fun a ha b hb _ _ => crash_safe keep torn s.ws 0 a ha)
  · have := crash_used keep torn s.ws 0; have := h.used; simp only [crashS]; omega
def upd {α : Type} (f : Nat → α) (k : Nat) (v : α) : Nat → α := fun j => if j = k then v else f j
theorem upd_same {α : Type} (f : Nat → α) (k : Nat) (v : α) : upd f k v k = v := if_pos rfl
theorem upd_other {α : Type} (f : Nat → α) {k j : Nat} (v : α) (h : j ≠ k) : upd f k v j = f j := if_neg h
end Go.Proofs.Ytlfcpgncgldieaa.C
