/-
  disk.Disk as it lies: its cells, its map, its files' contents, their bytes and writes.
-/
import Derived.Test.YtlfcpgncgldieaaBRow
import Derived.Test.YtlfcpgncgldieaaDMath
namespace Go.Proofs.Ytlfcpgncgldieaa
open Go.RowKit Go.Lib Go.Maps
open C (upd upd_same upd_other)
set_option linter.unusedVariables false

theorem info_wr : (Try.prog.info? 60).map (fun i => (i.zero, i.size, i.bytes)) = some (some (.agg #[.int .i64 0, .int .i64 0, .int .i64 0]), 3, 24) := by kernel_rfl
def encW (x : C.Wr) : List Value := [.int .i64 (x.num : Nat), .int .i64 (x.file : Nat), .int .i64 (x.bytes.length : Nat)]
def rowW (l : List C.Wr) : List Value := l.flatMap encW
theorem rowW_length (l : List C.Wr) : (rowW l).length = l.length * 3 := by
  induction l with
  | nil => rfl
  | cons x r ih =>
    have : rowW (x :: r) = encW x ++ rowW r := rfl
    rw [this, List.length_append, ih, List.length_cons]; simp only [encW, List.length_cons, List.length_nil]; omega
theorem rowW_append (a b : List C.Wr) : rowW a ++ rowW b = rowW (a ++ b) := by simp [rowW]
theorem rowW_one (l : List C.Wr) : ∀ u ∈ rowW l, u.oneCell' = true := by
  intro u hu
  obtain ⟨x, _, hx⟩ := List.mem_flatMap.1 hu
  simp only [encW, List.mem_cons, List.not_mem_nil, or_false] at hx
  rcases hx with rfl | rfl | rfl <;> rfl
/-- A row of writes in a block of its own. -/
def OwnW (w : World) (v : Value) (l : List C.Wr) : Prop := w.ownsRow 0 60 3 v l.length (rowW l)
theorem OwnW.nil (w : World) : OwnW w (.slice none 0 0) [] := World.ownsRow_nil _ _ _ _
structure Head where
  room : Nat
  used : Nat
  made : Nat
  power : Bool
  lives : Nat
def Head.cells (h : Head) (mb : Nat) : Array Value := #[.int .i64 (h.room : Nat), .int .i64 (h.used : Nat), .map (some mb), .int .i64 (h.made : Nat), .bool h.power, .int .i64 (h.lives : Nat)]
/-- Where the files lie. -/
structure Lay where
  g : Nat
  mb : Nat
  is : Nat → Bool
  c : Nat → Nat
  d : Nat → Value
  w : Nat → Value
def Lay.at (L : Lay) : Int → Option Nat := fun x => if 0 ≤ x ∧ L.is x.toNat = true then some (L.c x.toNat) else none
/-- The blocks of a disk. -/
def Lay.foot (L : Lay) (b : Nat) : Prop := b = L.g ∨ b = L.mb ∨ ∃ k, L.is k = true ∧ (b = L.c k ∨ (L.d k).ownBlock = some b ∨ (L.w k).ownBlock = some b)
structure DMem (w : World) (L : Lay) (n : Nat) (h : Head) (sa : Nat → Nat) (da : Nat → List UInt8) (pn : Nat → List C.Wr) : Prop where
  blk : w.heap[L.g]? = some (.cells (h.cells L.mb) 54)
  map : IMap w L.mb n L.at
  cont : ∀ k, L.is k = true → w.heap[L.c k]? = some (.cells #[L.d k, .int .i64 (sa k : Nat), L.w k] 58)
  dat : ∀ k, L.is k = true → Own w 0 (L.d k) (da k)
  wr : ∀ k, L.is k = true → OwnW w (L.w k) (pn k)
  cinj : ∀ k j, L.is k = true → L.is j = true → L.c k = L.c j → k = j
  dinj : ∀ k j b, L.is k = true → L.is j = true → (L.d k).ownBlock = some b → (L.d j).ownBlock = some b → k = j
  winj : ∀ k j b, L.is k = true → L.is j = true → (L.w k).ownBlock = some b → (L.w j).ownBlock = some b → k = j
section
variable {w w' : World} {L : Lay} {n : Nat} {h : Head} {sa : Nat → Nat} {da : Nat → List UInt8} {pn : Nat → List C.Wr}
theorem DMem.foot_lt (M : DMem w L n h sa da pn) {b : Nat} (hb : L.foot b) : b < w.heap.size := by
  rcases hb with rfl | rfl | ⟨k, hk, rfl | hb | hb⟩
  · exact (Array.getElem?_eq_some_iff.1 M.blk).1
  · exact M.map.lt
  · exact (Array.getElem?_eq_some_iff.1 (M.cont k hk)).1
  · exact row_lt (M.dat k hk) hb
  · exact row_lt (M.wr k hk) hb
/-- Nothing of it is turned. -/
theorem DMem.same (M : DMem w L n h sa da pn) (hs : ∀ b, L.foot b → w'.heap[b]? = w.heap[b]?) : DMem w' L n h sa da pn :=
  ⟨(hs _ (Or.inl rfl)).trans M.blk, M.map.same (hs _ (Or.inr (Or.inl rfl))), fun k hk => (hs _ (Or.inr (Or.inr ⟨k, hk, Or.inl rfl⟩))).trans (M.cont k hk),
    fun k hk => (M.dat k hk).same fun b hb => hs b (Or.inr (Or.inr ⟨k, hk, Or.inr (Or.inl hb)⟩)), fun k hk => row_same (M.wr k hk) fun b hb => hs b (Or.inr (Or.inr ⟨k, hk, Or.inr (Or.inr hb)⟩)), M.cinj, M.dinj, M.winj⟩
theorem cells_ne {w : World} {b b' t t' : Nat} {x x' : Array Value} {m m' : Nat × Nat} (h : w.heap[b]? = some (.cells x t m)) (h' : w.heap[b']? = some (.cells x' t' m')) (hne : t ≠ t') : b ≠ b' := fun e => by
  subst e; rw [h] at h'; simp at h'; exact hne h'.2.1
theorem map_ne {w : World} {b b' t n : Nat} {x : Array Value} {m' : Nat × Nat} {m : Int → Option Nat} (h : w.heap[b]? = some (.cells x t m')) (h' : IMap w b' n m) : b ≠ b' := fun e => by
  subst e; obtain ⟨es, cl, h2⟩ := h'.isMap; rw [h] at h2; simp at h2
theorem DMem.g_mb (M : DMem w L n h sa da pn) : L.g ≠ L.mb := map_ne M.blk M.map
theorem DMem.g_c (M : DMem w L n h sa da pn) {k : Nat} (hk : L.is k = true) : L.g ≠ L.c k := cells_ne M.blk (M.cont k hk) (by decide)
theorem DMem.c_mb (M : DMem w L n h sa da pn) {k : Nat} (hk : L.is k = true) : L.c k ≠ L.mb := map_ne (M.cont k hk) M.map
theorem DMem.d_g (M : DMem w L n h sa da pn) {k b : Nat} (hk : L.is k = true) (hb : (L.d k).ownBlock = some b) : b ≠ L.g := by
  obtain ⟨cur, hc⟩ := row_type (M.dat k hk) hb; exact cells_ne hc M.blk (by decide)
theorem DMem.d_mb (M : DMem w L n h sa da pn) {k b : Nat} (hk : L.is k = true) (hb : (L.d k).ownBlock = some b) : b ≠ L.mb := by
  obtain ⟨cur, hc⟩ := row_type (M.dat k hk) hb; exact map_ne hc M.map
theorem DMem.d_c (M : DMem w L n h sa da pn) {k j b : Nat} (hk : L.is k = true) (hj : L.is j = true) (hb : (L.d k).ownBlock = some b) : b ≠ L.c j := by
  obtain ⟨cur, hc⟩ := row_type (M.dat k hk) hb; exact cells_ne hc (M.cont j hj) (by decide)
theorem DMem.w_g (M : DMem w L n h sa da pn) {k b : Nat} (hk : L.is k = true) (hb : (L.w k).ownBlock = some b) : b ≠ L.g := by
  obtain ⟨cur, hc⟩ := row_type (M.wr k hk) hb; exact cells_ne hc M.blk (by decide)
theorem DMem.w_mb (M : DMem w L n h sa da pn) {k b : Nat} (hk : L.is k = true) (hb : (L.w k).ownBlock = some b) : b ≠ L.mb := by
  obtain ⟨cur, hc⟩ := row_type (M.wr k hk) hb; exact map_ne hc M.map
theorem DMem.w_c (M : DMem w L n h sa da pn) {k j b : Nat} (hk : L.is k = true) (hj : L.is j = true) (hb : (L.w k).ownBlock = some b) : b ≠ L.c j := by
  obtain ⟨cur, hc⟩ := row_type (M.wr k hk) hb; exact cells_ne hc (M.cont j hj) (by decide)
theorem DMem.w_d (M : DMem w L n h sa da pn) {k j b b' : Nat} (hk : L.is k = true) (hj : L.is j = true) (hb : (L.w k).ownBlock = some b) (hb' : (L.d j).ownBlock = some b') : b ≠ b' := by
  obtain ⟨cur, hc⟩ := row_type (M.wr k hk) hb
  obtain ⟨cur', hc'⟩ := row_type (M.dat j hj) hb'
  exact cells_ne hc hc' (by decide)
/-- Its own cells are written. -/
theorem DMem.head (M : DMem w L n h sa da pn) (h' : Head) (hb : w'.heap[L.g]? = some (.cells (h'.cells L.mb) 54)) (hs : ∀ b, L.foot b → b ≠ L.g → w'.heap[b]? = w.heap[b]?) : DMem w' L n h' sa da pn :=
  ⟨hb, M.map.same (hs _ (Or.inr (Or.inl rfl)) M.g_mb.symm), fun k hk => (hs _ (Or.inr (Or.inr ⟨k, hk, Or.inl rfl⟩)) (M.g_c hk).symm).trans (M.cont k hk),
    fun k hk => (M.dat k hk).same fun b hb => hs b (Or.inr (Or.inr ⟨k, hk, Or.inr (Or.inl hb)⟩)) (M.d_g hk hb), fun k hk => row_same (M.wr k hk) fun b hb => hs b (Or.inr (Or.inr ⟨k, hk, Or.inr (Or.inr hb)⟩)) (M.w_g hk hb), M.cinj, M.dinj, M.winj⟩
def Lay.file (L : Lay) (k : Nat) (v1 v2 : Value) : Lay := { L with d := upd L.d k v1, w := upd L.w k v2 }
/-- A file's content, its bytes, its writes are turned. -/
theorem DMem.file (M : DMem w L n h sa da pn) {k : Nat} (hk : L.is k = true) (v1 v2 : Value) (s' : Nat) (l' : List UInt8) (q' : List C.Wr)
    (hs : ∀ b, L.foot b → b ≠ L.c k → (L.d k).ownBlock ≠ some b → (L.w k).ownBlock ≠ some b → w'.heap[b]? = w.heap[b]?)
    (hc : w'.heap[L.c k]? = some (.cells #[v1, .int .i64 (s' : Nat), v2] 58)) (h1 : Own w' 0 v1 l') (h2 : OwnW w' v2 q')
    (l1 : v1.ownBlock = (L.d k).ownBlock ∨ ∀ b, v1.ownBlock = some b → w.heap.size ≤ b) (l2 : v2.ownBlock = (L.w k).ownBlock ∨ ∀ b, v2.ownBlock = some b → w.heap.size ≤ b) :
    DMem w' (L.file k v1 v2) n h (upd sa k s') (upd da k l') (upd pn k q') := by
  have hne : ∀ {j b}, L.is j = true → j ≠ k → (L.d j).ownBlock = some b → w'.heap[b]? = w.heap[b]? := fun {j b} hj e hb =>
    hs b (Or.inr (Or.inr ⟨j, hj, Or.inr (Or.inl hb)⟩)) (M.d_c hj hk hb) (fun e' => e (M.dinj j k b hj hk hb e')) (fun e' => M.w_d hk hj e' hb rfl)
  have hne2 : ∀ {j b}, L.is j = true → j ≠ k → (L.w j).ownBlock = some b → w'.heap[b]? = w.heap[b]? := fun {j b} hj e hb =>
    hs b (Or.inr (Or.inr ⟨j, hj, Or.inr (Or.inr hb)⟩)) (M.w_c hj hk hb) (fun e' => M.w_d hj hk hb e' rfl) (fun e' => e (M.winj j k b hj hk hb e'))
  refine ⟨?_, M.map.same ?_, fun j hj => ?_, fun j hj => ?_, fun j hj => ?_, M.cinj, ?_, ?_⟩
  · exact (hs _ (Or.inl rfl) (M.g_c hk) (fun e => M.d_g hk e rfl) (fun e => M.w_g hk e rfl)).trans M.blk
  · exact hs _ (Or.inr (Or.inl rfl)) (M.c_mb hk).symm (fun e => M.d_mb hk e rfl) (fun e => M.w_mb hk e rfl)
  · by_cases e : j = k
    · subst e
      simp only [Lay.file, upd_same]; exact hc
    · simp only [Lay.file, upd_other _ _ e]
      exact (hs _ (Or.inr (Or.inr ⟨j, hj, Or.inl rfl⟩)) (fun e' => e (M.cinj j k hj hk e')) (fun e' => M.d_c hk hj e' rfl) (fun e' => M.w_c hk hj e' rfl)).trans (M.cont j hj)
  · by_cases e : j = k
    · subst e
      simp only [Lay.file, upd_same]; exact h1
    · simp only [Lay.file, upd_other _ _ e]
      exact (M.dat j hj).same fun b hb => hne hj e hb
  · by_cases e : j = k
    · subst e
      simp only [Lay.file, upd_same]; exact h2
    · simp only [Lay.file, upd_other _ _ e]
      exact row_same (M.wr j hj) fun b hb => hne2 hj e hb
  · have key : ∀ {j b}, L.is j = true → j ≠ k → (L.d j).ownBlock = some b → v1.ownBlock = some b → False := fun {j b} hj e hb h' => by
      rcases l1 with l1 | l1
      · exact e (M.dinj j k b hj hk hb (l1 ▸ h'))
      · have := l1 b h'; have := row_lt (M.dat j hj) hb; omega
    intro i j b hi hj hb hb'
    by_cases e : i = k
    · by_cases e' : j = k
      · rw [e, e']
      · subst e
        simp only [Lay.file, upd_same, upd_other _ _ e'] at hb hb'
        exact (key hj e' hb' hb).elim
    · by_cases e' : j = k
      · subst e'
        simp only [Lay.file, upd_same, upd_other _ _ e] at hb hb'
        exact (key hi e hb hb').elim
      · simp only [Lay.file, upd_other _ _ e, upd_other _ _ e'] at hb hb'
        exact M.dinj i j b hi hj hb hb'
  · have key : ∀ {j b}, L.is j = true → j ≠ k → (L.w j).ownBlock = some b → v2.ownBlock = some b → False := fun {j b} hj e hb h' => by
      rcases l2 with l2 | l2
      · exact e (M.winj j k b hj hk hb (l2 ▸ h'))
      · have := l2 b h'; have := row_lt (M.wr j hj) hb; omega
    intro i j b hi hj hb hb'
    by_cases e : i = k
    · by_cases e' : j = k
      · rw [e, e']
      · subst e
        simp only [Lay.file, upd_same, upd_other _ _ e'] at hb hb'
        exact (key hj e' hb' hb).elim
    · by_cases e' : j = k
      · subst e'
        simp only [Lay.file, upd_same, upd_other _ _ e] at hb hb'
        exact (key hi e hb hb').elim
      · simp only [Lay.file, upd_other _ _ e, upd_other _ _ e'] at hb hb'
        exact M.winj i j b hi hj hb hb'
theorem Lay.file_foot {L : Lay} {k : Nat} {v1 v2 : Value} {N : Nat} (hk : L.is k = true) (l1 : v1.ownBlock = (L.d k).ownBlock ∨ ∀ b, v1.ownBlock = some b → N ≤ b) (l2 : v2.ownBlock = (L.w k).ownBlock ∨ ∀ b, v2.ownBlock = some b → N ≤ b) :
    ∀ b, (L.file k v1 v2).foot b → L.foot b ∨ N ≤ b := by
  intro b hb
  rcases hb with rfl | rfl | ⟨j, hj, rfl | hb | hb⟩
  · exact Or.inl (Or.inl rfl)
  · exact Or.inl (Or.inr (Or.inl rfl))
  · exact Or.inl (Or.inr (Or.inr ⟨j, hj, Or.inl rfl⟩))
  · by_cases e : j = k
    · subst e
      simp only [Lay.file, upd_same] at hb
      rcases l1 with l1 | l1
      · exact Or.inl (Or.inr (Or.inr ⟨j, hj, Or.inr (Or.inl (l1 ▸ hb))⟩))
      · exact Or.inr (l1 b hb)
    · simp only [Lay.file, upd_other _ _ e] at hb
      exact Or.inl (Or.inr (Or.inr ⟨j, hj, Or.inr (Or.inl hb)⟩))
  · by_cases e : j = k
    · subst e
      simp only [Lay.file, upd_same] at hb
      rcases l2 with l2 | l2
      · exact Or.inl (Or.inr (Or.inr ⟨j, hj, Or.inr (Or.inr (l2 ▸ hb))⟩))
      · exact Or.inr (l2 b hb)
    · simp only [Lay.file, upd_other _ _ e] at hb
      exact Or.inl (Or.inr (Or.inr ⟨j, hj, Or.inr (Or.inr hb)⟩))
def Lay.more (L : Lay) (k cb : Nat) : Lay := { L with is := fun j => L.is j || j == k, c := upd L.c k cb, d := upd L.d k (.slice none 0 0), w := upd L.w k (.slice none 0 0) }
/-- A file is made. -/
theorem DMem.more (M : DMem w L n h sa da pn) {k cb : Nat} (hk : L.is k = false) (hcb : w.heap.size ≤ cb) (hs : ∀ b, L.foot b → b ≠ L.mb → w'.heap[b]? = w.heap[b]?)
    (hc : w'.heap[cb]? = some (.cells #[.slice none 0 0, .int .i64 (0 : Nat), .slice none 0 0] 58)) (hm : IMap w' L.mb (n + 1) (mput L.at (k : Int) (some cb))) :
    DMem w' (L.more k cb) (n + 1) h (upd sa k 0) (upd da k []) (upd pn k []) := by
  have isk : ∀ {j}, (L.more k cb).is j = true → j ≠ k → L.is j = true := fun {j} hj e => by
    simp only [Lay.more, Bool.or_eq_true, beq_iff_eq] at hj
    rcases hj with hj | hj
    · exact hj
    · exact absurd hj e
  have clt : ∀ {j}, L.is j = true → L.c j < w.heap.size := fun {j} hj => (Array.getElem?_eq_some_iff.1 (M.cont j hj)).1
  refine ⟨?_, hm.congr ?_, fun j hj => ?_, fun j hj => ?_, fun j hj => ?_, ?_, ?_, ?_⟩
  · exact (hs _ (Or.inl rfl) M.g_mb).trans M.blk
  · intro x
    unfold mput Lay.at
    by_cases hx : x = (k : Int)
    · subst hx
      simp [Lay.more, upd_same]
    · rw [if_neg hx]
      by_cases h0 : 0 ≤ x
      · have e : x.toNat ≠ k := fun e => hx (by omega)
        simp only [Lay.more, upd_other _ _ e]
        have : (x.toNat == k) = false := by simpa using e
        rw [this, Bool.or_false]
      · rw [if_neg (fun h => h0 h.1), if_neg (fun h => h0 h.1)]
  · by_cases e : j = k
    · subst e
      simp only [Lay.more, upd_same]; exact hc
    · have hj' := isk hj e
      simp only [Lay.more, upd_other _ _ e]
      exact (hs _ (Or.inr (Or.inr ⟨j, hj', Or.inl rfl⟩)) (M.c_mb hj')).trans (M.cont j hj')
  · by_cases e : j = k
    · subst e
      simp only [Lay.more, upd_same]; exact Own.nil _ _
    · have hj' := isk hj e
      simp only [Lay.more, upd_other _ _ e]
      exact (M.dat j hj').same fun b hb => hs b (Or.inr (Or.inr ⟨j, hj', Or.inr (Or.inl hb)⟩)) (M.d_mb hj' hb)
  · by_cases e : j = k
    · subst e
      simp only [Lay.more, upd_same]; exact OwnW.nil _
    · have hj' := isk hj e
      simp only [Lay.more, upd_other _ _ e]
      exact row_same (M.wr j hj') fun b hb => hs b (Or.inr (Or.inr ⟨j, hj', Or.inr (Or.inr hb)⟩)) (M.w_mb hj' hb)
  · intro i j hi hj he
    by_cases e : i = k
    · by_cases e' : j = k
      · rw [e, e']
      · subst e
        simp only [Lay.more, upd_same, upd_other _ _ e'] at he
        have := clt (isk hj e'); omega
    · by_cases e' : j = k
      · subst e'
        simp only [Lay.more, upd_same, upd_other _ _ e] at he
        have := clt (isk hi e); omega
      · simp only [Lay.more, upd_other _ _ e, upd_other _ _ e'] at he
        exact M.cinj i j (isk hi e) (isk hj e') he
  · intro i j b hi hj hb hb'
    by_cases e : i = k
    · subst e; simp only [Lay.more, upd_same] at hb; cases hb
    · by_cases e' : j = k
      · subst e'; simp only [Lay.more, upd_same] at hb'; cases hb'
      · simp only [Lay.more, upd_other _ _ e, upd_other _ _ e'] at hb hb'
        exact M.dinj i j b (isk hi e) (isk hj e') hb hb'
  · intro i j b hi hj hb hb'
    by_cases e : i = k
    · subst e; simp only [Lay.more, upd_same] at hb; cases hb
    · by_cases e' : j = k
      · subst e'; simp only [Lay.more, upd_same] at hb'; cases hb'
      · simp only [Lay.more, upd_other _ _ e, upd_other _ _ e'] at hb hb'
        exact M.winj i j b (isk hi e) (isk hj e') hb hb'
theorem Lay.more_foot {L : Lay} {k cb N : Nat} (hcb : N ≤ cb) : ∀ b, (L.more k cb).foot b → L.foot b ∨ N ≤ b := by
  intro b hb
  rcases hb with rfl | rfl | ⟨j, hj, hb⟩
  · exact Or.inl (Or.inl rfl)
  · exact Or.inl (Or.inr (Or.inl rfl))
  · by_cases e : j = k
    · subst e
      simp only [Lay.more, upd_same] at hb
      rcases hb with rfl | hb | hb
      · exact Or.inr hcb
      · cases hb
      · cases hb
    · simp only [Lay.more, upd_other _ _ e, Bool.or_eq_true, beq_iff_eq] at hj hb
      rcases hj with hj | hj
      · exact Or.inl (Or.inr (Or.inr ⟨j, hj, hb⟩))
      · exact absurd hj e
theorem DMem.congr (M : DMem w L n h sa da pn) {sa' : Nat → Nat} {da' : Nat → List UInt8} {pn' : Nat → List C.Wr} (h1 : ∀ k, L.is k = true → sa k = sa' k) (h2 : ∀ k, L.is k = true → da k = da' k) (h3 : ∀ k, L.is k = true → pn k = pn' k) : DMem w L n h sa' da' pn' :=
  ⟨M.blk, M.map, fun k hk => by rw [← h1 k hk]; exact M.cont k hk, fun k hk => by rw [← h2 k hk]; exact M.dat k hk, fun k hk => by rw [← h3 k hk]; exact M.wr k hk, M.cinj, M.dinj, M.winj⟩
end
def headOf (s : C.St) : Head := ⟨s.room, C.used s.ws, s.made, !s.off, s.lives⟩
/-- A disk at block g, in the state s; its blocks are among S. -/
def Disk (w : World) (g : Nat) (S : Nat → Prop) (s : C.St) : Prop := ∃ L, L.g = g ∧ L.is = s.is ∧ DMem w L s.made (headOf s) (C.saf s.ws) (C.dat s.ws) (C.pof s.ws) ∧ (∀ b, L.foot b → S b) ∧ (∀ b, S b → b < w.heap.size) ∧ s.Ok
theorem Disk.turn {w w' : World} {g : Nat} {S T : Nat → Prop} {s : C.St} (h : Disk w g S s) (ht : Turn w w' T) (hd : ∀ b, S b → ¬ T b) : Disk w' g S s := by
  obtain ⟨L, h1, h2, h3, h4, h5, h6⟩ := h
  exact ⟨L, h1, h2, h3.same fun b hb => ht.block b (h5 b (h4 b hb)) (hd b (h4 b hb)), h4, fun b hb => Nat.lt_of_lt_of_le (h5 b hb) ht.size, h6⟩
theorem Disk.below {w w' : World} {g : Nat} {S : Nat → Prop} {s : C.St} (h : Disk w g S s) (hb : Below w.heap.size w w') : Disk w' g S s := h.turn (T := fun _ => False) (Turn.of_below hb) (fun _ _ h => h)
end Go.Proofs.Ytlfcpgncgldieaa
