/-
  Rows of dots as they lie; dots.compare.
-/
import Derived.Test.YtebfhomopdnkkaaBSeg
import Derived.Test.YtebfhomopdnkkaaTMath
import Derived.Test.YtebfhomopdnkkaaZ1
namespace Go.Proofs.Ytebfhomopdnkkaa
open Go.RowKit Go.Lib
set_option linter.unusedVariables false

theorem info_dot : (Try.prog.info? 31).map (fun i => (i.zero, i.size, i.bytes)) = some (some (.agg #[.int .i64 0, .int .i64 0]), 2, 16) := by kernel_rfl
theorem size_dot : (Try.prog.info? 31).map (·.size) = some 2 := by kernel_rfl
def encD (x : C.Dt) : List Value := [.int .i64 x.1, .int .i64 x.2]
def rowD (l : List C.Dt) : List Value := l.flatMap encD
theorem rowD_length (l : List C.Dt) : (rowD l).length = l.length * 2 := by
  induction l with
  | nil => rfl
  | cons x r ih =>
    have : rowD (x :: r) = encD x ++ rowD r := rfl
    rw [this, List.length_append, ih, List.length_cons]; simp only [encD, List.length_cons, List.length_nil]; omega
theorem rowD_append (a b : List C.Dt) : rowD a ++ rowD b = rowD (a ++ b) := by simp [rowD]
theorem rowD_one (l : List C.Dt) : ∀ u ∈ rowD l, u.oneCell' = true := by
  intro u hu
  obtain ⟨x, _, hx⟩ := List.mem_flatMap.1 hu
  simp only [encD, List.mem_cons, List.not_mem_nil, or_false] at hx
  rcases hx with rfl | rfl <;> rfl
theorem rowD_get : ∀ (l : List C.Dt) (i : Nat) (x : C.Dt) (j : Nat), l[i]? = some x → j < 2 → (rowD l)[i * 2 + j]? = (encD x)[j]?
  | [], i, x, j, h, _ => by cases h
  | y :: r, 0, x, j, h, hj => by
    have e : y = x := by simpa using h
    subst e
    have : rowD (y :: r) = encD y ++ rowD r := rfl
    rw [this, List.getElem?_append_left (by simp only [encD, List.length_cons, List.length_nil]; omega)]
    congr 1; omega
  | y :: r, i + 1, x, j, h, hj => by
    have h' : r[i]? = some x := by simpa using h
    have : rowD (y :: r) = encD y ++ rowD r := rfl
    rw [this, List.getElem?_append_right (by simp only [encD, List.length_cons, List.length_nil]; omega)]
    rw [← rowD_get r i x j h' hj]
    congr 1
    simp only [encD, List.length_cons, List.length_nil]; omega
theorem rowD_take (l : List C.Dt) (i : Nat) (h : i ≤ l.length) : (rowD l).take (i * 2) = rowD (l.take i) := by
  have e : rowD l = rowD (l.take i) ++ rowD (l.drop i) := by rw [rowD_append, List.take_append_drop]
  rw [e, List.take_append_of_le_length (by rw [rowD_length, List.length_take]; omega), List.take_of_length_le (by rw [rowD_length, List.length_take]; omega)]
theorem rowD_drop (l : List C.Dt) (i : Nat) (h : i ≤ l.length) : (rowD l).drop (i * 2) = rowD (l.drop i) := by
  have e : rowD l = rowD (l.take i) ++ rowD (l.drop i) := by rw [rowD_append, List.take_append_drop]
  rw [e, List.drop_append_of_le_length (by rw [rowD_length, List.length_take]; omega), List.drop_eq_nil_of_le (by rw [rowD_length, List.length_take]; omega)]
  rfl
/-- A row of dots in a block of its own. -/
def OwnD (w : World) (v : Value) (l : List C.Dt) : Prop := w.ownsRow 0 31 2 v l.length (rowD l)
theorem OwnD.nil (w : World) : OwnD w (.slice none 0 0) [] := World.ownsRow_nil _ _ _ _
theorem OwnD.shape {w : World} {v : Value} {l : List C.Dt} (h : OwnD w v l) : (v = .slice none 0 0 ∧ l = []) ∨ ∃ (g cap : Nat) (cur : List Value), v = .slice (some ⟨g, 0, none⟩) l.length cap ∧ w.heap[g]? = some (.cells cur.toArray 31) ∧ l.length ≤ cap ∧ cap ≤ maxLen ∧ cur.length = cap * 2 ∧ cur.take (l.length * 2) = rowD l := by
  rcases h.2 with ⟨h1, h2⟩ | ⟨g, cap, cur, hv, _, hg, hn, hm, hs, ht⟩
  · exact Or.inl ⟨h1, List.eq_nil_of_length_eq_zero h2⟩
  · exact Or.inr ⟨g, cap, cur.toList, hv, by simpa using hg, hn, hm, by simpa using hs, ht⟩
theorem OwnD.make {w : World} {g cap : Nat} {cur : List Value} {l : List C.Dt} (hg : w.heap[g]? = some (.cells cur.toArray 31)) (hn : l.length ≤ cap) (hm : cap ≤ maxLen) (hs : cur.length = cap * 2) (ht : cur.take (l.length * 2) = rowD l) : OwnD w (.slice (some ⟨g, 0, none⟩) l.length cap) l :=
  ⟨rowD_length l, Or.inr ⟨g, cap, cur.toArray, rfl, Nat.zero_le _, hg, hn, hm, by simpa using hs, by simpa using ht⟩⟩
theorem OwnD.same {w w' : World} {v : Value} {l : List C.Dt} (h : OwnD w v l) (hb : ∀ b, v.ownBlock = some b → w'.heap[b]? = w.heap[b]?) : OwnD w' v l := row_same h hb
theorem OwnD.below {w w' : World} {v : Value} {l : List C.Dt} (h : OwnD w v l) (hb : Below w.heap.size w w') : OwnD w' v l := h.same fun b hv => hb.block b (row_lt h hv)
theorem OwnD.cell {w : World} {g n cap : Nat} {l : List C.Dt} (h : OwnD w (.slice (some ⟨g, 0, none⟩) n cap) l) (i : Nat) (x : C.Dt) (hx : l[i]? = some x) : w.cell? ⟨g, i * 2, none⟩ = some (.int .i64 x.1) ∧ w.cell? ⟨g, i * 2 + 1, none⟩ = some (.int .i64 x.2) := by
  have hi : i < l.length := (List.getElem?_eq_some_iff.1 hx).1
  rcases h.shape with ⟨h1, _⟩ | ⟨g', cap', cur, hv, hg, hn, hm, hs, ht⟩
  · cases h1
  · cases hv
    have key : ∀ j, j < 2 → w.cell? ⟨g, i * 2 + j, none⟩ = (encD x)[j]? := by
      intro j hj
      rw [← rowD_get l i x j hx hj, ← ht, List.getElem?_take, if_pos (by omega)]
      simp [World.cell?, hg]
    exact ⟨key 0 (by omega), key 1 (by omega)⟩
theorem OwnD.at {w : World} {v : Value} {l : List C.Dt} (h : OwnD w v l) (hl : 0 < l.length) : ∃ g cap, v = .slice (some ⟨g, 0, none⟩) l.length cap := by
  rcases h.shape with ⟨_, rfl⟩ | ⟨g, cap, _, rfl, _⟩
  · simp at hl
  · exact ⟨g, cap, rfl⟩
namespace C
def cmp3 (a b : Int) : Int := if a < b then -1 else if b < a then 1 else 0
def cmpD (a b : Dt) : Int := if a.1 < b.1 then -1 else if b.1 < a.1 then 1 else cmp3 a.2 b.2
theorem cmpD_lt (a b : Dt) : cmpD a b < 0 ↔ dlt a b = true := by
  rw [dlt_iff]; unfold cmpD cmp3
  split
  · simp [*]
  · split
    · simp; omega
    · split
      · simp; omega
      · split <;> simp <;> omega
theorem cmpD_eq (a b : Dt) : cmpD a b = 0 ↔ a = b := by
  constructor
  · intro h
    unfold cmpD cmp3 at h
    split at h
    · cases h
    · split at h
      · cases h
      · split at h
        · cases h
        · split at h
          · cases h
          · exact dt_eq (by omega) (by omega)
  · rintro rfl; simp [cmpD, cmp3]
end C
end Go.Proofs.Ytebfhomopdnkkaa
