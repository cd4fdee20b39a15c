/-
  slices.Compact at dots.
-/
import Derived.Test.YtadafllhionhhaaTSort
import Derived.Test.YtadafllhionhhaaTArg
namespace Go.Proofs.Ytadafllhionhhaa
open Go.RowKit Go.Lib
set_option linter.unusedVariables false

namespace C
def ddStep (acc : List Dt) (x : Dt) : List Dt := if acc.getLast? = some x then acc else acc ++ [x]
def dd (l : List Dt) : List Dt := l.foldl ddStep []
theorem dd_snoc (l : List Dt) (x : Dt) : dd (l ++ [x]) = ddStep (dd l) x := by unfold dd; rw [List.foldl_append]; rfl
theorem ddStep_last (acc : List Dt) (x : Dt) : (ddStep acc x).getLast? = some x := by
  unfold ddStep; split
  · assumption
  · simp
theorem dd_take {l : List Dt} {k : Nat} {x y : Dt} (hx : l[k]? = some x) (hk : 0 < k) (hy : l[k - 1]? = some y) : dd (l.take (k + 1)) = if x = y then dd (l.take k) else dd (l.take k) ++ [x] := by
  have e1 : l.take k = l.take (k - 1) ++ [y] := by
    have := take_snoc hy
    rwa [show k - 1 + 1 = k by omega] at this
  have h1 : (dd (l.take k)).getLast? = some y := by rw [e1, dd_snoc]; exact ddStep_last _ _
  rw [take_snoc hx, dd_snoc, ddStep, h1]
  by_cases h : x = y
  · subst h; simp
  · rw [if_neg h, if_neg (fun e => h (by simpa using e.symm))]
theorem dd_one (l : List Dt) (h : l.length ≤ 1) : dd l = l := by
  match l, h with
  | [], _ => rfl
  | [x], _ => rfl
theorem dd_all : ∀ (r acc : List Dt), Up acc → (∀ a ∈ acc, ∀ b ∈ r, dlt b a = false) → (r.Pairwise fun a b => dlt b a = false) → Up (r.foldl ddStep acc) ∧ ∀ x, x ∈ r.foldl ddStep acc ↔ x ∈ acc ∨ x ∈ r
  | [], acc, hu, _, _ => ⟨hu, fun x => by simp⟩
  | d :: t, acc, hu, hle, hs => by
    obtain ⟨hs1, hs2⟩ := List.pairwise_cons.1 hs
    have hd : ∀ a ∈ acc, dlt d a = false := fun a ha => hle a ha d (List.mem_cons_self ..)
    have key : Up (ddStep acc d) ∧ ∀ x, x ∈ ddStep acc d ↔ x ∈ acc ∨ x = d := by
      unfold ddStep
      split
      · rename_i h
        have hm : d ∈ acc := List.mem_of_getLast? h
        exact ⟨hu, fun x => ⟨Or.inl, fun h => by rcases h with h | rfl; exact h; exact hm⟩⟩
      · rename_i h
        refine ⟨?_, fun x => by simp⟩
        refine List.pairwise_append.2 ⟨hu, List.pairwise_singleton _ _, fun a ha b hb => ?_⟩
        obtain rfl : b = d := by simpa using hb
        cases hc : dlt a b with
        | true => rfl
        | false =>
          exfalso
          obtain rfl := dlt_total hc (hd a ha)
          obtain ⟨z, hz⟩ : ∃ z, acc.getLast? = some z := by
            cases hg : acc.getLast? with
            | none => rw [List.getLast?_eq_none_iff] at hg; subst hg; cases ha
            | some z => exact ⟨z, rfl⟩
          have hne : a ≠ z := fun e => h (by rw [hz, e])
          have hzm : z ∈ acc := List.mem_of_getLast? hz
          obtain ⟨pre, hpre⟩ : ∃ pre, acc = pre ++ [z] := by
            obtain ⟨hne', e⟩ := List.getLast?_eq_some_iff.1 hz
            exact ⟨_, e⟩
          rw [hpre] at ha hu
          rcases List.mem_append.1 ha with ha' | ha'
          · have := (List.pairwise_append.1 hu).2.2 a ha' z (by simp)
            rw [hd z hzm] at this; cases this
          · exact hne (by simpa using ha')
    have ih := dd_all t (ddStep acc d) key.1 (fun a ha b hb => by
      rcases (key.2 a).1 ha with h | rfl
      · exact hle a h b (List.mem_cons_of_mem _ hb)
      · exact hs1 b hb) hs2
    refine ⟨ih.1, fun x => ?_⟩
    have e : (d :: t).foldl ddStep acc = t.foldl ddStep (ddStep acc d) := rfl
    rw [e, ih.2 x, key.2 x, List.mem_cons]
    constructor
    · rintro ((h | h) | h)
      · exact Or.inl h
      · exact Or.inr (Or.inl h)
      · exact Or.inr (Or.inr h)
    · rintro (h | h | h)
      · exact Or.inl (Or.inl h)
      · exact Or.inl (Or.inr h)
      · exact Or.inr h
/-- Two rows, sorted together, each once: joined. -/
theorem dd_join {a b s : List Dt} (ha : Up a) (hp : s.Perm (a ++ b)) (hs : s.Pairwise fun x y => dlt y x = false) : dd s = joinL a b := by
  obtain ⟨h1, h2⟩ := dd_all s [] Up.nil (fun a h => by cases h) hs
  refine up_eq h1 (join_up b a ha) fun x => ?_
  rw [join_mem, ← List.mem_append, ← hp.mem_iff]
  have := h2 x
  unfold dd
  rw [this]; simp
end C
theorem rowD_set (l : List C.Dt) (k : Nat) (x : C.Dt) : rowD (l.set k x) = ((rowD l).set (k * 2) (.int .i64 x.1)).set (k * 2 + 1) (.int .i64 x.2) := by
  induction l generalizing k with
  | nil => rfl
  | cons y r ih =>
    have e : ∀ z : C.Dt, ∀ q, rowD (z :: q) = .int .i64 z.1 :: .int .i64 z.2 :: rowD q := fun _ _ => rfl
    cases k with
    | zero => simp [e]
    | succ k =>
      rw [List.set_cons_succ, e, e, ih, show (k + 1) * 2 = k * 2 + 1 + 1 by omega]
      simp
theorem OwnD.set {w : World} {g n cap : Nat} {l : List C.Dt} (h : OwnD w (.slice (some ⟨g, 0, none⟩) n cap) l) (hn : n = l.length) (k : Nat) (x : C.Dt) :
    OwnD ((w.setCell ⟨g, k * 2, none⟩ (.int .i64 x.1)).setCell ⟨g, k * 2 + 1, none⟩ (.int .i64 x.2)) (.slice (some ⟨g, 0, none⟩) n cap) (l.set k x) := by
  subst hn
  have h1 := (World.ownsRow.stored h (k * 2) (.int .i64 x.1)).1
  have h2 := (World.ownsRow.stored h1 (k * 2 + 1) (.int .i64 x.2)).1
  unfold OwnD
  rw [List.length_set, rowD_set]
  exact h2
end Go.Proofs.Ytadafllhionhhaa
