/-
  Plain Lean: what Split's parts are: pieces of the row of runes, none of them with the rune at which it is parted.
-/
import Derived.Test.YtdkndjenmnojhaaDoorMath2
namespace Go.Proofs.YtdkndjenmnojhaaDoor
namespace M
set_option linter.unusedVariables false
/-- Split, on the row of runes itself. -/
def splitT (c : Int) : List (Nat × List UInt8) → List (Nat × List UInt8) → List (List (Nat × List UInt8))
  | cur, [] => [cur]
  | cur, t :: ts => if (t.1 : Int) = c then cur :: splitT c [] ts else splitT c (cur ++ [t]) ts
theorem splitGo_flat (c : Int) : ∀ (ts cur : List (Nat × List UInt8)), splitGo c (flat cur) ts = (splitT c cur ts).map flat
  | [], cur => rfl
  | t :: ts, cur => by
    unfold splitGo splitT
    split
    · rw [List.map_cons, ← splitGo_flat c ts []]; rfl
    · rw [← splitGo_flat c ts (cur ++ [t]), flat_append]
      simp [flat]
theorem split_flat (l : List UInt8) (c : Int) : split l c = (splitT c [] (toks l)).map flat := splitGo_flat c (toks l) []
theorem splitT_infix (c : Int) (T : List (Nat × List UInt8)) : ∀ (ts cur pre : List (Nat × List UInt8)), pre ++ cur ++ ts = T → ∀ p ∈ splitT c cur ts, ∃ a b, a ++ p ++ b = T
  | [], cur, pre, h, p, hp => by
    simp [splitT] at hp; subst hp; exact ⟨pre, [], h⟩
  | t :: ts, cur, pre, h, p, hp => by
    unfold splitT at hp
    split at hp
    · rcases List.mem_cons.1 hp with rfl | hp
      · exact ⟨pre, t :: ts, h⟩
      · exact splitT_infix c T ts [] (pre ++ cur ++ [t]) (by rw [← h]; simp) p hp
    · exact splitT_infix c T ts (cur ++ [t]) pre (by rw [← h]; simp) p hp
theorem splitT_none (c : Int) : ∀ (ts cur : List (Nat × List UInt8)), (∀ t ∈ cur, (t.1 : Int) ≠ c) → ∀ p ∈ splitT c cur ts, ∀ t ∈ p, (t.1 : Int) ≠ c
  | [], cur, h, p, hp => by simp [splitT] at hp; subst hp; exact h
  | t :: ts, cur, h, p, hp => by
    unfold splitT at hp
    split at hp
    · rcases List.mem_cons.1 hp with rfl | hp
      · exact h
      · exact splitT_none c ts [] (by simp) p hp
    · rename_i hne
      refine splitT_none c ts (cur ++ [t]) ?_ p hp
      intro x hx
      rcases List.mem_append.1 hx with hx | hx
      · exact h x hx
      · simp at hx; subst hx; exact hne
theorem splitT_count (c : Int) : ∀ (ts cur : List (Nat × List UInt8)), ((splitT c cur ts).map List.length).sum + (splitT c cur ts).length = cur.length + ts.length + 1
  | [], cur => by simp [splitT]
  | t :: ts, cur => by
    unfold splitT
    split
    · have := splitT_count c ts []
      simp only [List.map_cons, List.sum_cons, List.length_cons, List.length_nil] at this ⊢
      omega
    · have := splitT_count c ts (cur ++ [t])
      simp only [List.length_append, List.length_cons, List.length_nil] at this ⊢
      omega
theorem toks_infix (l : List UInt8) (p a b : List (Nat × List UInt8)) (h : a ++ p ++ b = toks l) : toks (flat p) = p := by
  have e1 : (toks l).drop a.length = p ++ b := by rw [← h]; simp
  have e2 : toks (flat ((toks l).drop a.length)) = (toks l).drop a.length := toks_flat_drop l _
  have e3 := toks_flat_take (flat ((toks l).drop a.length)) p.length
  rw [e2, e1] at e3
  simpa using e3
/-- The parts' rows of runes. -/
theorem split_toks (l : List UInt8) (c : Int) : (split l c).map toks = splitT c [] (toks l) := by
  rw [split_flat, List.map_map]
  have e : (splitT c [] (toks l)).map (toks ∘ flat) = (splitT c [] (toks l)).map id := by
    apply List.map_congr_left
    intro p hp
    obtain ⟨a, b, hab⟩ := splitT_infix c (toks l) (toks l) [] [] rfl p hp
    exact toks_infix l p a b hab
  rw [e, List.map_id]
theorem split_none (l : List UInt8) (c : Int) (p : List UInt8) (hp : p ∈ split l c) : ∀ r ∈ runes p, (r : Int) ≠ c := by
  have hm : toks p ∈ splitT c [] (toks l) := by rw [← split_toks]; exact List.mem_map_of_mem hp
  intro r hr
  unfold runes at hr
  obtain ⟨t, ht, rfl⟩ := List.mem_map.1 hr
  exact splitT_none c (toks l) [] (by simp) _ hm t ht
theorem split_count (l : List UInt8) (c : Int) : ((split l c).map fun p => (toks p).length).sum + (split l c).length = (toks l).length + 1 := by
  have h := splitT_count c (toks l) []
  rw [← split_toks] at h
  rw [List.map_map, List.length_map] at h
  simpa [Function.comp_def] using h
theorem split_pos (l : List UInt8) (c : Int) : 1 ≤ (split l c).length := by
  have h := splitT_count c (toks l) []
  rw [split_flat, List.length_map]
  generalize toks l = ts at *
  clear h
  suffices ∀ ts cur, 1 ≤ (splitT c cur ts).length from this ts []
  intro ts
  induction ts with
  | nil => intro cur; simp [splitT]
  | cons t ts ih =>
    intro cur
    unfold splitT
    split
    · simp
    · exact ih _
theorem split_len (l : List UInt8) (c : Int) : (split l c).length ≤ (toks l).length + 1 := by
  have := split_count l c; omega
theorem part_length (l : List UInt8) (c : Int) (p : List UInt8) (hp : p ∈ split l c) : p.length ≤ l.length := by
  rw [split_flat] at hp
  obtain ⟨q, hq, rfl⟩ := List.mem_map.1 hp
  obtain ⟨a, b, hab⟩ := splitT_infix c (toks l) (toks l) [] [] rfl q hq
  have h := congrArg (fun x => (flat x).length) hab
  simp only [flat_append, List.length_append, flat_toks] at h
  omega
end M
end Go.Proofs.YtdkndjenmnojhaaDoor
