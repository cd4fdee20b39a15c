/-
  A slice of dots as an argument.
-/
import Derived.Test.YtoglhhoniojbaaaZ1
import Derived.Test.YtoglhhoniojbaaaBStructs
namespace Go.Proofs.Ytoglhhoniojbaaa
open Go.RowKit Go.Lib
set_option linter.unusedVariables false

/-- Dots as they came in. -/
def ArgD (w : World) (p : Option Addr) (l : List C.Dt) : Prop := 0 < l.length → ∃ b o, p = some ⟨b, o, none⟩ ∧ ∀ i x, l[i]? = some x → w.cell? ⟨b, o + i * 2, none⟩ = some (.int .i64 x.1) ∧ w.cell? ⟨b, o + i * 2 + 1, none⟩ = some (.int .i64 x.2)
theorem ArgD.below {w w' : World} {p : Option Addr} {l : List C.Dt} (h : ArgD w p l) (hb : Below w.heap.size w w') : ArgD w' p l := fun hl => by
  obtain ⟨b, o, hp, hc⟩ := h hl
  refine ⟨b, o, hp, fun i x hx => ?_⟩
  obtain ⟨h1, h2⟩ := hc i x hx
  exact ⟨(hb.cell (p := ⟨b, o + i * 2, none⟩) (World.block_lt_of_cell? _ _ h1)).trans h1, (hb.cell (p := ⟨b, o + i * 2 + 1, none⟩) (World.block_lt_of_cell? _ _ h2)).trans h2⟩
/-- .. out of what 'openedStructs' hands. -/
theorem argD_of (w : World) (pa : Option Addr) (len : Nat) (V : Nat → Nat → Value) (hV : 0 < len → ∃ b o, pa = some ⟨b, o, none⟩ ∧ ∀ i j, i < len → j < 2 → w.cell? ⟨b, o + i * 2 + j, none⟩ = some (V i j)) (hI : ∀ i j, i < len → j < 2 → ∃ z, V i j = .int .i64 z ∧ (Lit.int .i64 z).wf = true) :
    ∃ l : List C.Dt, len = l.length ∧ ArgD w pa l := by
  refine ⟨(List.range len).map fun i => (intOf (V i 0), intOf (V i 1)), by simp, fun hl => ?_⟩
  simp only [List.length_map, List.length_range] at hl
  obtain ⟨b, o, hp, hc⟩ := hV hl
  refine ⟨b, o, hp, fun i x hx => ?_⟩
  have hi : i < len := by
    have := (List.getElem?_eq_some_iff.1 hx).1
    simpa using this
  simp only [List.getElem?_map, List.getElem?_range hi, Option.map_some, Option.some.injEq] at hx
  subst hx
  constructor
  · obtain ⟨z, hz, _⟩ := hI i 0 hi (by omega)
    have := hc i 0 hi (by omega)
    rw [hz] at this
    simp only [hz]
    exact this
  · obtain ⟨z, hz, _⟩ := hI i 1 hi (by omega)
    have := hc i 1 hi (by omega)
    rw [hz] at this
    simp only [hz]
    exact this
namespace C
def wasB (l : List Dt) (d : Dt) : Bool := may d && l.contains d
theorem was_snoc (l : List Dt) (x d : Dt) : wasB (l ++ [x]) d = (wasB l d || (may x && decide (x = d))) := by
  unfold wasB
  rw [Bool.eq_iff_iff]
  simp only [Bool.and_eq_true, Bool.or_eq_true, List.contains_iff_mem, List.mem_append, List.mem_singleton, decide_eq_true_eq]
  constructor
  · rintro ⟨a, b | rfl⟩
    · exact Or.inl ⟨a, b⟩
    · exact Or.inr ⟨a, rfl⟩
  · rintro (⟨a, b⟩ | ⟨a, rfl⟩)
    · exact ⟨a, Or.inl b⟩
    · exact ⟨a, Or.inr rfl⟩
theorem mem_was (l : List Dt) (d : Dt) : mem (addAll zeroS l) d = wasB l d := by
  rw [Bool.eq_iff_iff, all_mem d l zeroS zero_ok, zero_mem]
  unfold wasB
  simp
theorem lenM {s : Ds} (h : s.Ok) (d : Dt) : lenS (addM s d) = lenS s + if (may d && !mem s d) = true then 1 else 0 := by
  unfold addM
  cases hm : may d with
  | false => simp
  | true =>
    cases hd : mem s d with
    | true => simp [add_there h hm hd]
    | false => simp [add_lenS h hm hd]
theorem take_snoc {l : List Dt} {k : Nat} {x : Dt} (hx : l[k]? = some x) : l.take (k + 1) = l.take k ++ [x] := by
  rw [List.take_add_one, hx]; rfl
end C
end Go.Proofs.Ytoglhhoniojbaaa
