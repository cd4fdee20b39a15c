/-
  An argument that is a slice of structs whose fields are one cell each, opened; a slice of bytes opened, where it lies.
-/
import Derived.Test.YtnhplbdbgiimkaaGreatDoorZ6
import Derived.Deep.Slices
namespace Go.Proofs.YtnhplbdbgiimkaaGreatDoor
open Go.ChangeShapes Go.WideShapes Go.ChangeAt Go.RowKit Go.Lib
set_option linter.unusedVariables false

/-- Cell j of element i. -/
theorem openedStructs {H : Type} {enc : TypeId × Value → H} {P : Program} {t e : TypeId} {fs : Array Field} (m : Nat) (hm : 0 < m) (ht : P.underlying t = some (.slice e)) (he : P.underlying e = some (.struct fs)) (ce : P.cellsOf e = m) (hfs : ∀ (j : Nat) (f : Field), fs[j]? = some f → f.offset = j ∧ P.cellsOf f.type = 1) (hsz : fs.size = m) {W : World} {a0 : Option Addr} {len cap : Nat} {d0 : DataW H} {p : List MemPlace}
    (h0 : DataW.Trod enc P W 0 (fun _ => true) true t (.slice a0 len cap) d0 p) :
    len ≤ cap ∧ cap ≤ maxLen ∧ ∃ V : Nat → Nat → Value, (0 < len → ∃ b o, a0 = some ⟨b, o, none⟩ ∧ ∀ i j, i < len → j < m → W.cell? ⟨b, o + i * m + j, none⟩ = some (V i j)) ∧
      ∀ (i j : Nat) (f : Field), i < len → fs[j]? = some f → ∃ n y, DataW.trod enc P W 0 (fun _ => true) true n f.type [V i j] = some y := by
  obtain ⟨fuel, hf⟩ := h0
  rcases Go.Deep.open_slice ht hf with ⟨hcs, hx⟩ | ⟨a, len', cap', mm, n, D, Pl, hcs, _, hl, hmx, hmm, hx, hr⟩
  · simp [Value.cells] at hcs
    obtain ⟨rfl, rfl, rfl⟩ := hcs
    exact ⟨Nat.le_refl _, Nat.zero_le _, fun _ _ => .bool false, fun h => absurd h (Nat.lt_irrefl 0), fun i j f hi => absurd hi (Nat.not_lt_zero _)⟩
  · simp [Value.cells] at hcs
    obtain ⟨rfl, rfl, rfl⟩ := hcs
    simp only [if_true] at hmm
    subst hmm
    have each : ∀ i, i < len → ∃ q : List Value, (∀ j, j < m → W.cell? (a.add (i * m + j)) = some (q.getD j (.bool false))) ∧ ∀ (j : Nat) (f : Field), fs[j]? = some f → ∃ n y, DataW.trod enc P W 0 (fun _ => true) true n f.type [q.getD j (.bool false)] = some y := by
      intro i hi
      obtain ⟨cs', h1, h2⟩ := hr i (by omega)
      rw [ce] at h1
      obtain ⟨_, hlen, hcell⟩ := World.cells?_some h1
      obtain ⟨xs, k, hk, hxy, _, hxl, hff⟩ := DataW.trod_struct he h2
      refine ⟨cs', fun j hj => ?_, fun j f hj => ?_⟩
      · have := hcell j hj
        rw [Go.Deep.add_add] at this
        rw [this, List.getElem?_eq_getElem (by omega)]
        simp [List.getD, show j < cs'.length by omega]
      · have hjm : j < m := by have := (Array.getElem?_eq_some_iff.1 hj).1; omega
        have g := hff j f hj
        rw [(hfs j f hj).1, (hfs j f hj).2] at g
        have e1 : (cs'.drop j).take 1 = [cs'.getD j (.bool false)] := by
          rw [List.drop_eq_getElem_cons (by omega), List.take_succ_cons, List.take_zero]
          simp [List.getD, show j < cs'.length by omega]
        rw [e1] at g
        obtain ⟨y, hy⟩ : ∃ y, xs[j]? = some y := ⟨xs[j]'(by omega), List.getElem?_eq_getElem (by omega)⟩
        rw [hy] at g
        exact ⟨k, y, g⟩
    obtain ⟨q, hq⟩ := Go.Deep.choose_lt each
    refine ⟨hl, hmx, fun i j => (q i).getD j (.bool false), fun hlen => ?_, fun i j f hi hj => (hq i hi).2 j f hj⟩
    obtain ⟨b, o, s⟩ := a
    have h00 := (hq 0 hlen).1 0 hm
    obtain rfl : s = none := by simpa [Addr.add] using World.cell?_spot h00
    refine ⟨b, o, rfl, fun i j hi hj => ?_⟩
    have := (hq i hi).1 j hj
    rw [add_plain] at this
    rw [Nat.add_assoc]
    exact this
/-- A slice of bytes with room: where it lies. -/
theorem openedAt {H : Type} {enc : TypeId × Value → H} {P : Program} {t e : TypeId} (ht : P.underlying t = some (.slice e)) (he : P.underlying e = some (.int .u8)) (hc : P.cellsOf e = 1) {W : World} {a0 : Option Addr} {len cap : Nat} {d0 : DataW H} {p : List MemPlace}
    (h0 : DataW.Trod enc P W 0 (fun _ => true) true t (.slice a0 len cap) d0 p) (hcap : 0 < cap) : ∃ b o, a0 = some ⟨b, o, none⟩ := by
  obtain ⟨fuel, hf⟩ := h0
  rcases open_ints ht he hc hf with ⟨hcs, hx⟩ | ⟨a, len', cap', zs, hcs, _, hl, hm, hz, hx, hcell, hwz⟩
  · simp [Value.cells] at hcs
    omega
  · simp [Value.cells] at hcs
    obtain ⟨rfl, rfl, rfl⟩ := hcs
    simp only [if_true] at hz
    obtain ⟨b, o, s⟩ := a
    obtain rfl : s = none := by simpa [Addr.add] using World.cell?_spot (hcell 0 (by omega))
    exact ⟨b, o, rfl⟩
end Go.Proofs.YtnhplbdbgiimkaaGreatDoor
