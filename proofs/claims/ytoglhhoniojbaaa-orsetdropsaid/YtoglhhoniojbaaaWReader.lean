/-
  pack.Reader: as it lies; spoil, Bad, End, Num, take, Bytes, Text, Read.
-/
import Derived.Test.YtoglhhoniojbaaaWFirst
namespace Go.Proofs.Ytoglhhoniojbaaa
open Go.RowKit Go.Lib
set_option linter.unusedVariables false

/-- A block that holds no byte. -/
def NB (w : World) (g : Nat) : Prop := ∀ o x, w.cell? ⟨g, o, none⟩ ≠ some (.int .u8 x)
theorem BAt.grown {w w' : World} {p : Option Addr} {l : List UInt8} {g : Nat} (h : BAt w p l) (hg : w.grownBy w' (some g)) (hn : NB w g) : BAt w' p l := fun hl => by
  obtain ⟨b, o, hp, hc⟩ := h hl
  refine ⟨b, o, hp, fun i hi => ?_⟩
  refine World.grownBy.cell hg (hc i hi) ?_
  intro e
  cases e
  exact hn _ _ (hc i hi)
theorem Is.grown {w w' : World} {p : Option Addr} {n c : Nat} {l : List UInt8} {g : Nat} (h : Is w p n c l) (hg : w.grownBy w' (some g)) (hn : NB w g) : Is w' p n c l := ⟨h.1, h.2.1, h.2.2.grown hg hn⟩
theorem gtrans {A B C : World} {g : Nat} (h : A.grownBy B (some g)) (k : B.grownBy C (some g)) : A.grownBy C (some g) :=
  ⟨k.os.trans h.os, k.tape.trans h.tape, k.output.trans h.output, Nat.le_trans h.size k.size, fun i hi hne => (k.block i (Nat.lt_of_lt_of_le hi h.size) hne).trans (h.block i hi hne)⟩
theorem gbelow {A B : World} {r : Option Nat} (h : Below A.heap.size A B) : A.grownBy B r := ⟨h.os, h.tape, h.output, h.size, fun i hi _ => h.block i hi⟩
theorem set_grown (w : World) (g o : Nat) (v : Value) : w.grownBy (w.setCell ⟨g, o, none⟩ v) (some g) :=
  ⟨rfl, rfl, rfl, by simp [World.setCell], fun k hk hne => Below.heap_setCell _ _ _ _ (fun e => hne (by rw [e]))⟩
theorem set_block {w : World} {g o : Nat} {v : Value} {cs : Array Value} {t : TypeId} {m : Nat × Nat} (h : w.heap[g]? = some (.cells cs t m)) : (w.setCell ⟨g, o, none⟩ v).heap[g]? = some (.cells (cs.setIfInBounds o v) t m) := by
  simp [World.setCell, Array.getElem?_modify, h]
theorem rnum_all (s : Option (List UInt8)) (a b : Int) : C.rnum s a b = if (C.fst (s.getD [])).2 = 0 ∨ (C.fst (s.getD [])).1 < a ∨ b < (C.fst (s.getD [])).1 then (0, none) else ((C.fst (s.getD [])).1, some ((s.getD []).drop (C.fst (s.getD [])).2)) := by
  cases s with
  | none => simp only [C.rnum, Option.getD_none]; rw [if_pos (Or.inl (show (C.fst []).2 = 0 from rfl))]
  | some l => rfl
theorem Is.drop {w : World} {b o n c : Nat} {l : List UInt8} (h : Is w (some ⟨b, o, none⟩) n c l) (k c' : Nat) : Is w (some ⟨b, o + k, none⟩) (n - k) c' (l.drop k) := by
  refine ⟨by rw [List.length_drop, h.1], by have := h.2.1; simp only [List.length_drop] at *; omega, fun hl => ?_⟩
  simp only [List.length_drop] at hl
  obtain ⟨b', o', hp, hc⟩ := h.2.2 (show 0 < l.length by omega)
  cases hp
  refine ⟨b, o + k, rfl, fun i hi => ?_⟩
  simp only [List.length_drop] at hi
  rw [Nat.add_assoc, hc (k + i) (show k + i < l.length by omega)]
  simp [List.getD]
theorem Is.drop_all {w : World} {p : Option Addr} {n c : Nat} {l : List UInt8} (h : Is w p n c l) (k c' : Nat) (hk : n ≤ k) : Is w p (n - k) c' (l.drop k) := by
  have hl : l.drop k = [] := List.drop_of_length_le (by rw [← h.1]; exact hk)
  rw [hl]
  exact ⟨by simp; omega, Nat.zero_le _, BAt.nil _ _⟩
theorem Is.take {w : World} {p : Option Addr} {n c : Nat} {l : List UInt8} (h : Is w p n c l) (k c' : Nat) (hk : k ≤ n) : Is w p k c' (l.take k) := by
  refine ⟨by rw [List.length_take, ← h.1]; omega, by have := h.2.1; simp only [List.length_take] at *; omega, fun hl => ?_⟩
  simp only [List.length_take] at hl
  obtain ⟨b', o', hp, hc⟩ := h.2.2 (show 0 < l.length by omega)
  refine ⟨b', o', hp, fun i hi => ?_⟩
  simp only [List.length_take] at hi
  rw [hc i (show i < l.length by omega)]
  simp [List.getD, show i < k by omega]
theorem Is.addr {w : World} {p : Option Addr} {n c : Nat} {l : List UInt8} (h : Is w p n c l) (hn : 0 < n) : ∃ b o, p = some ⟨b, o, none⟩ := by
  obtain ⟨b, o, hp, _⟩ := h.2.2 (by rw [← h.1]; exact hn)
  exact ⟨b, o, hp⟩
end Go.Proofs.Ytoglhhoniojbaaa
