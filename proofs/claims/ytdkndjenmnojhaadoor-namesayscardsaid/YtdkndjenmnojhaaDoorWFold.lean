/-
  name.Fold.
-/
import Derived.Test.YtdkndjenmnojhaaDoorWGood
namespace Go.Proofs.YtdkndjenmnojhaaDoor
open Go.RowKit Go.Lib
set_option linter.unusedVariables false

theorem bdrewN {B : Nat} {a w : World} (h : Below B a w) (q : Nat) : Below B a (w.drewN q) := ⟨h.os, h.tape, h.output, h.size, h.block⟩
theorem decode_surr (s : ByteArray) (pos : Nat) : ¬ (55296 ≤ (Utf8.decode s pos).1 ∧ (Utf8.decode s pos).1 ≤ 57343) := by rw [M.decode_list]; exact (M.dec_rune _).2
/-- Of a row of the table: what lies within it becomes a rune that can be written. -/
def rowLow (x : CaseRow) : Bool :=
  decide (x.2.1 ≤ 1114110) && decide (x.1 ≤ x.2.1) &&
  ((decide (x.delta 1 > 1114111) && (decide (x.2.1 + 1 < 55296) || decide (57343 < x.1))) ||
   (decide (x.delta 1 ≤ 1114111) && decide (0 ≤ (x.1 : Int) + x.delta 1) && decide ((x.2.1 : Int) + x.delta 1 ≤ 1114111) && (decide ((x.2.1 : Int) + x.delta 1 < 55296) || decide (57343 < (x.1 : Int) + x.delta 1))))
set_option maxRecDepth 1000000 in
theorem rowsLow : caseT.all rowLow = true := by decide
theorem caseA_low (i : Nat) (hi : i < caseA.size) : rowLow (caseA.getD i (0, 0, 0, 0, 0)) = true := by
  have hm : caseA.getD i (0, 0, 0, 0, 0) ∈ caseT := by
    unfold caseA at hi ⊢
    simp only [List.size_toArray] at hi
    simp [Array.getD, hi]
  exact List.all_eq_true.1 rowsLow _ hm
/-- A rune made small is a rune. -/
theorem lower_valid (r : Nat) (h : r ≤ 1114111) (hs : ¬ (55296 ≤ r ∧ r ≤ 57343)) : 0 ≤ toLowerU r ∧ toLowerU r ≤ 1114111 ∧ ¬ (55296 ≤ toLowerU r ∧ toLowerU r ≤ 57343) := by
  unfold toLowerU
  split
  · split <;> omega
  · unfold toR lookupGo
    cases hi : lookupIdx caseA r (caseA.size + 1) 0 caseA.size with
    | none => simp only [Option.map_none]; omega
    | some i =>
      obtain ⟨hil, hlo, hhi⟩ := lookupIdx_some caseA r _ _ _ i hi
      have hrow := caseA_low i hil
      simp only [Option.map_some]
      generalize caseA.getD i (0, 0, 0, 0, 0) = x at hrow hlo hhi
      simp only [rowLow, Bool.and_eq_true, Bool.or_eq_true, decide_eq_true_eq] at hrow
      unfold convertR
      split <;> omega
theorem lower_range (r : Nat) (h : r ≤ 1114111) (hs : ¬ (55296 ≤ r ∧ r ≤ 57343)) : -2147483648 ≤ toLowerU r ∧ toLowerU r ≤ 2147483647 := by
  have := lower_valid r h hs
  omega

set_option maxHeartbeats 4000000 in
set_option maxRecDepth 1000000 in
theorem fold_any (s : ByteArray) (w : World) (hT : Tabs w) (hs : s.size ≤ 35184372088832) :
    Calls Tryd.prog 13 #[.string s] w fun e w' => e = .returned (.string ⟨(M.fold s.data.toList).toArray⟩) ∧ Below w.heap.size w w' := by
  go_enter Tryd.func13, Tryd.ntmps13
  go_wp2
  go_loopw [] (fun wr => ∃ (pos : Nat) (acc : List UInt8), Lib.IsBuilderF 44 5 w.heap.size w.heap.size (Lib.byteCells acc) wr ∧ wr.heap[w.heap.size + 1]? = some (.stringIter s pos) ∧ Below w.heap.size w wr ∧ acc ++ M.foldR (M.runes (s.data.toList.drop pos)) = M.fold s.data.toList ∧ acc.length ≤ 4 * pos) (fun wr => s.size - wr.iterPos (w.heap.size + 1))
  case atStart =>
    refine ⟨0, [], (Lib.IsBuilderF.of (Lib.fresh_isBuilder 44 5 w)).alloc _, ?_, ((Below.refl _ w).alloc (Nat.le_refl _) _).alloc (by simp) _, by simp [M.fold], by simp⟩
    have := World.iter_heap (w.alloc (.cells #[.pointer none, .slice none 0 0] 44)) s 0
    simpa using this
  case round =>
    obtain ⟨pos, acc, hI, hit, hbw, hacc, hal⟩ := hrel
    have hsz : w.heap.size + 1 < wr.heap.size := (Array.getElem?_eq_some_iff.1 hit).1
    by_cases hp : pos < s.size
    · have hnx : ∀ ty, (Instr.next (.pointer (some ⟨w.heap.size + 1, 0, none⟩)) true ty).run Tryd.prog wr = _ := fun ty => Lib.run_next_any_at wr (w.heap.size + 1) s pos ty hit hp
      have hwd := width_at hp
      have hmx := decode_max s pos
      have hlr := lower_range _ hmx (decode_surr s pos)
      have hI2 := hI.iterAt hit (pos + (Utf8.decode s pos).2)
      have hit2 := Lib.iterAt_heap wr (w.heap.size + 1) s pos (pos + (Utf8.decode s pos).2) hit
      have hbw2 := Lib.below_iterAt hbw (k := w.heap.size + 1) (by omega) s (pos + (Utf8.decode s pos).2)
      have hsz2 : w.heap.size ≤ (wr.iterAt (w.heap.size + 1) s (pos + (Utf8.decode s pos).2)).heap.size := by rw [Lib.iterAt_size]; omega
      have hI3 : ∀ q, Lib.IsBuilderF 44 5 w.heap.size w.heap.size (Lib.byteCells acc) ((wr.iterAt (w.heap.size + 1) s (pos + (Utf8.decode s pos).2)).drewN q) := fun q => hI2
      rw [runes_at hp] at hacc
      have HA : Hid _ := hacc
      clear hacc
      go_wp2_with (first
        | (go_at_call 26; refine (Tryd.unicode_ToLower_laid _ _ (hT.below hbw2).cases).mono ?_; rintro e w1 ⟨rfl, q, rfl⟩)
        | (go_at_call 25; refine (Tryd.Builder_WriteRune_k w.heap.size w.heap.size _ _ hlr.1 hlr.2 _ (hI3 q) (by rw [Lib.byteCells_length]; omega) hsz2).mono ?_; rintro e W1 ⟨rfl, h1, b1, k1⟩))
      have hit3 : W1.heap[w.heap.size + 1]? = some (.stringIter s (pos + (Utf8.decode s pos).2)) := k1.iter (k := w.heap.size + 1) hit2 (by omega)
      go_roundw
      case rel =>
        have hl4 := Lib.runeCells_le (toLowerU ((Utf8.decode s pos).1 : Int))
        rw [Lib.runeCells_length] at hl4
        refine ⟨pos + (Utf8.decode s pos).2, acc ++ Lib.encodeRune (toLowerU (Utf8.decode s pos).1), ?_, hit3, (bdrewN hbw2 q).trans b1, ?_, by simp; omega⟩
        · rw [Lib.byteCells_append, Lib.byteCells_encodeRune]; exact Or.inr h1
        · rw [← HA.out]; simp [M.foldR]
      case measure =>
        simp only [World.iterPos, hit3, hit]
        omega
    · have hnx : ∀ ty, (Instr.next (.pointer (some ⟨w.heap.size + 1, 0, none⟩)) true ty).run Tryd.prog wr = _ := fun ty => Lib.run_next_end_at wr (w.heap.size + 1) s pos ty hit hp
      go_wp2_with (go_at_call 27; refine (Tryd.Builder_String_any_k w.heap.size w.heap.size acc _ hI (by omega)).mono ?_)
      rintro e W1 ⟨rfl, _, b1, _⟩
      go_wp2
      go_ret
      rw [drop_nil hp, M.runes_nil] at hacc
      simp only [M.foldR, List.flatMap_nil, List.append_nil] at hacc
      subst hacc
      exact ⟨rfl, hbw.trans b1⟩
end Go.Proofs.YtdkndjenmnojhaaDoor
