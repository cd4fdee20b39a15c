/-
  name.Len: how many runes.
-/
import Derived.Test.YtdkndjenmnojhaaDoorProg
import Derived.Test.YtdkndjenmnojhaaDoorMath
import Derived.Lib.OthersKept
import Derived.WalkKit
import Derived.BigCall
namespace Go.Proofs.YtdkndjenmnojhaaDoor
open Go.RowKit
set_option linter.unusedVariables false

theorem ret_int {k : IntKind} {a b : Int} (h : a = b) : Ending.returned (.int k a) = .returned (.int k b) := by rw [h]
theorem ret_bool {a b : Bool} (h : a = b) : Ending.returned (.bool a) = .returned (.bool b) := by rw [h]
theorem size_list (s : ByteArray) : s.data.toList.length = s.size := by simp
theorem drop_ne {s : ByteArray} {pos : Nat} (h : pos < s.size) : s.data.toList.drop pos ≠ [] := by
  intro e
  have := congrArg List.length e
  rw [List.length_drop, size_list] at this
  simp at this; omega
theorem drop_nil {s : ByteArray} {pos : Nat} (h : ¬ pos < s.size) : s.data.toList.drop pos = [] := by
  apply List.drop_eq_nil_of_le
  rw [size_list]; omega
/-- The rune at a place, and where the next one begins. -/
theorem toks_at {s : ByteArray} {pos : Nat} (h : pos < s.size) :
    M.toks (s.data.toList.drop pos) = ((Utf8.decode s pos).1, (s.data.toList.drop pos).take (Utf8.decode s pos).2) :: M.toks (s.data.toList.drop (pos + (Utf8.decode s pos).2)) := by
  rw [M.decode_list, M.toks_cons _ (drop_ne h), List.drop_drop]
theorem width_at {s : ByteArray} {pos : Nat} (h : pos < s.size) : 1 ≤ (Utf8.decode s pos).2 ∧ pos + (Utf8.decode s pos).2 ≤ s.size := by
  rw [M.decode_list]
  have a := M.dec_width (s.data.toList.drop pos)
  have b := M.dec_width_le _ (drop_ne h)
  rw [List.length_drop, size_list] at b
  omega

set_option maxHeartbeats 400000 in
theorem len_any (s : ByteArray) (w : World) (hs : s.size ≤ maxLen) :
    Calls Tryd.prog 12 #[.string s] w fun e w' => e = .returned (.int .i64 ((M.toks s.data.toList).length : Nat)) ∧ Below w.heap.size w w' := by
  unfold maxLen at hs
  have htl := M.toks_length_le s.data.toList
  rw [size_list] at htl
  go_enter Tryd.func12, Tryd.ntmps12
  go_wp2
  go_loopw [3] (fun n wr => ∃ (pos k : Nat), wr.heap[w.heap.size]? = some (.stringIter s pos) ∧ Below w.heap.size w wr ∧ n = .int .i64 k ∧ k + (M.toks (s.data.toList.drop pos)).length = (M.toks s.data.toList).length) (fun _ wr => s.size - wr.iterPos w.heap.size)
  case atStart =>
    refine ⟨0, 0, ?_, (Below.refl _ w).alloc (Nat.le_refl _) _, rfl, by simp⟩
    have := World.iter_heap w s 0
    simpa using this
  case round =>
    obtain ⟨pos, k, hit, hbw, rfl, hk⟩ := hrel
    have hsz : w.heap.size < wr.heap.size := (Array.getElem?_eq_some_iff.1 hit).1
    by_cases hp : pos < s.size
    · have hnx : ∀ ty, (Instr.next (.pointer (some ⟨w.heap.size, 0, none⟩)) true ty).run Tryd.prog wr = _ := fun ty => Lib.run_next_any_at wr w.heap.size s pos ty hit hp
      have hwd := width_at hp
      have ht := congrArg List.length (toks_at hp)
      rw [List.length_cons] at ht
      have hit2 := Lib.iterAt_heap wr w.heap.size s pos (pos + (Utf8.decode s pos).2) hit
      have hbw2 := Lib.below_iterAt hbw (k := w.heap.size) (Nat.le_refl _) s (pos + (Utf8.decode s pos).2)
      go_wp2
      go_roundw
      case rel => exact ⟨pos + (Utf8.decode s pos).2, k + 1, hit2, hbw2, by go_num, by omega⟩
      case measure =>
        simp only [World.iterPos, hit2, hit]
        omega
    · have hnx : ∀ ty, (Instr.next (.pointer (some ⟨w.heap.size, 0, none⟩)) true ty).run Tryd.prog wr = _ := fun ty => Lib.run_next_end_at wr w.heap.size s pos ty hit hp
      rw [drop_nil hp] at hk
      go_wp2
      go_ret
      refine ⟨?_, hbw⟩
      rw [← hk]; simp [M.toks_nil]
end Go.Proofs.YtdkndjenmnojhaaDoor
