/-
  name.head, cmp.Compare at runes, name.Cmp.
-/
import Derived.Test.YtdkndjenmnojhaaDoorWLen
import Derived.Deep.QuietTactic
import Derived.BigQuiet
import Derived.Lib.Strings
namespace Go.Proofs.YtdkndjenmnojhaaDoor
open Go.RowKit
set_option linter.unusedVariables false

theorem extract_list (s : ByteArray) (i : Nat) : (s.extract i s.size).data.toList = s.data.toList.drop i := by
  rw [ByteArray.data_extract, Array.toList_extract]
  simp only [List.extract_eq_take_drop]
  rw [List.take_of_length_le]
  rw [List.length_drop, size_list]
  exact Nat.le_refl _

set_option maxHeartbeats 400000 in
theorem compare_any (x y : Int) (w : World) :
    Calls Tryd.prog 29 #[.int .i32 x, .int .i32 y] w fun e w' => e = .returned (.int .i64 (M.sgn x y)) ∧ w' = w := by
  by_cases h : x = y
  · subst h
    go_enter Tryd.func29, Tryd.ntmps29
    go_wp2
    go_ret
    exact ⟨by simp [M.sgn], rfl⟩
  · by_cases h2 : x < y
    · go_enter Tryd.func29, Tryd.ntmps29
      go_wp2
      go_ret
      exact ⟨by simp [M.sgn, h, h2], rfl⟩
    · have h3 : y < x := by omega
      go_enter Tryd.func29, Tryd.ntmps29
      go_wp2
      go_ret
      exact ⟨by simp [M.sgn, h, h2], rfl⟩

set_option maxHeartbeats 400000 in
theorem head_any (s : ByteArray) (w : World) (hs : s.size ≤ maxLen) (h0 : 0 < s.size) :
    Calls Tryd.prog 28 #[.string s] w fun e w' => (∃ t : ByteArray, t.data.toList = s.data.toList.drop (Utf8.decode s 0).2 ∧ t.size ≤ s.size ∧ e = .returned (.tuple #[.int .i32 ((Utf8.decode s 0).1 : Nat), .string t])) ∧ Below w.heap.size w w' := by
  unfold maxLen at hs
  go_enter Tryd.func28, Tryd.ntmps28
  go_wp2
  go_loopw [2] (fun r wr => ∃ (pos : Nat), wr.heap[w.heap.size]? = some (.stringIter s pos) ∧ Below w.heap.size w wr ∧ ((pos = 0 ∧ r = .int .i32 0) ∨ (pos = (Utf8.decode s 0).2 ∧ r = .int .i32 ((Utf8.decode s 0).1 : Nat)))) (fun _ wr => s.size - wr.iterPos w.heap.size)
  case atStart =>
    refine ⟨0, ?_, (Below.refl _ w).alloc (Nat.le_refl _) _, Or.inl ⟨rfl, rfl⟩⟩
    have := World.iter_heap w s 0
    simpa using this
  case round =>
    obtain ⟨pos, hit, hbw, hr⟩ := hrel
    have hsz : w.heap.size < wr.heap.size := (Array.getElem?_eq_some_iff.1 hit).1
    have hw0 := width_at h0
    rcases hr with ⟨rfl, rfl⟩ | ⟨rfl, rfl⟩
    · have hnx : ∀ ty, (Instr.next (.pointer (some ⟨w.heap.size, 0, none⟩)) true ty).run Tryd.prog wr = _ := fun ty => Lib.run_next_any_at wr w.heap.size s 0 ty hit h0
      have hit2 := Lib.iterAt_heap wr w.heap.size s 0 (0 + (Utf8.decode s 0).2) hit
      have hbw2 := Lib.below_iterAt hbw (k := w.heap.size) (Nat.le_refl _) s (0 + (Utf8.decode s 0).2)
      rw [Nat.zero_add] at hnx hit2 hbw2
      go_wp2
      go_roundw
      case rel => exact ⟨(Utf8.decode s 0).2, hit2, hbw2, Or.inr ⟨rfl, rfl⟩⟩
      case measure =>
        simp only [World.iterPos, hit2, hit]
        omega
    · by_cases hp : (Utf8.decode s 0).2 < s.size
      · have hnx : ∀ ty, (Instr.next (.pointer (some ⟨w.heap.size, 0, none⟩)) true ty).run Tryd.prog wr = _ := fun ty => Lib.run_next_any_at wr w.heap.size s (Utf8.decode s 0).2 ty hit hp
        have hbw2 := Lib.below_iterAt hbw (k := w.heap.size) (Nat.le_refl _) s ((Utf8.decode s 0).2 + (Utf8.decode s (Utf8.decode s 0).2).2)
        generalize hd0 : (Utf8.decode s 0).2 = d0 at *
        have hgt : (0 : Int) < (d0 : Int) := by omega
        go_wp2
        go_region
        all_goals
          go_wp2
          go_ret2
          exact ⟨⟨s.extract d0 s.size, by rw [hd0]; exact extract_list s d0, by simp, rfl⟩, hbw2.drew⟩
      · have hnx : ∀ ty, (Instr.next (.pointer (some ⟨w.heap.size, 0, none⟩)) true ty).run Tryd.prog wr = _ := fun ty => Lib.run_next_end_at wr w.heap.size s (Utf8.decode s 0).2 ty hit hp
        go_wp2
        go_ret2
        refine ⟨⟨ByteArray.empty, ?_, Nat.zero_le _, rfl⟩, hbw⟩
        rw [drop_nil hp]; rfl

theorem not_empty {s : ByteArray} (h : 0 < s.size) : s.toList.isEmpty = false := by
  rw [Lib.toList_data]
  cases e : s.data.toList with
  | nil => have := size_list s; rw [e] at this; simp at this; omega
  | cons _ _ => rfl
theorem empty_list {b : ByteArray} (h : b.size = 0) : b.data.toList = [] := List.length_eq_zero_iff.1 (by rw [size_list]; exact h)
theorem runes_at {s : ByteArray} {pos : Nat} (h : pos < s.size) : M.runes (s.data.toList.drop pos) = (Utf8.decode s pos).1 :: M.runes (s.data.toList.drop (pos + (Utf8.decode s pos).2)) := by
  unfold M.runes; rw [toks_at h]; rfl

set_option maxHeartbeats 1000000 in
theorem cmp_any (a b : ByteArray) (w : World) (ha : a.size ≤ maxLen) (hb : b.size ≤ maxLen) :
    Calls Tryd.prog 15 #[.string a, .string b] w fun e w' => e = .returned (.int .i64 (M.cmpR (M.runes a.data.toList) (M.runes b.data.toList))) ∧ Below w.heap.size w w' := by
  unfold maxLen at ha hb
  go_enter Tryd.func15, Tryd.ntmps15
  go_wp2
  go_loopw [1] (fun v wr => ∃ (pos : Nat) (t : ByteArray), wr.heap[w.heap.size]? = some (.stringIter a pos) ∧ Below w.heap.size w wr ∧ v = .string t ∧ t.size ≤ b.size ∧ M.cmpR (M.runes (a.data.toList.drop pos)) (M.runes t.data.toList) = M.cmpR (M.runes a.data.toList) (M.runes b.data.toList)) (fun _ wr => a.size - wr.iterPos w.heap.size)
  case atStart =>
    refine ⟨0, b, ?_, (Below.refl _ w).alloc (Nat.le_refl _) _, rfl, Nat.le_refl _, by simp⟩
    have := World.iter_heap w a 0
    simpa using this
  case round =>
    obtain ⟨pos, t, hit, hbw, rfl, htb, hk⟩ := hrel
    have hsz : w.heap.size < wr.heap.size := (Array.getElem?_eq_some_iff.1 hit).1
    by_cases hp : pos < a.size
    · have hnx : ∀ ty, (Instr.next (.pointer (some ⟨w.heap.size, 0, none⟩)) true ty).run Tryd.prog wr = _ := fun ty => Lib.run_next_any_at wr w.heap.size a pos ty hit hp
      have hwd := width_at hp
      have ht := runes_at hp
      have hit2 := Lib.iterAt_heap wr w.heap.size a pos (pos + (Utf8.decode a pos).2) hit
      have hbw2 := Lib.below_iterAt hbw (k := w.heap.size) (Nat.le_refl _) a (pos + (Utf8.decode a pos).2)
      by_cases h0 : t.size = 0
      · obtain rfl : t = ByteArray.empty := ByteArray.size_eq_zero_iff.1 h0
        go_wp2
        go_ret
        refine ⟨?_, hbw2⟩
        rw [← hk, ht]
        rfl
      · have hne := not_empty (s := t) (by omega)
        have ht0 := runes_at (s := t) (pos := 0) (by omega)
        rw [List.drop_zero, Nat.zero_add] at ht0
        by_cases heq : (Utf8.decode a pos).1 = (Utf8.decode t 0).1
        · go_wp2_with (go_at_call 28; refine (head_any t _ (by unfold maxLen; omega) (by omega)).mono ?_; rintro e w1 ⟨⟨t2, ht2, hts, rfl⟩, hb1⟩)
          have hit3 : w1.heap[w.heap.size]? = some (.stringIter a (pos + (Utf8.decode a pos).2)) := by
            rw [hb1.block _ (by rw [Lib.iterAt_size]; omega)]; exact hit2
          refine ⟨⟨pos + (Utf8.decode a pos).2, t2, hit3, hbw2.trans (hb1.mono (by rw [Lib.iterAt_size]; omega)), rfl, by omega, ?_⟩, ?_⟩
          · rw [← hk, ht, ht0, ht2]
            simp only [M.cmpR, heq, if_true]
          · simp only [World.iterPos, hit3, hit]
            omega
        · go_wp2_with (first
            | (go_at_call 28; refine (head_any t _ (by unfold maxLen; omega) (by omega)).mono ?_; rintro e w1 ⟨⟨t2, ht2, hts, rfl⟩, hb1⟩)
            | (go_at_call 29; refine (compare_any _ _ _).mono ?_; rintro e w2 ⟨rfl, rfl⟩))
          go_ret
          refine ⟨ret_int ?_, hbw2.trans (hb1.mono (by rw [Lib.iterAt_size]; omega))⟩
          rw [← hk, ht, ht0]
          simp only [M.cmpR, if_neg heq]
    · have hnx : ∀ ty, (Instr.next (.pointer (some ⟨w.heap.size, 0, none⟩)) true ty).run Tryd.prog wr = _ := fun ty => Lib.run_next_end_at wr w.heap.size a pos ty hit hp
      rw [drop_nil hp] at hk
      by_cases h0 : t.size = 0
      · obtain rfl : t = ByteArray.empty := ByteArray.size_eq_zero_iff.1 h0
        go_wp2
        go_ret
        refine ⟨?_, hbw⟩
        rw [← hk]; rfl
      · have hne := not_empty (s := t) (by omega)
        have ht0 := runes_at (s := t) (pos := 0) (by omega)
        rw [List.drop_zero, Nat.zero_add] at ht0
        go_wp2
        go_ret
        refine ⟨?_, hbw⟩
        rw [← hk, ht0]; rfl
end Go.Proofs.YtdkndjenmnojhaaDoor
