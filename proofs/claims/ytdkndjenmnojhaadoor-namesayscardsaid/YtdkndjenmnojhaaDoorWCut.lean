/-
  strings.Clone, name.Cut.
-/
import Derived.Test.YtdkndjenmnojhaaDoorWFold
namespace Go.Proofs.YtdkndjenmnojhaaDoor
open Go.RowKit Go.Lib
set_option linter.unusedVariables false

theorem clone_any (s : ByteArray) (w : World) (hs : s.size ≤ 281474976710656) :
    Calls Tryd.prog 23 #[.string s] w fun e w' => e = .returned (.string s) ∧ Below w.heap.size w w' := by
  go_enter Tryd.func23, Tryd.ntmps23
  go_wp2_with (go_at_call 33; refine (Tryd.stringslite_Clone _ _ hs).mono ?_; rintro e w1 ⟨rfl, hb1⟩)
  go_ret
  exact ⟨rfl, hb1⟩

theorem prefix_list (s : ByteArray) (j : Nat) (h : j ≤ s.size) : (s.extract 0 j).data.toList = s.data.toList.take j := by
  rw [ByteArray.data_extract, Array.toList_extract]
  simp [List.extract_eq_take_drop]

theorem take_succ_of_drop {α : Type} {l r : List α} {k : Nat} {x : α} (h : l.drop k = x :: r) : l.take (k + 1) = l.take k ++ [x] := by
  rw [List.take_add, h]; rfl

set_option maxHeartbeats 1000000 in
theorem cut_any (s : ByteArray) (n : Int) (w : World) (hs : s.size ≤ 281474976710656) (hn : -9223372036854775808 ≤ n ∧ n ≤ 9223372036854775807) :
    Calls Tryd.prog 14 #[.string s, .int .i64 n] w fun e w' => (∃ t : ByteArray, t.data.toList = M.cut s.data.toList n ∧ e = .returned (.string t)) ∧ Below w.heap.size w w' := by
  go_enter Tryd.func14, Tryd.ntmps14
  go_wp2
  go_loopw [1] (fun v wr => ∃ (pos k : Nat) (m : Int), wr.heap[w.heap.size]? = some (.stringIter s pos) ∧ Below w.heap.size w wr ∧ v = .int .i64 m ∧ m = n - k ∧ (k = 0 ∨ (k : Int) ≤ n) ∧ pos ≤ s.size ∧ s.data.toList.take pos = M.flat ((M.toks s.data.toList).take k) ∧ M.toks (s.data.toList.drop pos) = (M.toks s.data.toList).drop k) (fun _ wr => s.size - wr.iterPos w.heap.size)
  case atStart =>
    refine ⟨0, 0, n, ?_, (Below.refl _ w).alloc (Nat.le_refl _) _, rfl, by simp, Or.inl rfl, Nat.zero_le _, by simp [M.flat_nil], by simp⟩
    have := World.iter_heap w s 0
    simpa using this
  case round =>
    obtain ⟨pos, k, m, hit, hbw, rfl, hm, hkn, hps, hpre, hsuf⟩ := hrel
    have hsz : w.heap.size < wr.heap.size := (Array.getElem?_eq_some_iff.1 hit).1
    by_cases hp : pos < s.size
    · have hnx : ∀ ty, (Instr.next (.pointer (some ⟨w.heap.size, 0, none⟩)) true ty).run Tryd.prog wr = _ := fun ty => Lib.run_next_any_at wr w.heap.size s pos ty hit hp
      have hwd := width_at hp
      have ht := toks_at hp
      have hit2 := Lib.iterAt_heap wr w.heap.size s pos (pos + (Utf8.decode s pos).2) hit
      have hbw2 := Lib.below_iterAt hbw (k := w.heap.size) (Nat.le_refl _) s (pos + (Utf8.decode s pos).2)
      have HM : Hid (m = n - k) := hm
      clear hm
      have HP : Hid _ := hpre
      have HS : Hid _ := hsuf
      have HT : Hid _ := ht
      clear hpre hsuf ht
      by_cases h1 : m < 1
      · go_wp2_with (go_at_call 23; refine (clone_any _ _ (by simp; omega)).mono ?_; rintro e w1 ⟨rfl, hb1⟩)
        go_ret
        refine ⟨⟨_, ?_, rfl⟩, hbw2.trans (hb1.mono (by rw [Lib.iterAt_size]; omega))⟩
        rw [prefix_list s pos hps, HP.out]
        have := HM.out
        have hk' : n.toNat = k := by omega
        rw [M.cut, hk']
      · have hmb : m ≤ 9223372036854775807 := by have := HM.out; omega
        go_wp2
        go_roundw
        case rel =>
          have h2 := HM.out
          have h3 := HT.out
          rw [HS.out] at h3
          refine ⟨pos + (Utf8.decode s pos).2, k + 1, m - 1, hit2, hbw2, by go_num, by omega, Or.inr (by omega), hwd.2, ?_, ?_⟩
          · rw [List.take_add, HP.out, take_succ_of_drop h3, M.flat_append]
            simp [M.flat]
          · have h4 : (M.toks s.data.toList).drop (k + 1) = ((M.toks s.data.toList).drop k).drop 1 := by rw [List.drop_drop]
            rw [h4, h3]; rfl
        case measure =>
          simp only [World.iterPos, hit2, hit]
          omega
    · have hnx : ∀ ty, (Instr.next (.pointer (some ⟨w.heap.size, 0, none⟩)) true ty).run Tryd.prog wr = _ := fun ty => Lib.run_next_end_at wr w.heap.size s pos ty hit hp
      go_wp2_with (go_at_call 23; refine (clone_any _ _ hs).mono ?_; rintro e w1 ⟨rfl, hb1⟩)
      go_ret
      refine ⟨⟨s, ?_, rfl⟩, hbw.trans (hb1.mono (by omega))⟩
      rw [drop_nil hp, M.toks_nil] at hsuf
      have hl : (M.toks s.data.toList).length ≤ k := by
        have := congrArg List.length hsuf
        simp at this; omega
      rw [M.cut, List.take_of_length_le (by omega), M.flat_toks]
end Go.Proofs.YtdkndjenmnojhaaDoor
