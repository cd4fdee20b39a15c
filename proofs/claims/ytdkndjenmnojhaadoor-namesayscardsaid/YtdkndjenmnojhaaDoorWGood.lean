/-
  name.mayStand, name.Good.
-/
import Derived.Test.YtdkndjenmnojhaaDoorBase
import Derived.Test.YtdkndjenmnojhaaDoorWCmp
namespace Go.Proofs.YtdkndjenmnojhaaDoor
open Go.RowKit Go.Lib
set_option linter.unusedVariables false

set_option maxHeartbeats 1000000 in
theorem may_any (r : Nat) (first : Bool) (w : World) (hT : Tabs w) (hr : r ≤ 1114111) :
    Calls Tryd.prog 24 #[.int .i32 r, .bool first] w fun e w' => e = .returned (.bool (M.mayStand r first)) ∧ Below w.heap.size w w' := by
  cases first with
  | true =>
    go_enter Tryd.func24, Tryd.ntmps24
    go_wp2_with (go_at_call 30; refine (Tryd.unicode_IsLetter_all _ _ (by omega) (by omega) hT.props hT.letter).mono ?_; rintro e w1 ⟨rfl, hb1⟩)
    go_ret
    exact ⟨ret_bool (by simp [M.mayStand]), hb1⟩
  | false =>
    by_cases h45 : r = 45
    · subst h45
      go_enter Tryd.func24, Tryd.ntmps24
      go_wp2
      go_ret
      exact ⟨ret_bool (by simp [M.mayStand]), Below.refl _ _⟩
    · have h45' : ((r : Int) == 45) = false := by simp; omega
      cases hl : isLetterU (r : Int) with
      | true =>
        go_enter Tryd.func24, Tryd.ntmps24
        go_wp2_with (go_at_call 30; refine (Tryd.unicode_IsLetter_all _ _ (by omega) (by omega) hT.props hT.letter).mono ?_; rintro e w1 ⟨rfl, hb1⟩)
        go_ret
        exact ⟨ret_bool (by simp [M.mayStand, hl]), hb1⟩
      | false =>
        go_enter Tryd.func24, Tryd.ntmps24
        go_wp2_with (first
          | (go_at_call 30; refine (Tryd.unicode_IsLetter_all _ _ (by omega) (by omega) hT.props hT.letter).mono ?_; rintro e w1 ⟨rfl, hb1⟩)
          | (go_at_call 32; refine (Tryd.unicode_IsDigit_all _ _ (by omega) (by omega) (hT.below (by assumption)).digit).mono ?_; rintro e w2 ⟨rfl, hb2⟩))
        go_ret
        exact ⟨ret_bool (by simp [M.mayStand, hl, h45]), hb1.trans (hb2.mono hb1.size)⟩

theorem decode_max (s : ByteArray) (pos : Nat) : (Utf8.decode s pos).1 ≤ 1114111 := by rw [M.decode_list]; exact (M.dec_rune _).1

set_option maxHeartbeats 1000000 in
theorem good_any (s : ByteArray) (w : World) (hT : Tabs w) (hs : s.size ≤ maxLen) :
    Calls Tryd.prog 11 #[.string s] w fun e w' => e = .returned (.bool (M.good s.data.toList)) ∧ Below w.heap.size w w' := by
  unfold maxLen at hs
  go_enter Tryd.func11, Tryd.ntmps11
  go_wp2
  go_loopw [3] (fun n wr => ∃ (pos k : Nat), wr.heap[w.heap.size]? = some (.stringIter s pos) ∧ Below w.heap.size w wr ∧ n = .int .i64 k ∧ k ≤ 20 ∧ M.goodGo k (M.runes (s.data.toList.drop pos)) = M.good s.data.toList) (fun _ wr => s.size - wr.iterPos w.heap.size)
  case atStart =>
    refine ⟨0, 0, ?_, (Below.refl _ w).alloc (Nat.le_refl _) _, rfl, by omega, by simp [M.good]⟩
    have := World.iter_heap w s 0
    simpa using this
  case round =>
    obtain ⟨pos, k, hit, hbw, rfl, hk20, hk⟩ := hrel
    have hsz : w.heap.size < wr.heap.size := (Array.getElem?_eq_some_iff.1 hit).1
    by_cases hp : pos < s.size
    · have hnx : ∀ ty, (Instr.next (.pointer (some ⟨w.heap.size, 0, none⟩)) true ty).run Tryd.prog wr = _ := fun ty => Lib.run_next_any_at wr w.heap.size s pos ty hit hp
      have hwd := width_at hp
      have ht := runes_at hp
      have hmx := decode_max s pos
      have hit2 := Lib.iterAt_heap wr w.heap.size s pos (pos + (Utf8.decode s pos).2) hit
      have hbw2 := Lib.below_iterAt hbw (k := w.heap.size) (Nat.le_refl _) s (pos + (Utf8.decode s pos).2)
      rw [ht] at hk
      by_cases h20 : k = 20
      · subst h20
        go_wp2
        go_ret
        exact ⟨ret_bool (by rw [← hk]; simp [M.goodGo]), hbw2⟩
      · have h20' : ((k : Int) == 20) = false := by simp; omega
        have hk2 : (if M.mayStand (Utf8.decode s pos).1 (k == 0) then M.goodGo (k + 1) (M.runes (s.data.toList.drop (pos + (Utf8.decode s pos).2))) else false) = M.good s.data.toList := by
          rw [← hk]; simp [M.goodGo, h20]
        have H2 : Hid _ := hk2
        clear hk hk2
        by_cases hk0 : k = 0
        · subst hk0
          cases hm : M.mayStand (Utf8.decode s pos).1 true with
          | true =>
            go_wp2_with (go_at_call 24; refine (may_any (Utf8.decode s pos).1 true _ (hT.below hbw2) hmx).mono ?_; rintro e w1 ⟨rfl, hb1⟩)
            go_roundw
            case rel =>
              refine ⟨pos + (Utf8.decode s pos).2, 1, by rw [hb1.block _ (by rw [Lib.iterAt_size]; omega)]; exact hit2, hbw2.trans (hb1.mono (by rw [Lib.iterAt_size]; omega)), by go_num, by omega, ?_⟩
              rw [← H2.out]; simp [hm]
            case measure =>
              simp only [World.iterPos, hb1.block w.heap.size (by rw [Lib.iterAt_size]; omega), hit2, hit]
              omega
          | false =>
            go_wp2_with (go_at_call 24; refine (may_any (Utf8.decode s pos).1 true _ (hT.below hbw2) hmx).mono ?_; rintro e w1 ⟨rfl, hb1⟩)
            go_ret
            exact ⟨ret_bool (by rw [← H2.out]; simp [hm]), hbw2.trans (hb1.mono (by rw [Lib.iterAt_size]; omega))⟩
        · have hk0' : ((k : Int) == 0) = false := by simp; omega
          have hk0n : (k == 0) = false := by simp; omega
          cases hm : M.mayStand (Utf8.decode s pos).1 false with
          | true =>
            go_wp2_with (go_at_call 24; refine (may_any (Utf8.decode s pos).1 false _ (hT.below hbw2) hmx).mono ?_; rintro e w1 ⟨rfl, hb1⟩)
            go_roundw
            case rel =>
              refine ⟨pos + (Utf8.decode s pos).2, k + 1, by rw [hb1.block _ (by rw [Lib.iterAt_size]; omega)]; exact hit2, hbw2.trans (hb1.mono (by rw [Lib.iterAt_size]; omega)), by go_num, by omega, ?_⟩
              rw [← H2.out, hk0n]; simp [hm]
            case measure =>
              simp only [World.iterPos, hb1.block w.heap.size (by rw [Lib.iterAt_size]; omega), hit2, hit]
              omega
          | false =>
            go_wp2_with (go_at_call 24; refine (may_any (Utf8.decode s pos).1 false _ (hT.below hbw2) hmx).mono ?_; rintro e w1 ⟨rfl, hb1⟩)
            go_ret
            exact ⟨ret_bool (by rw [← H2.out, hk0n]; simp [hm]), hbw2.trans (hb1.mono (by rw [Lib.iterAt_size]; omega))⟩
    · have hnx : ∀ ty, (Instr.next (.pointer (some ⟨w.heap.size, 0, none⟩)) true ty).run Tryd.prog wr = _ := fun ty => Lib.run_next_end_at wr w.heap.size s pos ty hit hp
      rw [drop_nil hp] at hk
      go_wp2
      go_ret
      exact ⟨ret_bool (by rw [← hk]; simp [M.runes_nil, M.goodGo]), hbw⟩
end Go.Proofs.YtdkndjenmnojhaaDoor
