/-
  NameCuts' walk.
-/
import Derived.Test.YtdkndjenmnojhaaDoorWAwake
import Derived.Test.YtdkndjenmnojhaaDoorMath2
namespace Go.Proofs.YtdkndjenmnojhaaDoor
open Go.RowKit Go.Lib
set_option linter.unusedVariables false

theorem int_bd {n : Int} (h : (Lit.int .i64 n).wf = true) : -9223372036854775808 ≤ n ∧ n ≤ 9223372036854775807 := by
  have := bounds_i64 h
  omega

theorem append_list (a b : ByteArray) : (a ++ b).data.toList = a.data.toList ++ b.data.toList := by
  rw [ByteArray.data_append, Array.toList_append]

set_option maxHeartbeats 2000000 in
theorem cuts_walk (s : ByteArray) (hs : s.size ≤ maxLen) (n : Int) (hn : (Lit.int .i64 n).wf = true) (w : World) (hT : Tabs w) :
    Calls Tryd.prog 7 #[.string s, .int .i64 n] w fun e w' => e = .returned (.bool true) ∧ Below w.heap.size w w' := by
  have hn' := int_bd hn
  unfold maxLen at hs
  by_cases h1 : 200 < s.size
  · go_enter Tryd.func7, Tryd.ntmps7
    go_wp2_with fail
    refine (awake_any _ hT).mono ?_
    rintro e w1 ⟨rfl, h1⟩
    go_wp2
    go_ret
    exact ⟨rfl, h1⟩
  · by_cases h2 : n < 0
    · go_enter Tryd.func7, Tryd.ntmps7
      go_wp2_with fail
      refine (awake_any _ hT).mono ?_
      rintro e w1 ⟨rfl, h1⟩
      go_wp2
      go_ret
      exact ⟨rfl, h1⟩
    · by_cases h3 : 200 < n
      · go_enter Tryd.func7, Tryd.ntmps7
        go_wp2_with fail
        refine (awake_any _ hT).mono ?_
        rintro e w1 ⟨rfl, h1⟩
        go_wp2
        go_ret
        exact ⟨rfl, h1⟩
      · go_enter Tryd.func7, Tryd.ntmps7
        go_wp2_with fail
        refine (awake_any _ hT).mono ?_
        rintro e w1 ⟨rfl, h1⟩
        go_wp2_with fail
        refine (cut_any s n _ (by omega) hn').mono ?_
        rintro e w2 ⟨⟨t, ht, rfl⟩, h2⟩
        have b2 := bt h1 h2
        have htl : t.size ≤ s.size := by
          have := M.cut_length s.data.toList n
          rw [← ht, size_list, size_list] at this; exact this
        have hrest : (s.extract t.size s.size).data.toList = s.data.toList.drop (M.cut s.data.toList n).length := by
          rw [extract_list, ← ht, size_list]
        have hjoin : ((t ++ s.extract t.size s.size).toList == s.toList) = true := by
          rw [Lib.toList_data, Lib.toList_data, beq_iff_eq, append_list, hrest, ht, M.cut_whole]
        have hcnt := M.cut_counts s.data.toList n
        have hgc := M.good_cut s.data.toList n
        rw [← hrest, ← ht] at hcnt
        rw [← ht] at hgc
        have tl := M.toks_length_le s.data.toList
        rw [size_list] at tl
        obtain ⟨A1, e1⟩ : ∃ k, (M.toks t.data.toList).length = k := ⟨_, rfl⟩
        obtain ⟨A2, e2⟩ : ∃ k, (M.toks (s.extract t.size s.size).data.toList).length = k := ⟨_, rfl⟩
        obtain ⟨A3, e3⟩ : ∃ k, (M.toks s.data.toList).length = k := ⟨_, rfl⟩
        rw [e1, e2, e3] at hcnt
        rw [e3] at tl
        have E1 : Hid _ := e1
        have E2 : Hid _ := e2
        have E3 : Hid _ := e3
        clear ht hrest e1 e2 e3
        go_wp2_with fail
        refine (len_at t A1 _ (by unfold maxLen; omega) (by rw [E1.out])).mono ?_
        rintro e w3 ⟨rfl, h3⟩
        have b3 := bt b2 h3
        go_wp2_with fail
        refine (len_at (s.extract t.size s.size) A2 _ (by unfold maxLen; simp; omega) (by rw [E2.out])).mono ?_
        rintro e w4 ⟨rfl, h4⟩
        have b4 := bt b3 h4
        go_wp2_with fail
        refine (len_at s A3 _ (by unfold maxLen; omega) (by rw [E3.out])).mono ?_
        rintro e w5 ⟨rfl, h5⟩
        have b5 := bt b4 h5
        have hsum : ((A1 : Int) + (A2 : Int) == (A3 : Int)) = true := by
          rw [beq_iff_eq]; omega
        have hA : A1 ≤ 200 ∧ A2 ≤ 200 := by omega
        clear h1 h2 h3 h4 h5 b2 b3 b4 hcnt
        cases hg : M.good s.data.toList with
        | false =>
          go_wp2_with fail
          refine (good_at s false _ (hT.below b5) (by unfold maxLen; omega) hg).mono ?_
          rintro e w6 ⟨rfl, h6⟩
          go_wp2
          go_ret
          exact ⟨rfl, bt b5 h6⟩
        | true =>
          rw [hg] at hgc
          by_cases hn1 : n < 1
          · clear hgc
            go_wp2_with fail
            refine (good_at s true _ (hT.below b5) (by unfold maxLen; omega) hg).mono ?_
            rintro e w6 ⟨rfl, h6⟩
            go_wp2
            go_ret
            exact ⟨rfl, bt b5 h6⟩
          · have hgt : Hid _ := hgc (by omega) rfl
            clear hgc
            go_wp2_with fail
            refine (good_at s true _ (hT.below b5) (by unfold maxLen; omega) hg).mono ?_
            rintro e w6 ⟨rfl, h6⟩
            have b6 := bt b5 h6
            go_wp2_with fail
            refine (good_at t true _ (hT.below b6) (by unfold maxLen; omega) hgt.out).mono ?_
            rintro e w7 ⟨rfl, h7⟩
            go_wp2
            go_ret
            exact ⟨rfl, bt b6 h7⟩
end Go.Proofs.YtdkndjenmnojhaaDoor
