/-
  NameFolds' walk.
-/
import Derived.Test.YtdkndjenmnojhaaDoorKCuts
namespace Go.Proofs.YtdkndjenmnojhaaDoor
open Go.RowKit Go.Lib
set_option linter.unusedVariables false

theorem ascii_all {s : ByteArray} (h : ∀ j (hj : j < s.size), (s[j]'hj).toNat ≤ 126) : ∀ b ∈ s.data.toList, b.toNat ≤ 126 := by
  intro b hb
  obtain ⟨j, hj, rfl⟩ := List.getElem_of_mem hb
  have hj' : j < s.size := by rw [← size_list]; exact hj
  exact h j hj'

set_option maxHeartbeats 2000000 in
theorem folds_walk (s : ByteArray) (hs : s.size ≤ maxLen) (t : ByteArray) (ht : t.size ≤ maxLen) (w : World) (hT : Tabs w) :
    Calls Tryd.prog 8 #[.string s, .string t] w fun e w' => e = .returned (.bool true) ∧ Below w.heap.size w w' := by
  unfold maxLen at hs ht
  by_cases h1 : 100 < s.size
  · go_enter Tryd.func8, Tryd.ntmps8
    go_wp2_with fail
    refine (awake_any _ hT).mono ?_
    rintro e w1 ⟨rfl, h1⟩
    go_wp2
    go_ret
    exact ⟨rfl, h1⟩
  · by_cases h2 : 100 < t.size
    · go_enter Tryd.func8, Tryd.ntmps8
      go_wp2_with fail
      refine (awake_any _ hT).mono ?_
      rintro e w1 ⟨rfl, h1⟩
      go_wp2
      go_ret
      exact ⟨rfl, h1⟩
    · go_enter Tryd.func8, Tryd.ntmps8
      go_wp2_with fail
      refine (awake_any _ hT).mono ?_
      rintro e w1 ⟨rfl, b1⟩
      go_wp2
      go_loop [5] (fun i => ∃ k : Nat, k ≤ s.size ∧ i = .int .i64 k ∧ ∀ j (hj : j < s.size), j < k → (s[j]'hj).toNat ≤ 126) (fun i => s.size - (intOf i).toNat)
      case atStart => exact ⟨0, Nat.zero_le _, rfl, fun j _ h => by omega⟩
      case round =>
        obtain ⟨k, hk, rfl, hal⟩ := hrel
        by_cases hlt : k < s.size
        · by_cases hb : 126 < (s[k]'hlt).toNat
          · go_wp2
            go_ret
            exact ⟨rfl, b1⟩
          · go_wp2
            go_round
            case rel =>
              refine ⟨k + 1, by omega, by go_num, fun j hj hjk => ?_⟩
              by_cases e : j = k
              · subst e; omega
              · exact hal j hj (by omega)
            case measure => simp [intOf]; omega
        · have hall := ascii_all (s := s) fun j hj => hal j hj (by omega)
          clear hal
          obtain ⟨F, hF⟩ : ∃ F : ByteArray, M.fold s.data.toList = F.data.toList := ⟨⟨(M.fold s.data.toList).toArray⟩, by simp⟩
          obtain ⟨G, hG⟩ : ∃ F : ByteArray, M.fold t.data.toList = F.data.toList := ⟨⟨(M.fold t.data.toList).toArray⟩, by simp⟩
          have HFF : Hid (M.fold F.data.toList = F.data.toList) := by rw [← hF]; exact M.fold_fold _ hall
          have HJ : Hid (M.fold (s ++ t).data.toList = (F ++ G).data.toList) := by
            show M.fold _ = _
            rw [append_list, append_list, ← hF, ← hG]; exact M.fold_join _ _ hall
          obtain ⟨g, hg⟩ : ∃ g, M.good s.data.toList = g := ⟨_, rfl⟩
          have HGF : Hid (M.good F.data.toList = g) := by rw [← hF, ← hg]; exact M.good_fold _ hall
          have HG : Hid _ := hg
          have hFl : F.size ≤ 400 := by
            have := M.fold_length s.data.toList
            rw [hF, size_list, size_list] at this; omega
          have hGl : G.size ≤ 400 := by
            have := M.fold_length t.data.toList
            rw [hG, size_list, size_list] at this; omega
          have HF1 : Hid _ := hF
          have HG1 : Hid _ := hG
          clear hF hG hg hall
          go_wp2_with fail
          refine (fold_at s F _ (hT.below b1) (by omega) HF1.out).mono ?_
          rintro e w2 ⟨rfl, h2⟩
          have b2 := bt b1 h2
          go_wp2_with fail
          refine (good_at F g _ (hT.below b2) (by unfold maxLen; omega) HGF.out).mono ?_
          rintro e w3 ⟨rfl, h3⟩
          have b3 := bt b2 h3
          go_wp2_with fail
          refine (good_at s g _ (hT.below b3) (by unfold maxLen; omega) HG.out).mono ?_
          rintro e w4 ⟨rfl, h4⟩
          have b4 := bt b3 h4
          go_wp2_with fail
          refine (fold_at s F _ (hT.below b4) (by omega) HF1.out).mono ?_
          rintro e w5 ⟨rfl, h5⟩
          have b5 := bt b4 h5
          go_wp2_with fail
          refine (fold_at F F _ (hT.below b5) (by omega) HFF.out).mono ?_
          rintro e w6 ⟨rfl, h6⟩
          have b6 := bt b5 h6
          go_wp2_with fail
          refine (fold_at s F _ (hT.below b6) (by omega) HF1.out).mono ?_
          rintro e w7 ⟨rfl, h7⟩
          have b7 := bt b6 h7
          go_wp2_with fail
          refine (fold_at (s ++ t) (F ++ G) _ (hT.below b7) (by simp; omega) HJ.out).mono ?_
          rintro e w8 ⟨rfl, h8⟩
          have b8 := bt b7 h8
          go_wp2_with fail
          refine (fold_at s F _ (hT.below b8) (by omega) HF1.out).mono ?_
          rintro e w9 ⟨rfl, h9⟩
          have b9 := bt b8 h9
          go_wp2_with fail
          refine (fold_at t G _ (hT.below b9) (by omega) HG1.out).mono ?_
          rintro e w10 ⟨rfl, h10⟩
          go_wp2
          go_ret
          exact ⟨rfl, bt b9 h10⟩
end Go.Proofs.YtdkndjenmnojhaaDoor
