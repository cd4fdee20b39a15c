/-
  NameOrder's walk.
-/
import Derived.Test.YtdkndjenmnojhaaDoorWAwake
import Derived.Test.YtdkndjenmnojhaaDoorMath2
namespace Go.Proofs.YtdkndjenmnojhaaDoor
open Go.RowKit Go.Lib
set_option linter.unusedVariables false

/-- A text too long: the statement says true at once. -/
theorem order_long (a b c : ByteArray) (w : World) (hT : Tabs w) (h : 100 < a.size ∨ 100 < b.size ∨ 100 < c.size) (ha : a.size ≤ maxLen) (hb : b.size ≤ maxLen) (hc : c.size ≤ maxLen) :
    Calls Tryd.prog 6 #[.string a, .string b, .string c] w fun e w' => e = .returned (.bool true) ∧ Below w.heap.size w w' := by
  unfold maxLen at ha hb hc
  by_cases h1 : 100 < a.size
  · go_enter Tryd.func6, Tryd.ntmps6
    go_wp2_with fail
    refine (awake_any _ hT).mono ?_
    rintro e w1 ⟨rfl, h1⟩
    go_wp2
    go_ret
    exact ⟨rfl, h1⟩
  · by_cases h2 : 100 < b.size
    · go_enter Tryd.func6, Tryd.ntmps6
      go_wp2_with fail
      refine (awake_any _ hT).mono ?_
      rintro e w1 ⟨rfl, h1⟩
      go_wp2
      go_ret
      exact ⟨rfl, h1⟩
    · have h3 : 100 < c.size := by omega
      go_enter Tryd.func6, Tryd.ntmps6
      go_wp2_with fail
      refine (awake_any _ hT).mono ?_
      rintro e w1 ⟨rfl, h1⟩
      go_wp2
      go_ret
      exact ⟨rfl, h1⟩

set_option maxHeartbeats 2000000 in
theorem order_walk (a : ByteArray) (ha : a.size ≤ maxLen) (b : ByteArray) (hb : b.size ≤ maxLen) (c : ByteArray) (hc : c.size ≤ maxLen) (w : World) (hT : Tabs w) :
    Calls Tryd.prog 6 #[.string a, .string b, .string c] w fun e w' => e = .returned (.bool true) ∧ Below w.heap.size w w' := by
  by_cases hl : 100 < a.size ∨ 100 < b.size ∨ 100 < c.size
  · exact order_long a b c w hT hl ha hb hc
  · have la : a.size ≤ 100 := by omega
    have lb : b.size ≤ 100 := by omega
    have lc : c.size ≤ 100 := by omega
    clear hl
    obtain ⟨X, hX⟩ : ∃ X, M.cmpR (M.runes a.data.toList) (M.runes b.data.toList) = X := ⟨_, rfl⟩
    obtain ⟨Y, hY⟩ : ∃ X, M.cmpR (M.runes b.data.toList) (M.runes c.data.toList) = X := ⟨_, rfl⟩
    obtain ⟨Z, hZ⟩ : ∃ X, M.cmpR (M.runes a.data.toList) (M.runes c.data.toList) = X := ⟨_, rfl⟩
    have hX' : M.cmpR (M.runes b.data.toList) (M.runes a.data.toList) = -X := by rw [M.cmpR_swap, hX]
    have bX := M.cmpR_bd (M.runes a.data.toList) (M.runes b.data.toList)
    have bY := M.cmpR_bd (M.runes b.data.toList) (M.runes c.data.toList)
    have bZ := M.cmpR_bd (M.runes a.data.toList) (M.runes c.data.toList)
    have tr := M.cmpR_trans (M.runes a.data.toList) (M.runes b.data.toList) (M.runes c.data.toList)
    have sf := M.cmpR_self (M.runes a.data.toList)
    have fl := M.toks_fold_length a.data.toList
    have fb := M.fold_length a.data.toList
    rw [size_list] at fb
    have tl := M.toks_length_le a.data.toList
    rw [size_list] at tl
    rw [hX] at bX tr
    rw [hY] at bY tr
    rw [hZ] at bZ tr
    have HX : Hid _ := hX
    have HX' : Hid _ := hX'
    have HY : Hid _ := hY
    have HZ : Hid _ := hZ
    have SF : Hid _ := sf
    have FL : Hid _ := fl
    clear hX hX' hY hZ sf fl
    go_enter Tryd.func6, Tryd.ntmps6
    go_wp2_with fail
    refine (awake_any _ hT).mono ?_
    rintro e w1 ⟨rfl, h1⟩
    go_wp2_with fail
    refine (cmp_at a b X _ ha hb HX.out).mono ?_
    rintro e w2 ⟨rfl, h2⟩
    have b2 := bt h1 h2
    go_wp2_with fail
    refine (cmp_at b c Y _ hb hc HY.out).mono ?_
    rintro e w3 ⟨rfl, h3⟩
    have b3 := bt b2 h3
    go_wp2_with fail
    refine (cmp_at b a (-X) _ hb ha HX'.out).mono ?_
    rintro e w4 ⟨rfl, h4⟩
    have b4 := bt b3 h4
    clear h1 h2 h3 h4 b2 b3
    by_cases hx0 : 0 < X
    · clear tr
      go_wp2_with fail
      refine (cmp_at a a 0 _ ha ha SF.out).mono ?_
      rintro e w6 ⟨rfl, h6⟩
      have b6 := bt b4 h6
      go_wp2_with fail
      refine (fold_any a _ (hT.below b6) (by omega)).mono ?_
      rintro e w7 ⟨rfl, h7⟩
      have b7 := bt b6 h7
      go_wp2_with fail
      refine (len_at ⟨(M.fold a.data.toList).toArray⟩ (M.toks a.data.toList).length _ (by rw [← size_list]; unfold maxLen; simp; omega) (by have h := FL.out; show ((M.toks (M.fold a.data.toList)).length : Int) = _; rw [h])).mono ?_
      rintro e w8 ⟨rfl, h8⟩
      have b8 := bt b7 h8
      go_wp2_with fail
      refine (len_any a _ ha).mono ?_
      rintro e w9 ⟨rfl, h9⟩
      have b9 := bt b8 h9
      go_wp2
      go_ret
      exact ⟨rfl, b9⟩
    · by_cases hy0 : 0 < Y
      · clear tr
        go_wp2_with fail
        refine (cmp_at a a 0 _ ha ha SF.out).mono ?_
        rintro e w6 ⟨rfl, h6⟩
        have b6 := bt b4 h6
        go_wp2_with fail
        refine (fold_any a _ (hT.below b6) (by omega)).mono ?_
        rintro e w7 ⟨rfl, h7⟩
        have b7 := bt b6 h7
        go_wp2_with fail
        refine (len_at ⟨(M.fold a.data.toList).toArray⟩ (M.toks a.data.toList).length _ (by rw [← size_list]; unfold maxLen; simp; omega) (by have h := FL.out; show ((M.toks (M.fold a.data.toList)).length : Int) = _; rw [h])).mono ?_
        rintro e w8 ⟨rfl, h8⟩
        have b8 := bt b7 h8
        go_wp2_with fail
        refine (len_any a _ ha).mono ?_
        rintro e w9 ⟨rfl, h9⟩
        have b9 := bt b8 h9
        go_wp2
        go_ret
        exact ⟨rfl, b9⟩
      · have hz0 : Z ≤ 0 := tr (by omega) (by omega)
        clear tr
        go_wp2_with fail
        refine (cmp_at a c Z _ ha hc HZ.out).mono ?_
        rintro e w5 ⟨rfl, h5⟩
        have b5 := bt b4 h5
        go_wp2_with fail
        refine (cmp_at a a 0 _ ha ha SF.out).mono ?_
        rintro e w6 ⟨rfl, h6⟩
        have b6 := bt b5 h6
        go_wp2_with fail
        refine (fold_any a _ (hT.below b6) (by omega)).mono ?_
        rintro e w7 ⟨rfl, h7⟩
        have b7 := bt b6 h7
        go_wp2_with fail
        refine (len_at ⟨(M.fold a.data.toList).toArray⟩ (M.toks a.data.toList).length _ (by rw [← size_list]; unfold maxLen; simp; omega) (by have h := FL.out; show ((M.toks (M.fold a.data.toList)).length : Int) = _; rw [h])).mono ?_
        rintro e w8 ⟨rfl, h8⟩
        have b8 := bt b7 h8
        go_wp2_with fail
        refine (len_any a _ ha).mono ?_
        rintro e w9 ⟨rfl, h9⟩
        have b9 := bt b8 h9
        go_wp2
        go_ret
        exact ⟨rfl, b9⟩
end Go.Proofs.YtdkndjenmnojhaaDoor
