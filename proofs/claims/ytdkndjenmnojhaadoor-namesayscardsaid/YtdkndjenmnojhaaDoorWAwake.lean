/-
  The statements' own look at the document's examples ('awake').
-/
import Derived.Test.YtdkndjenmnojhaaDoorWSplit
namespace Go.Proofs.YtdkndjenmnojhaaDoor
open Go.RowKit Go.Lib
set_option linter.unusedVariables false
set_option maxRecDepth 100000

theorem bt {A B C : World} (h : Below A.heap.size A B) (k : Below B.heap.size B C) : Below A.heap.size A C := h.trans (k.mono h.size)
theorem len_at (s : ByteArray) (n : Int) (w : World) (hs : s.size ≤ maxLen) (h : ((M.toks s.data.toList).length : Int) = n) :
    Calls Tryd.prog 12 #[.string s] w fun e w' => e = .returned (.int .i64 n) ∧ Below w.heap.size w w' :=
  (len_any s w hs).mono fun e w' ⟨he, hb⟩ => ⟨by rw [he, h], hb⟩
theorem good_at (s : ByteArray) (b : Bool) (w : World) (hT : Tabs w) (hs : s.size ≤ maxLen) (h : M.good s.data.toList = b) :
    Calls Tryd.prog 11 #[.string s] w fun e w' => e = .returned (.bool b) ∧ Below w.heap.size w w' :=
  (good_any s w hT hs).mono fun e w' ⟨he, hb⟩ => ⟨by rw [he, h], hb⟩
theorem fold_at (s t : ByteArray) (w : World) (hT : Tabs w) (hs : s.size ≤ 35184372088832) (h : M.fold s.data.toList = t.data.toList) :
    Calls Tryd.prog 13 #[.string s] w fun e w' => e = .returned (.string t) ∧ Below w.heap.size w w' :=
  (fold_any s w hT hs).mono fun e w' ⟨he, hb⟩ => ⟨by rw [he, h], hb⟩
theorem cmp_at (a b : ByteArray) (n : Int) (w : World) (ha : a.size ≤ maxLen) (hb : b.size ≤ maxLen) (h : M.cmpR (M.runes a.data.toList) (M.runes b.data.toList) = n) :
    Calls Tryd.prog 15 #[.string a, .string b] w fun e w' => e = .returned (.int .i64 n) ∧ Below w.heap.size w w' :=
  (cmp_any a b w ha hb).mono fun e w' ⟨he, hb⟩ => ⟨by rw [he, h], hb⟩
theorem cut_at (s t : ByteArray) (n : Int) (w : World) (hs : s.size ≤ 281474976710656) (hn : -9223372036854775808 ≤ n ∧ n ≤ 9223372036854775807) (h : M.cut s.data.toList n = t.data.toList) :
    Calls Tryd.prog 14 #[.string s, .int .i64 n] w fun e w' => e = .returned (.string t) ∧ Below w.heap.size w w' :=
  (cut_any s n w hs hn).mono fun e w' ⟨⟨u, hu, he⟩, hb⟩ => ⟨by
    rw [he]
    have : u = t := by
      have e1 : u.data.toList = t.data.toList := hu.trans h
      cases u; cases t; simp only at e1; simp [Array.toList_inj.1 e1]
    rw [this], hb⟩

set_option maxHeartbeats 1000000 in
theorem awake_any (w : World) (hT : Tabs w) : Calls Tryd.prog 9 #[] w fun e w' => e = .returned (.bool true) ∧ Below w.heap.size w w' := by
  go_enter Tryd.func9, Tryd.ntmps9
  go_wp2_with fail
  refine (len_at ⟨#[97, 195, 169]⟩ 2 _ (by decide) (by kernel_rfl)).mono ?_
  rintro e w1 ⟨rfl, h1⟩
  go_wp2_with fail
  refine (fold_at ⟨#[65, 98]⟩ ⟨#[97, 98]⟩ _ (hT.below h1) (by decide) (by kernel_rfl)).mono ?_
  rintro e w2 ⟨rfl, h2⟩
  have b2 := bt h1 h2
  go_wp2_with fail
  refine (good_at ⟨#[97, 110, 110, 45, 50]⟩ true _ (hT.below b2) (by decide) (by kernel_rfl)).mono ?_
  rintro e w3 ⟨rfl, h3⟩
  have b3 := bt b2 h3
  go_wp2_with fail
  refine (good_at ⟨#[50]⟩ false _ (hT.below b3) (by decide) (by kernel_rfl)).mono ?_
  rintro e w4 ⟨rfl, h4⟩
  have b4 := bt b3 h4
  go_wp2_with fail
  refine (cmp_at ⟨#[97]⟩ ⟨#[98]⟩ (-1) _ (by decide) (by decide) (by kernel_rfl)).mono ?_
  rintro e w5 ⟨rfl, h5⟩
  go_wp2
  go_ret
  exact ⟨rfl, bt b4 h5⟩
end Go.Proofs.YtdkndjenmnojhaaDoor
