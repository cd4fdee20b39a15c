/-
  NameKnown's walk: the chapter's examples, one by one.
-/
import Derived.Test.YtdkndjenmnojhaaDoorWAwake
namespace Go.Proofs.YtdkndjenmnojhaaDoor
open Go.RowKit Go.Lib
set_option linter.unusedVariables false
set_option maxRecDepth 100000

/-- A row that is owned and not empty: its address, and what lies in its cells. -/
theorem row_open {W : World} {base n : Nat} {v : Value} {ps : List (List UInt8)} (h : W.ownsRow base 9 1 v n (strVs ps)) (hn : 0 < n) :
    ∃ g cap, v = .slice (some ⟨g, 0, none⟩) n cap ∧ base ≤ g ∧ n ≤ cap ∧ cap ≤ maxLen ∧ g < W.heap.size ∧ n = ps.length ∧ ∀ j (hj : j < ps.length), W.cell? ⟨g, j, none⟩ = some (strV ps[j]) := by
  obtain ⟨h1, h2⟩ := h
  rw [strVs_length, Nat.mul_one] at h1
  rcases h2 with ⟨_, rfl⟩ | ⟨g, cap, cur, rfl, hg, hh, hc, hm, hcs, ht⟩
  · omega
  · refine ⟨g, cap, rfl, hg, hc, hm, (Array.getElem?_eq_some_iff.1 hh).1, h1.symm, fun j hj => ?_⟩
    rw [cell_of_heap hh]
    have e : cur.toList[j]? = (strVs ps)[j]? := by rw [← ht, List.getElem?_take, if_pos (by omega)]
    rw [← Array.getElem?_toList, e, strVs, List.getElem?_map, List.getElem?_eq_getElem hj]
    rfl

set_option maxHeartbeats 4000000 in
theorem known_walk (w : World) (hT : Tabs w) : Calls Tryd.prog 3 #[] w fun e w' => e = .returned (.bool true) ∧ Below w.heap.size w w' := by
  go_enter Tryd.func3, Tryd.ntmps3
  go_wp2_with fail
  refine (awake_any _ hT).mono ?_
  rintro e w1 ⟨rfl, h1⟩
  go_wp2_with fail
  refine (split_any ⟨#[97, 44, 44, 98]⟩ 44 _ (by decide)).mono ?_
  rintro e w2 ⟨⟨v1, rfl, o1⟩, h2⟩
  have b2 := bt h1 h2
  have s1 : M.split (⟨#[97, 44, 44, 98]⟩ : ByteArray).data.toList 44 = [[97], [], [98]] := by kernel_rfl
  rw [s1] at o1
  obtain ⟨g1, c1, rfl, hg1, hc1, hm1, hl1, -, hx1⟩ := row_open o1 (by decide)
  clear s1 o1
  go_wp2_with fail
  refine (split_any ⟨#[]⟩ 44 _ (by decide)).mono ?_
  rintro e w3 ⟨⟨v2, rfl, o2⟩, h3⟩
  have b3 := bt b2 h3
  have s2 : M.split (⟨#[]⟩ : ByteArray).data.toList 44 = [[]] := by kernel_rfl
  rw [s2] at o2
  obtain ⟨g2, c2, rfl, hg2, hc2, hm2, hl2, -, hx2⟩ := row_open o2 (by decide)
  clear s2 o2
  have x10 := (h3.cell (p := ⟨g1, 0, none⟩) hl1).trans (hx1 0 (by decide))
  have x11 := (h3.cell (p := ⟨g1, 1, none⟩) hl1).trans (hx1 1 (by decide))
  have x12 := (h3.cell (p := ⟨g1, 2, none⟩) hl1).trans (hx1 2 (by decide))
  have x20 := hx2 0 (by decide)
  have hl1' : g1 < w3.heap.size := Nat.lt_of_lt_of_le hl1 h3.size
  clear hx1 hx2
  go_wp2_with fail
  refine (good_at ⟨#[]⟩ false _ (hT.below b3) (by decide) (by kernel_rfl)).mono ?_
  rintro e w4 ⟨rfl, h4⟩
  have b4 := bt b3 h4
  go_wp2_with fail
  refine (good_at ⟨#[195, 169, 217, 163]⟩ true _ (hT.below b4) (by decide) (by kernel_rfl)).mono ?_
  rintro e w5 ⟨rfl, h5⟩
  have b5 := bt b4 h5
  go_wp2_with fail
  refine (good_at ⟨#[97, 32, 98]⟩ false _ (hT.below b5) (by decide) (by kernel_rfl)).mono ?_
  rintro e w6 ⟨rfl, h6⟩
  have b6 := bt b5 h6
  go_wp2_with fail
  refine (good_at ⟨#[97, 255]⟩ false _ (hT.below b6) (by decide) (by kernel_rfl)).mono ?_
  rintro e w7 ⟨rfl, h7⟩
  have b7 := bt b6 h7
  go_wp2_with fail
  refine (good_at ⟨#[97, 239, 191, 189]⟩ false _ (hT.below b7) (by decide) (by kernel_rfl)).mono ?_
  rintro e w8 ⟨rfl, h8⟩
  have b8 := bt b7 h8
  go_wp2_with fail
  refine (good_at ⟨#[97, 98, 99, 100, 101, 102, 103, 104, 105, 106, 107, 108, 109, 110, 111, 112, 113, 114, 115, 116]⟩ true _ (hT.below b8) (by decide) (by kernel_rfl)).mono ?_
  rintro e w9 ⟨rfl, h9⟩
  have b9 := bt b8 h9
  go_wp2_with fail
  refine (good_at ⟨#[97, 98, 99, 100, 101, 102, 103, 104, 105, 106, 107, 108, 109, 110, 111, 112, 113, 114, 115, 116, 117]⟩ false _ (hT.below b9) (by decide) (by kernel_rfl)).mono ?_
  rintro e w10 ⟨rfl, h10⟩
  have b10 := bt b9 h10
  go_wp2_with fail
  refine (len_at ⟨#[255, 254]⟩ 2 _ (by decide) (by kernel_rfl)).mono ?_
  rintro e w11 ⟨rfl, h11⟩
  have b11 := bt b10 h11
  go_wp2_with fail
  refine (fold_at ⟨#[255]⟩ ⟨#[239, 191, 189]⟩ _ (hT.below b11) (by decide) (by kernel_rfl)).mono ?_
  rintro e w12 ⟨rfl, h12⟩
  have b12 := bt b11 h12
  go_wp2_with fail
  refine (cut_at ⟨#[97, 195, 169, 98]⟩ ⟨#[97, 195, 169]⟩ 2 _ (by decide) (by decide) (by kernel_rfl)).mono ?_
  rintro e w13 ⟨rfl, h13⟩
  have b13 := bt b12 h13
  go_wp2_with fail
  refine (cut_at ⟨#[97, 98]⟩ ⟨#[]⟩ (-1) _ (by decide) (by decide) (by kernel_rfl)).mono ?_
  rintro e w14 ⟨rfl, h14⟩
  have b14 := bt b13 h14
  go_wp2_with fail
  refine (cut_at ⟨#[97, 98]⟩ ⟨#[97, 98]⟩ 9 _ (by decide) (by decide) (by kernel_rfl)).mono ?_
  rintro e w15 ⟨rfl, h15⟩
  have b15 := bt b14 h15
  go_wp2_with fail
  refine (cmp_at ⟨#[97, 98]⟩ ⟨#[97]⟩ 1 _ (by decide) (by decide) (by kernel_rfl)).mono ?_
  rintro e w16 ⟨rfl, h16⟩
  have b16 := bt b15 h16
  go_wp2_with fail
  refine (cmp_at ⟨#[255]⟩ ⟨#[239, 191, 189]⟩ 0 _ (by decide) (by decide) (by kernel_rfl)).mono ?_
  rintro e w17 ⟨rfl, h17⟩
  have b17 := bt b16 h17
  have hend : Below w3.heap.size w3 w17 := (bt (bt (bt (bt (bt (bt (bt (bt (bt (bt (bt (bt (bt h4 h5) h6) h7) h8) h9) h10) h11) h12) h13) h14) h15) h16) h17)
  have y10 : w17.cell? ⟨g1, 0, none⟩ = some (.string ⟨#[97]⟩) := (hend.cell (p := ⟨g1, 0, none⟩) hl1').trans x10
  have y11 : w17.cell? ⟨g1, 1, none⟩ = some (.string ⟨#[]⟩) := (hend.cell (p := ⟨g1, 1, none⟩) hl1').trans x11
  have y12 : w17.cell? ⟨g1, 2, none⟩ = some (.string ⟨#[98]⟩) := (hend.cell (p := ⟨g1, 2, none⟩) hl1').trans x12
  have y20 : w17.cell? ⟨g2, 0, none⟩ = some (.string ⟨#[]⟩) := (hend.cell (p := ⟨g2, 0, none⟩) hl2).trans x20
  clear x10 x11 x12 x20
  go_wp2
  go_ret
  exact ⟨rfl, b17⟩
end Go.Proofs.YtdkndjenmnojhaaDoor
