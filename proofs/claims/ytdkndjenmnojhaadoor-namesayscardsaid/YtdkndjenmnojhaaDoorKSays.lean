/-
  NameSays' walk: package name answers as the document's own reckoning does.
-/
import Derived.Test.YtdkndjenmnojhaaDoorWRef5
namespace Go.Proofs.YtdkndjenmnojhaaDoor
open Go.RowKit Go.Lib
set_option linter.unusedVariables false

theorem bytes_eq {u t : ByteArray} (h : u.data.toList = t.data.toList) : u = t := by
  cases u; cases t; simp only at h; simp [Array.toList_inj.1 h]
theorem rfold_at (s t : ByteArray) (w : World) (hT : Tabs w) (hs : s.size ≤ 1048576) (h : M.fold s.data.toList = t.data.toList) :
    Calls Tryd.prog 18 #[.string s] w fun e w' => e = .returned (.string t) ∧ Below w.heap.size w w' :=
  (rfold_any s w hT hs).mono fun e w' ⟨⟨u, hu, he⟩, hb⟩ => ⟨by rw [he, bytes_eq (hu.trans h)], hb⟩
theorem rcut_at (s t : ByteArray) (n : Int) (w : World) (hs : s.size ≤ 1048576) (hn : -9223372036854775808 ≤ n ∧ n ≤ 9223372036854775807) (h : M.cut s.data.toList n = t.data.toList) :
    Calls Tryd.prog 22 #[.string s, .int .i64 n] w fun e w' => e = .returned (.string t) ∧ Below w.heap.size w w' :=
  (rcut_any s n w hs hn).mono fun e w' ⟨⟨u, hu, he⟩, hb⟩ => ⟨by rw [he, bytes_eq (hu.trans h)], hb⟩

set_option maxHeartbeats 4000000 in
theorem says_walk (a : ByteArray) (ha : a.size ≤ maxLen) (b : ByteArray) (hb : b.size ≤ maxLen) (c : Int) (hc : (Lit.int .i32 c).wf = true) (n : Int) (hn : (Lit.int .i64 n).wf = true) (w : World) (hT : Tabs w) :
    Calls Tryd.prog 4 #[.string a, .string b, .int .i32 c, .int .i64 n] w fun e w' => e = .returned (.bool true) ∧ Below w.heap.size w w' := by
  have hn' := int_bd hn
  clear hn
  unfold maxLen at ha hb
  by_cases h1 : 200 < a.size
  · go_enter Tryd.func4, Tryd.ntmps4
    go_wp2_with fail
    refine (awake_any _ hT).mono ?_
    rintro e w1 ⟨rfl, h1⟩
    go_wp2
    go_ret
    exact ⟨rfl, h1⟩
  · by_cases h2 : 200 < b.size
    · go_enter Tryd.func4, Tryd.ntmps4
      go_wp2_with fail
      refine (awake_any _ hT).mono ?_
      rintro e w1 ⟨rfl, h1⟩
      go_wp2
      go_ret
      exact ⟨rfl, h1⟩
    · have tl := M.toks_length_le a.data.toList
      rw [size_list] at tl
      have hrl := M.runes_length a.data.toList
      have hpp := M.split_pos a.data.toList c
      have hpl := M.split_len a.data.toList c
      obtain ⟨A, eA⟩ : ∃ k, (M.toks a.data.toList).length = k := ⟨_, rfl⟩
      obtain ⟨G, eG⟩ : ∃ k, M.good a.data.toList = k := ⟨_, rfl⟩
      obtain ⟨C, eC⟩ : ∃ k, M.cmpR (M.runes a.data.toList) (M.runes b.data.toList) = k := ⟨_, rfl⟩
      obtain ⟨P, eP⟩ : ∃ k, M.split a.data.toList c = k := ⟨_, rfl⟩
      obtain ⟨F, eF⟩ : ∃ F : ByteArray, M.fold a.data.toList = F.data.toList := ⟨⟨(M.fold a.data.toList).toArray⟩, by simp⟩
      obtain ⟨T, eT⟩ : ∃ F : ByteArray, M.cut a.data.toList n = F.data.toList := ⟨⟨(M.cut a.data.toList n).toArray⟩, by simp⟩
      rw [eA] at tl hrl hpl
      rw [eP] at hpp hpl
      have EA : Hid _ := eA
      have EG : Hid _ := eG
      have EC : Hid _ := eC
      have EP : Hid _ := eP
      have EF : Hid _ := eF
      have ET : Hid _ := eT
      have HRL : Hid _ := hrl
      clear eA eG eC eP eF eT hrl
      go_enter Tryd.func4, Tryd.ntmps4
      go_wp2_with fail
      refine (awake_any _ hT).mono ?_
      rintro e w1 ⟨rfl, b1⟩
      go_wp2_with fail
      refine (runes_any a _ (by omega)).mono ?_
      rintro e w2 ⟨⟨v1, v2, rfl, o1, o2⟩, h2⟩
      have b2 := bt b1 h2
      rw [HRL.out] at o1 o2
      obtain ⟨a1, c1, rfl, hlc1, hmc1, -, -⟩ := rowI_open o1
      obtain ⟨a2, c2, rfl, hlc2, hmc2, -, -⟩ := rowI_open o2
      clear o1 o2 b1 h2
      go_wp2_with fail
      refine (good_at a G _ (hT.below b2) (by unfold maxLen; omega) EG.out).mono ?_
      rintro e w3 ⟨rfl, h3⟩
      have b3 := bt b2 h3
      go_wp2_with fail
      refine (rgood_any a _ (hT.below b3) (by omega)).mono ?_
      rw [EG.out]
      rintro e w4 ⟨rfl, h4⟩
      have b4 := bt b3 h4
      clear b2 b3 h3 h4
      go_wp2_with fail
      refine (len_at a A _ (by unfold maxLen; omega) (by rw [EA.out])).mono ?_
      rintro e w5 ⟨rfl, h5⟩
      have b5 := bt b4 h5
      go_wp2_with fail
      refine (fold_at a F _ (hT.below b5) (by omega) EF.out).mono ?_
      rintro e w6 ⟨rfl, h6⟩
      have b6 := bt b5 h6
      clear b4 b5 h5 h6
      go_wp2_with fail
      refine (rfold_at a F _ (hT.below b6) (by omega) EF.out).mono ?_
      rintro e w7 ⟨rfl, h7⟩
      have b7 := bt b6 h7
      go_wp2_with fail
      refine (cmp_at a b C _ (by unfold maxLen; omega) (by unfold maxLen; omega) EC.out).mono ?_
      rintro e w8 ⟨rfl, h8⟩
      have b8 := bt b7 h8
      clear b6 b7 h7 h8
      go_wp2_with fail
      refine (rcmp_any a b _ (by omega) (by omega)).mono ?_
      rw [EC.out]
      rintro e w9 ⟨rfl, h9⟩
      have b9 := bt b8 h9
      go_wp2_with fail
      refine (split_any a c _ (by omega)).mono ?_
      rw [EP.out]
      rintro e w10 ⟨⟨v3, rfl, o3⟩, h10⟩
      have b10 := bt b9 h10
      obtain ⟨g3, c3, rfl, hg3, hlc3, hmc3, hgl3, -, hx3⟩ := row_open o3 hpp
      clear o3 b8 b9 h9 h10
      have HX3 : Hid _ := hx3
      clear hx3
      go_wp2_with fail
      refine (rsplit_any a c _ (by omega)).mono ?_
      rw [EP.out]
      rintro e w11 ⟨⟨v4, rfl, o4⟩, h11⟩
      have b11 := bt b10 h11
      obtain ⟨g4, c4, rfl, hg4, hlc4, hmc4, hgl4, -, hx4⟩ := row_open o4 hpp
      have HX4 : Hid _ := hx4
      have HX5 : Hid (∀ j (hj : j < P.length), w11.cell? ⟨g3, j, none⟩ = some (strV P[j])) := fun j hj => (h11.cell (p := ⟨g3, j, none⟩) hgl3).trans (HX3.out j hj)
      clear o4 hx4 b10 h11
      go_wp2_with fail
      refine (texts_any P g3 c3 g4 c4 _ (by omega) hlc3 hlc4 hmc3 hmc4 HX5.out HX4.out).mono ?_
      rintro e w12 ⟨rfl, h12⟩
      have b12 := bt b11 h12
      clear b11 h12
      go_wp2_with fail
      refine (cut_at a T n _ (by omega) hn' ET.out).mono ?_
      rintro e w13 ⟨rfl, h13⟩
      have b13 := bt b12 h13
      go_wp2_with fail
      refine (rcut_at a T n _ (by omega) hn' ET.out).mono ?_
      rintro e w14 ⟨rfl, h14⟩
      have b14 := bt b13 h14
      go_wp2
      go_ret
      exact ⟨rfl, b14⟩
end Go.Proofs.YtdkndjenmnojhaaDoor
