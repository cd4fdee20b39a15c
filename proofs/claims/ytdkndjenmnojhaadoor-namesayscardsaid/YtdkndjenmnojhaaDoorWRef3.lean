/-
  The document's own reckoning (package rostrumref1): Split.
-/
import Derived.Test.YtdkndjenmnojhaaDoorWRef2
namespace Go.Proofs.YtdkndjenmnojhaaDoor
open Go.RowKit Go.Lib
set_option linter.unusedVariables false

theorem M.runes_get (l : List UInt8) (k : Nat) (h : k < (M.runes l).length) : (M.runes l)[k] = ((M.toks l)[k]'(by rw [← M.runes_length]; exact h)).1 := by
  simp [M.runes]
theorem M.tok_bytes (l : List UInt8) (k : Nat) (h : k < (M.toks l).length) : ((M.toks l)[k]).2 = (l.drop (M.st (M.toks l) k)).take ((M.toks l)[k].2).length := by
  have h1 := M.take_st l (k + 1)
  rw [M.st_mono l k h, List.take_add, M.take_st, List.take_succ_eq_append_getElem h, M.flat_append] at h1
  have h2 := List.append_cancel_left h1
  rw [h2]
  simp [M.flat]

set_option maxHeartbeats 4000000 in
theorem rsplit_any (s : ByteArray) (c : Int) (w : World) (hs : s.size ≤ 1048576) :
    Calls Tryd.prog 21 #[.string s, .int .i32 c] w fun e w' => (∃ v, e = .returned v ∧ w'.ownsRow w.heap.size 9 1 v (M.split s.data.toList c).length (strVs (M.split s.data.toList c))) ∧ Below w.heap.size w w' := by
  obtain ⟨i0, hi, hz0, hz1, hz2⟩ := info_parts info_str
  have tl := M.toks_length_le s.data.toList
  rw [size_list] at tl
  have hgetr := M.runes_get s.data.toList
  have hrl := M.runes_length s.data.toList
  have hatg := M.at_get s.data.toList
  have hstl := M.st_le s.data.toList
  have hstm := M.st_mono s.data.toList
  have htb := M.tok_bytes s.data.toList
  have hlast := M.st_last s.data.toList
  rw [size_list] at hlast
  simp only [size_list] at hatg hstl
  go_enter Tryd.func21, Tryd.ntmps21
  go_wp2_with fail
  refine (runes_any s _ hs).mono ?_
  rintro e w1 ⟨⟨v1, v2, rfl, o1, o2⟩, h1⟩
  obtain ⟨a1, c1, rfl, hlc1, hmc1, -, hx1⟩ := rowI_open o1
  obtain ⟨a2, c2, rfl, hlc2, hmc2, -, hx2⟩ := rowI_open o2
  obtain ⟨g2, rfl, -, hg2, hy2⟩ := hx2 (by omega)
  clear o1 o2 hx2
  rw [hrl] at hlc1 hlc2
  rw [hrl]
  obtain ⟨N, hN⟩ : ∃ x, (M.toks s.data.toList).length = x := ⟨_, rfl⟩
  rw [hN] at hlc1 hlc2 tl hlast
  rw [hN]
  have HA : Hid (∀ k, k ≤ N → w1.cell? ⟨g2, k, none⟩ = some (.int .i64 (M.st (M.toks s.data.toList) k : Nat))) := by
    intro k hk
    have hk2 : k < (M.starts 0 (M.toks s.data.toList) ++ [s.size]).length := by rw [List.length_append, M.starts_length, hN]; simp; omega
    rw [hy2 k hk2, hatg k (by omega) hk2]
  clear hy2 hatg
  go_wp2
  go_loopw [7, 8, 9] (fun v f i wr => ∃ (k fr : Nat) (ps : List (List UInt8)), k ≤ N ∧ f = .int .i64 fr ∧ i = .int .i64 k ∧ fr ≤ M.st (M.toks s.data.toList) k ∧ ps.length ≤ k ∧ Below w1.heap.size w1 wr ∧ wr.ownsRow w1.heap.size 9 1 v ps.length (strVs ps) ∧
      ps ++ M.splitGo c ((s.data.toList.drop fr).take (M.st (M.toks s.data.toList) k - fr)) ((M.toks s.data.toList).drop k) = M.split s.data.toList c) (fun _ _ i _ => N - (intOf i).toNat)
  case atStart => exact ⟨0, 0, [], Nat.zero_le _, rfl, rfl, Nat.zero_le _, Nat.le_refl _, Below.refl _ _, World.ownsRow_nil _ _ _ _, by simp [M.split, M.st, M.flat_nil]⟩
  case round =>
    obtain ⟨k, fr, ps, hk, rfl, rfl, hfk, hpl, hbr, hown, hsp⟩ := hrel
    have hsk := hstl k
    by_cases hlt : k < N
    · have hsk1 := hstl (k + 1)
      have hkl : k < (M.toks s.data.toList).length := by omega
      have hkr : k < (M.runes s.data.toList).length := by rw [hrl]; exact hkl
      obtain ⟨g1, rfl, -, hg1, hy1⟩ := hx1 (by omega)
      have z1 := hy1 k hkr
      rw [hgetr k hkr] at z1
      have q0 := HA.out k hk
      have q1 := HA.out (k + 1) (by omega)
      have hm := hstm k hkl
      have hb := htb k hkl
      rw [List.drop_eq_getElem_cons hkl] at hsp
      obtain ⟨T, hT⟩ : ∃ x, (M.toks s.data.toList)[k] = x := ⟨_, rfl⟩
      rw [hT] at z1 hm hb hsp
      obtain ⟨S0, hS0⟩ : ∃ x, M.st (M.toks s.data.toList) k = x := ⟨_, rfl⟩
      obtain ⟨S1, hS1⟩ : ∃ x, M.st (M.toks s.data.toList) (k + 1) = x := ⟨_, rfl⟩
      rw [hS0] at hm hb hsp hfk hsk q0
      rw [hS1] at hm hsk1 q1
      have zr : wr.cell? ⟨g1, k, none⟩ = some (.int .i32 (T.1 : Nat)) := (hbr.cell (p := ⟨g1, k, none⟩) hg1).trans z1
      have qr0 : wr.cell? ⟨g2, k, none⟩ = some (.int .i64 (S0 : Nat)) := (hbr.cell (p := ⟨g2, k, none⟩) hg2).trans q0
      have hml := middle_list s fr S0 hfk hsk
      have HSP : Hid _ := hsp
      have HB : Hid _ := hb
      have HS1 : Hid _ := hS1
      have hle : S0 ≤ S1 := by omega
      have HM : Hid _ := hm
      clear hsp hb hx1 hy1 z1 hS0 hS1 hT hkl hkr hm q0 hgetr hrl hstl hstm htb hlast
      by_cases heq : (T.1 : Int) = c
      · have heq' : ((T.1 : Int) == c) = true := by simpa using heq
        have hsb := hbr.size
        go_wp2_with (at_builtin; go_must (refine wpList_append_own _ rfl _ _ 23 rfl w1.heap.size 9 i0 (.string ⟨#[]⟩) 1 16 Tryd.underlying23 hi hz0 hz1 hz2 rfl (by decide) _ _ _ rfl (hown.alloc _) ⟨wr.heap.size, 0, none⟩ 1 1 [.string (s.extract fr S0)] rfl rfl (cell_one_new _ _ _) (one_str _) (by unfold maxLen; omega) (by omega) (by simp; omega) ?_); intro v' w2 hown3 hgrow _; have hb2 : Below w1.heap.size w1 w2 := (hbr.alloc hbr.size _).grown hgrow (by simp; omega) (row_ge hown); have qr1 : w2.cell? ⟨g2, k + 1, none⟩ = some (.int .i64 (S1 : Nat)) := (hb2.cell (p := ⟨g2, k + 1, none⟩) hg2).trans q1)
        go_roundw
        case rel =>
          have h1 := HS1.out
          refine ⟨k + 1, S1, ps ++ [(s.data.toList.drop fr).take (S0 - fr)], by omega, by go_num, by go_num, by omega, by simp; omega, hb2, ?_, ?_⟩
          · rw [strV_of hml] at hown3
            simpa [strVs] using hown3
          · rw [← HSP.out, h1]; simp [M.splitGo, heq]
        case measure => simp [intOf]; omega
      · have heq' : ((T.1 : Int) == c) = false := by simpa using heq
        clear qr0 q1
        go_wp2
        go_roundw
        case rel =>
          have h1 := HS1.out
          have h2 := HM.out
          refine ⟨k + 1, fr, ps, by omega, by go_num, by go_num, by omega, by omega, hbr, hown, ?_⟩
          rw [← HSP.out, h1]
          simp only [M.splitGo, if_neg heq]
          rw [HB.out, cur_grow s fr S0 _ hfk, h2]
        case measure => simp [intOf]; omega
    · obtain rfl : k = N := by omega
      rw [hlast] at hfk hsp
      rw [← hN, List.drop_length] at hsp
      have hml := extract_list s fr
      have HSP : Hid _ := hsp
      clear hsp hx1
      have hsb := hbr.size
      go_wp2_with (at_builtin; go_must (refine wpList_append_own _ rfl _ _ 23 rfl w1.heap.size 9 i0 (.string ⟨#[]⟩) 1 16 Tryd.underlying23 hi hz0 hz1 hz2 rfl (by decide) _ _ _ rfl (hown.alloc _) ⟨wr.heap.size, 0, none⟩ 1 1 [.string (s.extract fr s.size)] rfl rfl (cell_one_new _ _ _) (one_str _) (by unfold maxLen; omega) (by omega) (by simp; omega) ?_); intro v' w2 hown3 hgrow _)
      have hb2 : Below w1.heap.size w1 w2 := (hbr.alloc hbr.size _).grown hgrow (by simp; omega) (row_ge hown)
      rw [strV_of hml] at hown3
      go_wp2
      go_ret
      refine ⟨⟨_, rfl, ?_⟩, bt h1 hb2⟩
      rw [← HSP.out]
      refine ownsRow_weak (base := w1.heap.size) h1.size ?_
      have hcur : (s.data.toList.drop fr).take (s.size - fr) = s.data.toList.drop fr := by
        apply List.take_of_length_le
        rw [List.length_drop, size_list]; omega
      simpa [strVs, M.splitGo, hcur] using hown3
end Go.Proofs.YtdkndjenmnojhaaDoor
