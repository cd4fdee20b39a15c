/-
  The document's own reckoning (package rostrumref1): Cut, Cmp, Split; the statements' own 'texts'.
-/
import Derived.Test.YtdkndjenmnojhaaDoorWRunes
import Derived.Test.YtdkndjenmnojhaaDoorKCuts
namespace Go.Proofs.YtdkndjenmnojhaaDoor
open Go.RowKit Go.Lib
set_option linter.unusedVariables false

theorem rowI_open {W : World} {base e n : Nat} {k : IntKind} {v : Value} {zs : List Nat} (h : W.ownsRow base e 1 v n (ints k zs)) :
    ∃ a cap, v = .slice a n cap ∧ n ≤ cap ∧ cap ≤ maxLen ∧ n = zs.length ∧ (0 < n → ∃ g, a = some ⟨g, 0, none⟩ ∧ base ≤ g ∧ g < W.heap.size ∧ ∀ j (hj : j < zs.length), W.cell? ⟨g, j, none⟩ = some (.int k (zs[j] : Nat))) := by
  obtain ⟨h1, h2⟩ := h
  rw [ints_length, Nat.mul_one] at h1
  rcases h2 with ⟨rfl, rfl⟩ | ⟨g, cap, cur, rfl, hg, hh, hc, hm, hcs, ht⟩
  · exact ⟨none, 0, rfl, Nat.le_refl _, Nat.zero_le _, h1.symm, fun h => by omega⟩
  · refine ⟨_, cap, rfl, hc, hm, h1.symm, fun _ => ⟨g, rfl, hg, (Array.getElem?_eq_some_iff.1 hh).1, fun j hj => ?_⟩⟩
    rw [cell_of_heap hh]
    have e : cur.toList[j]? = (ints k zs)[j]? := by rw [← ht, List.getElem?_take, if_pos (by omega)]
    rw [← Array.getElem?_toList, e, ints, List.getElem?_map, List.getElem?_eq_getElem hj]
    rfl

/-- Where the k-th rune begins. -/
def M.st (ts : List (Nat × List UInt8)) (k : Nat) : Nat := (M.flat (ts.take k)).length
theorem M.starts_get : ∀ (ts : List (Nat × List UInt8)) (p k : Nat), k < ts.length → (M.starts p ts)[k]? = some (p + M.st ts k)
  | [], _, _, h => by simp at h
  | t :: ts, p, 0, _ => by simp [M.starts, M.st, M.flat_nil]
  | t :: ts, p, k + 1, h => by
    simp only [M.starts, List.getElem?_cons_succ]
    rw [M.starts_get ts _ k (by simpa using h)]
    simp only [M.st, List.take_succ_cons, M.flat_cons, List.length_append]
    simp only [Option.some.injEq]; omega
theorem M.st_last (l : List UInt8) : M.st (M.toks l) (M.toks l).length = l.length := by
  unfold M.st; rw [List.take_length, M.flat_toks]
theorem M.runes_length (l : List UInt8) : (M.runes l).length = (M.toks l).length := by simp [M.runes]
/-- The row of the beginnings, and the end. -/
theorem M.at_get (l : List UInt8) (k : Nat) (h : k ≤ (M.toks l).length) (hk : k < (M.starts 0 (M.toks l) ++ [l.length]).length) : (M.starts 0 (M.toks l) ++ [l.length])[k] = M.st (M.toks l) k := by
  have hl := M.starts_length (M.toks l) 0
  apply Option.some.inj
  rw [← List.getElem?_eq_getElem hk]
  by_cases hlt : k < (M.toks l).length
  · rw [List.getElem?_append_left (by omega), M.starts_get _ _ _ hlt, Nat.zero_add]
  · obtain rfl : k = (M.toks l).length := by omega
    rw [List.getElem?_append_right (by omega), hl, M.st_last]
    simp
theorem M.st_le (l : List UInt8) (k : Nat) : M.st (M.toks l) k ≤ l.length := by
  have h := congrArg List.length (M.flat_append ((M.toks l).take k) ((M.toks l).drop k))
  rw [List.take_append_drop, M.flat_toks, List.length_append] at h
  unfold M.st; omega
theorem M.take_st (l : List UInt8) (k : Nat) : l.take (M.st (M.toks l) k) = M.flat ((M.toks l).take k) := (M.flat_take_prefix l k).symm
theorem M.st_mono (l : List UInt8) (k : Nat) (h : k < (M.toks l).length) : M.st (M.toks l) (k + 1) = M.st (M.toks l) k + ((M.toks l)[k].2).length := by
  unfold M.st
  rw [List.take_succ_eq_append_getElem h, M.flat_append, List.length_append]
  simp [M.flat]

set_option maxHeartbeats 1000000 in
theorem rcut_any (s : ByteArray) (n : Int) (w : World) (hs : s.size ≤ 1048576) (hn : -9223372036854775808 ≤ n ∧ n ≤ 9223372036854775807) :
    Calls Tryd.prog 22 #[.string s, .int .i64 n] w fun e w' => (∃ t : ByteArray, t.data.toList = M.cut s.data.toList n ∧ e = .returned (.string t)) ∧ Below w.heap.size w w' := by
  have hrl := M.runes_length s.data.toList
  have tl := M.toks_length_le s.data.toList
  rw [size_list] at tl
  go_enter Tryd.func22, Tryd.ntmps22
  go_wp2_with fail
  refine (runes_any s _ hs).mono ?_
  rintro e w1 ⟨⟨v1, v2, rfl, o1, o2⟩, h1⟩
  obtain ⟨a1, c1, rfl, -, -, -, -⟩ := rowI_open o1
  obtain ⟨a2, c2, rfl, hlc, hmc, -, hx2⟩ := rowI_open o2
  obtain ⟨g2, rfl, -, -, hx⟩ := hx2 (by omega)
  clear o1 o2 hx2
  rw [hrl] at hlc
  rw [hrl]
  clear hrl
  by_cases hn1 : n < 1
  · clear hx
    go_wp2
    go_ret
    refine ⟨⟨ByteArray.empty, ?_, rfl⟩, h1⟩
    rw [M.cut, show n.toNat = 0 by omega]
    rfl
  · by_cases hn2 : ((M.toks s.data.toList).length : Int) ≤ n
    · clear hx
      go_wp2
      go_ret
      refine ⟨⟨s, ?_, rfl⟩, h1⟩
      rw [M.cut, List.take_of_length_le (by omega), M.flat_toks]
    · obtain ⟨k, rfl⟩ : ∃ k : Nat, n = k := ⟨n.toNat, by omega⟩
      have hkl : k < (M.starts 0 (M.toks s.data.toList) ++ [s.size]).length := by rw [List.length_append, M.starts_length]; simp; omega
      have hxk := hx k hkl
      have hat := M.at_get s.data.toList k (by omega) (by rw [size_list]; exact hkl)
      simp only [size_list] at hat
      rw [hat] at hxk
      have hsl := M.st_le s.data.toList k
      rw [size_list] at hsl
      have hpre := prefix_list s (M.st (M.toks s.data.toList) k) hsl
      rw [M.take_st] at hpre
      have HPre : Hid _ := hpre
      clear hx hat hpre hkl
      generalize M.st (M.toks s.data.toList) k = q at *
      go_wp2
      go_ret
      refine ⟨⟨s.extract 0 q, ?_, rfl⟩, h1⟩
      rw [HPre.out, M.cut]; rfl
end Go.Proofs.YtdkndjenmnojhaaDoor
