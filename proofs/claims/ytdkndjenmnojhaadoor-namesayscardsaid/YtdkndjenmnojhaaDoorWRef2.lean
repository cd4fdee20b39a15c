/-
  The document's own reckoning (package rostrumref1): Cmp; the statements' own 'texts'.
-/
import Derived.Test.YtdkndjenmnojhaaDoorWRef1
namespace Go.Proofs.YtdkndjenmnojhaaDoor
open Go.RowKit Go.Lib
set_option linter.unusedVariables false

theorem cmpR_drop (x y : List Nat) (k : Nat) (hx : k < x.length) (hy : k < y.length) :
    M.cmpR (x.drop k) (y.drop k) = if x[k] = y[k] then M.cmpR (x.drop (k + 1)) (y.drop (k + 1)) else M.sgn x[k] y[k] := by
  rw [List.drop_eq_getElem_cons hx, List.drop_eq_getElem_cons hy]
  rfl
theorem cmpR_end (x y : List Nat) (k : Nat) (h : ¬ (k < x.length ∧ k < y.length)) (hk : k ≤ x.length ∧ k ≤ y.length) :
    M.cmpR (x.drop k) (y.drop k) = if x.length < y.length then -1 else if y.length < x.length then 1 else 0 := by
  by_cases hx : k < x.length
  · have hy : y.length ≤ k := by omega
    rw [List.drop_eq_getElem_cons hx, List.drop_eq_nil_of_le hy, if_neg (by omega), if_pos (by omega)]
    rfl
  · rw [List.drop_eq_nil_of_le (by omega : x.length ≤ k)]
    by_cases hy : k < y.length
    · rw [List.drop_eq_getElem_cons hy, if_pos (by omega)]; rfl
    · rw [List.drop_eq_nil_of_le (by omega : y.length ≤ k), if_neg (by omega), if_neg (by omega)]; rfl

set_option maxHeartbeats 4000000 in
theorem rcmp_any (a b : ByteArray) (w : World) (ha : a.size ≤ 1048576) (hb : b.size ≤ 1048576) :
    Calls Tryd.prog 19 #[.string a, .string b] w fun e w' => e = .returned (.int .i64 (M.cmpR (M.runes a.data.toList) (M.runes b.data.toList))) ∧ Below w.heap.size w w' := by
  have tla := M.toks_length_le a.data.toList
  have tlb := M.toks_length_le b.data.toList
  rw [size_list, ← M.runes_length] at tla tlb
  obtain ⟨X, hX⟩ : ∃ x, M.runes a.data.toList = x := ⟨_, rfl⟩
  obtain ⟨Y, hY⟩ : ∃ x, M.runes b.data.toList = x := ⟨_, rfl⟩
  rw [hX, hY]
  rw [hX] at tla
  rw [hY] at tlb
  have HX0 : Hid _ := hX
  have HY0 : Hid _ := hY
  clear hX hY
  go_enter Tryd.func19, Tryd.ntmps19
  go_wp2_with fail
  refine (runes_any a _ ha).mono ?_
  rintro e w1 ⟨⟨v1, v2, rfl, o1, o2⟩, h1⟩
  rw [HX0.out] at o1 o2
  obtain ⟨a2, c2, rfl, -, -, -, -⟩ := rowI_open o2
  obtain ⟨a1, c1, rfl, hlc1, hmc1, -, hx1⟩ := rowI_open o1
  clear o1 o2
  go_wp2_with fail
  refine (runes_any b _ hb).mono ?_
  rintro e w2 ⟨⟨v3, v4, rfl, o3, o4⟩, h2⟩
  rw [HY0.out] at o3 o4
  obtain ⟨a4, c4, rfl, -, -, -, -⟩ := rowI_open o4
  obtain ⟨a3, c3, rfl, hlc3, hmc3, -, hx3⟩ := rowI_open o3
  clear o3 o4
  have b2 := bt h1 h2
  go_wp2
  go_loopw [9] (fun i wr => ∃ k : Nat, k ≤ X.length ∧ k ≤ Y.length ∧ i = .int .i64 k ∧ (∃ q, wr = w2.drewN q) ∧ M.cmpR (X.drop k) (Y.drop k) = M.cmpR X Y) (fun i _ => X.length - (intOf i).toNat)
  case atStart => exact ⟨0, Nat.zero_le _, Nat.zero_le _, rfl, ⟨0, rfl⟩, by simp⟩
  case round =>
    obtain ⟨k, hkx, hky, rfl, ⟨q, rfl⟩, hc⟩ := hrel
    by_cases hin : k < X.length ∧ k < Y.length
    · obtain ⟨hlx, hly⟩ := hin
      obtain ⟨g1, rfl, -, hg1, hy1⟩ := hx1 (by omega)
      obtain ⟨g3, rfl, -, hg3, hy3⟩ := hx3 (by omega)
      have z1 : w2.cell? ⟨g1, k, none⟩ = some (.int .i32 (X[k] : Nat)) := (h2.cell (p := ⟨g1, k, none⟩) hg1).trans (hy1 k hlx)
      have z3 : w2.cell? ⟨g3, k, none⟩ = some (.int .i32 (Y[k] : Nat)) := hy3 k hly
      rw [cmpR_drop X Y k hlx hly] at hc
      have HC : Hid _ := hc
      clear hc hx1 hx3 hy1 hy3
      obtain ⟨x, hx⟩ : ∃ x, x = X[k] := ⟨_, rfl⟩
      obtain ⟨y, hy⟩ : ∃ x, x = Y[k] := ⟨_, rfl⟩
      rw [← hx] at z1
      rw [← hy] at z3
      have HX : Hid _ := hx
      have HY : Hid _ := hy
      clear hx hy
      by_cases hlt : x < y
      · go_wp2
        go_quiet (fail)
        go_wp2
        go_ret
        refine ⟨ret_int ?_, bdrewN (bdrewN b2 _) _⟩
        rw [← HC.out, ← HX.out, ← HY.out, if_neg (by omega), M.sgn, if_neg (by omega), if_pos (by omega)]
      · by_cases hgt : y < x
        · go_wp2
          go_quiet (fail)
          go_wp2
          go_quiet (fail)
          go_wp2
          go_ret
          refine ⟨ret_int ?_, bdrewN (bdrewN (bdrewN b2 _) _) _⟩
          rw [← HC.out, ← HX.out, ← HY.out, if_neg (by omega), M.sgn, if_neg (by omega), if_neg (by omega)]
        · go_wp2
          go_quiet (fail)
          go_wp2
          go_quiet (fail)
          go_wp2
          go_roundw
          case rel =>
            refine ⟨k + 1, by omega, by omega, by go_num, ⟨_, rfl⟩, ?_⟩
            rw [← HC.out, if_pos (by rw [← HX.out, ← HY.out]; omega)]
          case measure => simp [intOf]; omega
    · rw [cmpR_end X Y k hin ⟨hkx, hky⟩] at hc
      have HC : Hid _ := hc
      clear hx1 hx3 hc
      by_cases hlx : k < X.length
      · have hly : ¬ k < Y.length := by omega
        have e1 : ¬ X.length < Y.length := by omega
        have e2 : Y.length < X.length := by omega
        go_wp2
        go_ret
        refine ⟨ret_int ?_, bdrewN b2 _⟩
        rw [← HC.out, if_neg e1, if_pos e2]
      · by_cases hly : k < Y.length
        · have e1 : X.length < Y.length := by omega
          go_wp2
          go_ret
          refine ⟨ret_int ?_, bdrewN b2 _⟩
          rw [← HC.out, if_pos e1]
        · have e1 : ¬ X.length < Y.length := by omega
          have e2 : ¬ Y.length < X.length := by omega
          go_wp2
          go_ret
          refine ⟨ret_int ?_, bdrewN b2 _⟩
          rw [← HC.out, if_neg e1, if_neg e2]

/-- Two rows of texts, compared. -/
def M.same (x y : List (List UInt8)) : Bool := x == y
set_option maxHeartbeats 4000000 in
theorem texts_any (P : List (List UInt8)) (g1 c1 g2 c2 : Nat) (w : World) (hP : P.length ≤ 1048576) (hc1 : P.length ≤ c1) (hc2 : P.length ≤ c2) (hm1 : c1 ≤ maxLen) (hm2 : c2 ≤ maxLen)
    (h1 : ∀ j (hj : j < P.length), w.cell? ⟨g1, j, none⟩ = some (strV P[j])) (h2 : ∀ j (hj : j < P.length), w.cell? ⟨g2, j, none⟩ = some (strV P[j])) :
    Calls Tryd.prog 20 #[.slice (some ⟨g1, 0, none⟩) P.length c1, .slice (some ⟨g2, 0, none⟩) P.length c2] w fun e w' => e = .returned (.bool true) ∧ Below w.heap.size w w' := by
  go_enter Tryd.func20, Tryd.ntmps20
  go_wp2
  go_loopw [5] (fun i wr => ∃ k : Nat, k ≤ P.length ∧ i = .int .i64 k ∧ (∃ q, wr = w.drewN q)) (fun i _ => P.length - (intOf i).toNat)
  case atStart => exact ⟨0, Nat.zero_le _, rfl, ⟨0, rfl⟩⟩
  case round =>
    obtain ⟨k, hk, rfl, ⟨q, rfl⟩⟩ := hrel
    by_cases hlt : k < P.length
    · obtain ⟨p, hp⟩ : ∃ p : ByteArray, strV P[k] = .string p := ⟨_, rfl⟩
      have z1 := h1 k hlt
      have z2 := h2 k hlt
      rw [hp] at z1 z2
      clear h1 h2 hp
      go_wp2
      go_quiet (fail)
      go_wp2
      go_roundw
      case rel => exact ⟨k + 1, by omega, by go_num, ⟨_, rfl⟩⟩
      case measure => simp [intOf]; omega
    · clear h1 h2
      go_wp2
      go_ret
      exact ⟨rfl, bdrewN (Below.refl _ _) _⟩
end Go.Proofs.YtdkndjenmnojhaaDoor
