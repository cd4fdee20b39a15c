/-
  The document's own reckoning (package rostrumref1): Fold.
-/
import Derived.Test.YtdkndjenmnojhaaDoorWRef4
import Derived.Laws.Cover4
namespace Go.Proofs.YtdkndjenmnojhaaDoor
open Go.RowKit Go.Lib
set_option linter.unusedVariables false

theorem encode_list (r : Int) : (Utf8.encode r).data.toList = encodeRune r := by
  by_cases hv : (0 ≤ r ∧ r < 55296) ∨ (57344 ≤ r ∧ r ≤ 1114111)
  · have v : Utf8.valid r = true := by
      simp only [Utf8.valid, Bool.or_eq_true, Bool.and_eq_true, decide_eq_true_eq]; omega
    obtain ⟨c, rfl⟩ : ∃ c : Nat, r = c := ⟨r.toNat, by omega⟩
    unfold Utf8.encode encodeRune
    simp only [v, if_true, Int.toNat_natCast]
    by_cases h1 : c < 128
    · rw [if_pos h1, encodeRuneZ_one (by omega) (by omega)]; simp [Nat.toUInt8]
    · by_cases h2 : c < 2048
      · rw [if_neg h1, if_pos h2, encodeRuneZ_two (by omega) (by omega)]
        have a : (192 + (c : Int) / 64).toNat = 192 + c / 64 := by omega
        have b : (128 + (c : Int) % 64).toNat = 128 + c % 64 := by omega
        simp [Nat.toUInt8, a, b]
      · by_cases h3 : c < 65536
        · rw [if_neg h1, if_neg h2, if_pos h3, encodeRuneZ_three (by omega)]
          have a : (224 + (c : Int) / 4096).toNat = 224 + c / 4096 := by omega
          have b : (128 + (c : Int) / 64 % 64).toNat = 128 + c / 64 % 64 := by omega
          have d : (128 + (c : Int) % 64).toNat = 128 + c % 64 := by omega
          simp [Nat.toUInt8, a, b, d]
        · rw [if_neg h1, if_neg h2, if_neg h3, encodeRuneZ_four (by omega) (by omega)]
          have a : (240 + (c : Int) / 262144).toNat = 240 + c / 262144 := by omega
          have b : (128 + (c : Int) / 4096 % 64).toNat = 128 + c / 4096 % 64 := by omega
          have d : (128 + (c : Int) / 64 % 64).toNat = 128 + c / 64 % 64 := by omega
          have e : (128 + (c : Int) % 64).toNat = 128 + c % 64 := by omega
          simp [Nat.toUInt8, a, b, d, e]
  · have v : Utf8.valid r = false := by
      rw [Bool.eq_false_iff]
      simp only [Utf8.valid, ne_eq, Bool.or_eq_true, Bool.and_eq_true, decide_eq_true_eq]; omega
    unfold Utf8.encode encodeRune
    simp only [v, Bool.false_eq_true, if_false]
    rw [encodeRuneZ_bad (by omega)]
    decide
theorem runesBytes_list (ns : List Int) : (runesBytes ns).data.toList = ns.flatMap encodeRune := by
  unfold runesBytes
  suffices ∀ (ns : List Int) (b : ByteArray), (ns.foldl (fun r n => r ++ Utf8.encode n) b).data.toList = b.data.toList ++ ns.flatMap encodeRune by
    have := this ns ByteArray.empty
    simpa using this
  intro ns
  induction ns with
  | nil => intro b; simp
  | cons n t ih =>
    intro b
    rw [List.foldl_cons, ih, append_list, encode_list, List.flatMap_cons, List.append_assoc]

/-- The first k runes made small. -/
def M.lowd (R : List Nat) (k : Nat) : List Nat := (R.take k).map M.low ++ R.drop k
theorem M.lowd_length (R : List Nat) (k : Nat) : (M.lowd R k).length = R.length := by simp [M.lowd]; omega
theorem M.lowd_get (R : List Nat) (k : Nat) (h : k < R.length) : (M.lowd R k)[k]'(by rw [M.lowd_length]; exact h) = R[k] := by
  have e : (M.lowd R k)[k]? = some R[k] := by
    unfold M.lowd
    rw [List.getElem?_append_right (by simp; omega)]
    simp only [List.length_map, List.length_take, List.getElem?_drop]
    rw [show k + (k - min k R.length) = k by omega, List.getElem?_eq_getElem h]
  rw [List.getElem?_eq_getElem (by rw [M.lowd_length]; exact h)] at e
  exact Option.some.inj e
theorem M.lowd_set (R : List Nat) (k : Nat) (h : k < R.length) : (M.lowd R k).set k (M.low R[k]) = M.lowd R (k + 1) := by
  have hl : ((R.take k).map M.low).length = k := by simp; omega
  unfold M.lowd
  rw [List.set_append_right _ _ (by omega), hl, Nat.sub_self, List.drop_eq_getElem_cons h, List.take_succ_eq_append_getElem h, List.set_cons_zero, List.map_append, List.append_assoc]
  rfl
theorem ints_set (k : IntKind) (zs : List Nat) (j z : Nat) : (ints k zs).set j (.int k (z : Nat)) = ints k (zs.set j z) := by
  unfold ints; rw [List.map_set]
theorem lowd_all (R : List Nat) : M.lowd R R.length = R.map M.low := by simp [M.lowd]

set_option maxHeartbeats 4000000 in
theorem rfold_any (s : ByteArray) (w : World) (hT : Tabs w) (hs : s.size ≤ 1048576) :
    Calls Tryd.prog 18 #[.string s] w fun e w' => (∃ t : ByteArray, t.data.toList = M.fold s.data.toList ∧ e = .returned (.string t)) ∧ Below w.heap.size w w' := by
  have tl := M.toks_length_le s.data.toList
  rw [size_list, ← M.runes_length] at tl
  have hrv := M.runes_valid s.data.toList
  have hfl := M.foldR_low _ hrv
  have hfd : M.fold s.data.toList = M.foldR (M.runes s.data.toList) := rfl
  rw [hfd]
  clear hfd
  obtain ⟨R, hR⟩ : ∃ x, M.runes s.data.toList = x := ⟨_, rfl⟩
  rw [hR]
  rw [hR] at tl hrv hfl
  have HR : Hid _ := hR
  have HFL : Hid _ := hfl
  clear hR hfl
  go_enter Tryd.func18, Tryd.ntmps18
  go_wp2_with fail
  refine (runes_any s _ hs).mono ?_
  rintro e w1 ⟨⟨v1, v2, rfl, o1, o2⟩, h1⟩
  rw [HR.out] at o1 o2
  obtain ⟨a2, c2, rfl, -, -, -, -⟩ := rowI_open o2
  clear o2
  obtain ⟨a1, c1, rfl, hlc1, hmc1, -, hx1⟩ := rowI_open o1
  go_wp2
  go_loopw [5] (fun i wr => ∃ k : Nat, k ≤ R.length ∧ i = .int .i64 k ∧ Below w.heap.size w wr ∧ wr.ownsRow w.heap.size 21 1 (.slice a1 R.length c1) R.length (ints .i32 (M.lowd R k))) (fun i _ => R.length - (intOf i).toNat)
  case atStart => exact ⟨0, Nat.zero_le _, rfl, h1, by simpa [M.lowd] using o1⟩
  case round =>
    obtain ⟨k, hk, rfl, hbr, hown⟩ := hrel
    by_cases hlt : k < R.length
    · obtain ⟨g1, rfl, hgb, hg1, -⟩ := hx1 (by omega)
      have hrk := hrv R[k] (List.getElem_mem hlt)
      have z := hown.cellAt k (by omega)
      rw [ints, List.getElem?_map, List.getElem?_eq_getElem (by rw [M.lowd_length]; exact hlt), M.lowd_get R k hlt] at z
      simp only [Option.map_some] at z
      have hfr := hown.frozenAt k
      have hset := M.lowd_set R k hlt
      obtain ⟨r, hr⟩ : ∃ x, R[k] = x := ⟨_, rfl⟩
      rw [hr] at hrk z hset
      have hlc := M.low_cast r hrk.1 hrk.2
      have TR := hT.below hbr
      have HLC : Hid _ := hlc
      have HSET : Hid _ := hset
      clear hrv hr hlc hset o1 hx1
      go_wp2_with (go_at_call 26; go_must (refine (Tryd.unicode_ToLower_laid _ _ TR.cases).mono ?_); rintro e w3 ⟨rfl, q, rfl⟩)
      go_roundw
      case rel =>
        have hown2 : (wr.drewN q).ownsRow w.heap.size 21 1 (.slice (some ⟨g1, 0, none⟩) R.length c1) R.length (ints .i32 (M.lowd R k)) := hown
        have hst := (hown2.stored k (.int .i32 (toLowerU r))).1
        rw [← HLC.out, ints_set, HSET.out] at hst
        rw [← HLC.out]
        exact ⟨k + 1, by omega, by go_num, (bdrewN hbr q).setCell hgb _, hst⟩
      case measure => simp [intOf]; omega
    · obtain rfl : k = R.length := by omega
      rw [lowd_all] at hown
      clear o1 hx1 hrv
      rcases hown.2 with ⟨hv, hn⟩ | ⟨g, cap, cur, hv, -, -, -, -, -, -⟩
      · simp only [Value.slice.injEq] at hv
        obtain ⟨rfl, -, -⟩ := hv
        obtain rfl : R = [] := List.length_eq_zero_iff.1 hn
        have hcv := run_convert_runes_nil (P := Tryd.prog) wr 30 9 21 0 c1 Tryd.underlying30 Tryd.underlying21 Tryd.underlying9
        clear hown
        go_wp2
        go_ret
        exact ⟨⟨ByteArray.empty, rfl, rfl⟩, hbr⟩
      · simp only [Value.slice.injEq, true_and] at hv
        obtain ⟨rfl, rfl⟩ := hv
        have hcell : ∀ j, j < ((R.map M.low).map fun (z : Nat) => (z : Int)).length → wr.cell? ((⟨g, 0, none⟩ : Addr).add j) = some (.int .i32 (((R.map M.low).map fun (z : Nat) => (z : Int)).getD j 0)) := by
          intro j hj
          rw [List.length_map, List.length_map] at hj
          have z := hown.cellAt j (by omega)
          rw [Addr.add_lit, Nat.zero_add, z]
          simp only [ints, List.getD_eq_getElem?_getD, List.getElem?_map, List.getElem?_eq_getElem hj, Option.map_some, Option.getD_some]
        have hcv := run_convert_runes (P := Tryd.prog) wr 30 9 21 ⟨g, 0, none⟩ R.length c1 _ (by simp) Tryd.underlying30 Tryd.underlying21 Tryd.underlying9 hcell
        rw [List.take_of_length_le (by simp)] at hcv
        have hby := runesBytes_list ((R.map M.low).map fun (z : Nat) => (z : Int))
        obtain ⟨t, ht⟩ : ∃ x, runesBytes ((R.map M.low).map fun (z : Nat) => (z : Int)) = x := ⟨_, rfl⟩
        rw [ht] at hcv hby
        have HB : Hid _ := hby
        clear hown hcell hby ht
        go_wp2
        go_ret
        refine ⟨⟨t, ?_, rfl⟩, hbr⟩
        rw [HB.out, HFL.out, List.flatMap_map]
end Go.Proofs.YtdkndjenmnojhaaDoor
