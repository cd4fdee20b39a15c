/-
  The document's own reckoning (package rostrumref1): bad, GoodName.
-/
import Derived.Test.YtdkndjenmnojhaaDoorWRef3
namespace Go.Proofs.YtdkndjenmnojhaaDoor
open Go.RowKit Go.Lib
set_option linter.unusedVariables false

set_option maxHeartbeats 2000000 in
theorem bad_any (s : ByteArray) (g1 c1 g2 c2 n k r p q : Nat) (w : World) (hk : k < n) (hn : n ≤ 1048576) (hc1 : n ≤ c1) (hc2 : n + 1 ≤ c2) (hm1 : c1 ≤ maxLen) (hm2 : c2 ≤ maxLen) (hpq : p ≤ 1048576 ∧ q ≤ 1048576)
    (z : w.cell? ⟨g1, k, none⟩ = some (.int .i32 (r : Nat))) (y0 : w.cell? ⟨g2, k, none⟩ = some (.int .i64 (p : Nat))) (y1 : w.cell? ⟨g2, k + 1, none⟩ = some (.int .i64 (q : Nat))) :
    Calls Tryd.prog 31 #[.string s, .slice (some ⟨g1, 0, none⟩) n c1, .slice (some ⟨g2, 0, none⟩) (n + 1) c2, .int .i64 k] w fun e w' => (∃ b, e = .returned (.bool b) ∧ (b = true → r = 65533)) ∧ Below w.heap.size w w' := by
  by_cases hr : r = 65533
  · subst hr
    by_cases h1 : (q : Int) - (p : Int) = 1
    · go_enter Tryd.func31, Tryd.ntmps31
      go_wp2
      go_quiet (fail)
      go_wp2
      go_ret
      exact ⟨⟨_, rfl, fun _ => by simp⟩, bdrewN (Below.refl _ _) _⟩
    · go_enter Tryd.func31, Tryd.ntmps31
      go_wp2
      go_quiet (fail)
      go_wp2
      go_ret
      exact ⟨⟨_, rfl, fun _ => by simp⟩, bdrewN (Below.refl _ _) _⟩
  · have hr' : ((r : Int) == 65533) = false := by simp; omega
    go_enter Tryd.func31, Tryd.ntmps31
    go_wp2
    go_quiet (fail)
    go_wp2
    go_ret
    exact ⟨⟨false, rfl, fun h => by cases h⟩, bdrewN (Below.refl _ _) _⟩

theorem bad_none : isLetterU 65533 = false ∧ isDigitU 65533 = false := by
  constructor <;> kernel_rfl
theorem goodGo_long : ∀ (rs : List Nat) (c : Nat), c ≤ 20 → 20 < c + rs.length → M.goodGo c rs = false
  | [], c, h, k => by simp at k; omega
  | r :: t, c, h, k => by
    unfold M.goodGo
    by_cases h20 : c = 20
    · rw [if_pos h20]
    · rw [if_neg h20]
      split
      · exact goodGo_long t (c + 1) (by omega) (by simp at k; omega)
      · rfl
/-- May a rune stand anywhere in a name? -/
def stands (r : Nat) : Bool := isLetterU r || isDigitU r || (r == 45)
theorem stands_bad {r : Nat} (h : r = 65533) : stands r = false := by
  subst h
  unfold stands
  have e : ((65533 : Nat) : Int) = 65533 := rfl
  rw [e, bad_none.1, bad_none.2]; rfl
theorem stands_letter {r : Nat} (h : isLetterU (r : Int) = true) : stands r = true := by unfold stands; rw [h]; rfl
theorem stands_digit {r : Nat} (h : isDigitU (r : Int) = true) : stands r = true := by unfold stands; rw [h]; simp
theorem stands_dash {r : Nat} (h : r = 45) : stands r = true := by unfold stands; simp [h]
theorem stands_no {r : Nat} (h1 : isLetterU (r : Int) = false) (h2 : isDigitU (r : Int) = false) (h3 : ¬ r = 45) : stands r = false := by
  unfold stands; rw [h1, h2]; simpa using h3
theorem goodGo_cons (c r : Nat) (t : List Nat) : M.goodGo c (r :: t) = if c = 20 then false else if M.mayStand r (c == 0) then M.goodGo (c + 1) t else false := rfl
theorem goodGo_drop (rs : List Nat) (k : Nat) (h : k < rs.length) (hk : k < 20) (h0 : k = 0 → isLetterU (rs[k] : Nat) = true) :
    M.goodGo k (rs.drop k) = if stands rs[k] then M.goodGo (k + 1) (rs.drop (k + 1)) else false := by
  rw [List.drop_eq_getElem_cons h, goodGo_cons, if_neg (by omega)]
  have : M.mayStand rs[k] (k == 0) = stands rs[k] := by
    by_cases e : k = 0
    · subst e
      simp [M.mayStand, stands, h0 rfl]
    · have e' : (k == 0) = false := by simpa using e
      rw [e']
      unfold M.mayStand stands
      cases isLetterU (rs[k] : Nat) <;> cases isDigitU (rs[k] : Nat) <;> cases (rs[k] == 45) <;> rfl
  rw [this]

set_option maxHeartbeats 4000000 in
theorem rgood_any (s : ByteArray) (w : World) (hT : Tabs w) (hs : s.size ≤ 1048576) :
    Calls Tryd.prog 17 #[.string s] w fun e w' => e = .returned (.bool (M.good s.data.toList)) ∧ Below w.heap.size w w' := by
  have tl := M.toks_length_le s.data.toList
  rw [size_list, ← M.runes_length] at tl
  have hrv := M.runes_valid s.data.toList
  have hatg := M.at_get s.data.toList
  have hstl := M.st_le s.data.toList
  have hrl := M.runes_length s.data.toList
  simp only [size_list] at hatg hstl
  have hgd : M.good s.data.toList = M.goodGo 0 (M.runes s.data.toList) := rfl
  rw [hgd]
  clear hgd
  obtain ⟨R, hR⟩ : ∃ x, M.runes s.data.toList = x := ⟨_, rfl⟩
  rw [hR]
  rw [hR] at tl hrv hrl
  have HR : Hid _ := hR
  have HRL : Hid _ := hrl
  clear hR hrl
  go_enter Tryd.func17, Tryd.ntmps17
  go_wp2_with fail
  refine (runes_any s _ hs).mono ?_
  rintro e w1 ⟨⟨v1, v2, rfl, o1, o2⟩, h1⟩
  rw [HR.out] at o1 o2
  obtain ⟨a1, c1, rfl, hlc1, hmc1, -, hx1⟩ := rowI_open o1
  obtain ⟨a2, c2, rfl, hlc2, hmc2, -, hx2⟩ := rowI_open o2
  obtain ⟨g2, rfl, -, hg2, hy2⟩ := hx2 (by omega)
  clear o1 o2 hx2
  by_cases hn0 : R.length = 0
  · obtain rfl : R = [] := List.length_eq_zero_iff.1 hn0
    clear hx1 hy2 hatg
    go_wp2
    go_ret
    exact ⟨rfl, h1⟩
  · have hpos : 0 < R.length := by omega
    obtain ⟨g1, rfl, -, hg1, hy1⟩ := hx1 hpos
    have hr0 := hrv R[0] (List.getElem_mem hpos)
    have z0 := hy1 0 hpos
    clear hx1
    by_cases hn20 : 20 < R.length
    · have hlong : Hid _ := goodGo_long R 0 (by omega) (by omega)
      clear hy1 hy2 hatg hrv
      go_wp2
      go_ret
      exact ⟨ret_bool (by rw [hlong.out]), h1⟩
    · cases hl0 : isLetterU (R[0] : Nat) with
      | false =>
        have hno : Hid (M.goodGo 0 R = false) := by
          show M.goodGo 0 R = false
          have e : R = R[0] :: R.drop 1 := by
            have := List.drop_eq_getElem_cons (l := R) (i := 0) (by omega)
            simpa using this
          rw [e]
          simp [M.goodGo, M.mayStand, hl0]
        clear hy1 hy2 hatg hrv
        generalize R[0] = r0 at *
        go_wp2_with (go_at_call 30; go_must (refine (Tryd.unicode_IsLetter_all _ _ (by omega) (by omega) (hT.below h1).props (hT.below h1).letter).mono ?_); rintro e w2 ⟨rfl, h2⟩)
        go_ret
        exact ⟨ret_bool (by rw [hno.out]), bt h1 h2⟩
      | true =>
        have HA : Hid (∀ k, k ≤ R.length → w1.cell? ⟨g2, k, none⟩ = some (.int .i64 (M.st (M.toks s.data.toList) k : Nat))) := by
          intro k hk
          have hrl := HRL.out
          have hk2 : k < (M.starts 0 (M.toks s.data.toList) ++ [s.size]).length := by rw [List.length_append, M.starts_length]; simp; omega
          rw [hy2 k hk2, hatg k (by omega) hk2]
        have HL0 : Hid _ := hl0
        obtain ⟨r0, hr0e⟩ : ∃ x, R[0] = x := ⟨_, rfl⟩
        rw [hr0e] at z0 hr0 hl0
        have HY1 : Hid _ := hy1
        clear hy2 hatg hr0e hy1
        go_wp2_with (go_at_call 30; go_must (refine (Tryd.unicode_IsLetter_all _ _ (by omega) (by omega) (hT.below h1).props (hT.below h1).letter).mono ?_); rintro e w2 ⟨rfl, h2⟩)
        clear z0
        go_loopw [5] (fun i wr => ∃ k : Nat, k ≤ R.length ∧ i = .int .i64 k ∧ Below w1.heap.size w1 wr ∧ M.goodGo k (R.drop k) = M.goodGo 0 R) (fun i _ => R.length - (intOf i).toNat)
        case atStart => exact ⟨0, Nat.zero_le _, rfl, h2, by simp⟩
        case round =>
          obtain ⟨k, hk, rfl, hbr, hgo⟩ := hrel
          by_cases hlt : k < R.length
          · have hrk := hrv R[k] (List.getElem_mem hlt)
            have z1 := HY1.out k hlt
            have q0 := HA.out k hk
            have q1 := HA.out (k + 1) (by omega)
            have hs0 := hstl k
            have hs1 := hstl (k + 1)
            rw [goodGo_drop R k hlt (by omega) (fun e => by subst e; exact HL0.out)] at hgo
            obtain ⟨r, hr⟩ : ∃ x, R[k] = x := ⟨_, rfl⟩
            rw [hr] at hrk z1 hgo
            have zr := (hbr.cell (p := ⟨g1, k, none⟩) hg1).trans z1
            have qr0 := (hbr.cell (p := ⟨g2, k, none⟩) hg2).trans q0
            have qr1 := (hbr.cell (p := ⟨g2, k + 1, none⟩) hg2).trans q1
            have HGO : Hid _ := hgo
            clear hgo z1 q0 q1 hr hrv
            go_wp2_with fail
            refine (bad_any s g1 c1 g2 c2 R.length k r _ _ _ hlt (by omega) hlc1 hlc2 hmc1 hmc2 ⟨by omega, by omega⟩ zr qr0 qr1).mono ?_
            rintro e w3 ⟨⟨b, rfl, hb⟩, h3⟩
            have hb3 : Below w1.heap.size w1 w3 := hbr.trans (h3.mono hbr.size)
            have z3 := (h3.cell (p := ⟨g1, k, none⟩) (Nat.lt_of_lt_of_le hg1 hbr.size)).trans zr
            clear zr qr0 qr1
            have T3 := (hT.below h1).below hb3
            cases b with
            | true =>
              have hst := stands_bad (hb rfl)
              clear hb
              go_wp2
              go_ret
              exact ⟨ret_bool (by rw [← HGO.out, hst]; rfl), bt h1 hb3⟩
            | false =>
              clear hb
              cases hL : isLetterU (r : Int) with
              | true =>
                go_wp2_with (go_at_call 30; go_must (refine (Tryd.unicode_IsLetter_all _ _ (by omega) (by omega) T3.props T3.letter).mono ?_); rintro e w4 ⟨rfl, h4⟩)
                go_roundw
                case rel => exact ⟨k + 1, by omega, by go_num, hb3.trans (h4.mono hb3.size), by rw [← HGO.out, stands_letter hL]; rfl⟩
                case measure => simp [intOf]; omega
              | false =>
                cases hD : isDigitU (r : Int) with
                | true =>
                  go_wp2_with (first
                    | (go_at_call 30; go_must (refine (Tryd.unicode_IsLetter_all _ _ (by omega) (by omega) T3.props T3.letter).mono ?_); rintro e w4 ⟨rfl, h4⟩; have z4 := (h4.cell (p := ⟨g1, k, none⟩) (Nat.lt_of_lt_of_le hg1 hb3.size)).trans z3)
                    | (go_at_call 32; go_must (refine (Tryd.unicode_IsDigit_all _ _ (by omega) (by omega) (T3.below h4).digit).mono ?_); rintro e w5 ⟨rfl, h5⟩))
                  go_roundw
                  case rel => exact ⟨k + 1, by omega, by go_num, hb3.trans ((bt h4 h5).mono hb3.size), by rw [← HGO.out, stands_digit hD]; rfl⟩
                  case measure => simp [intOf]; omega
                | false =>
                  by_cases h45 : r = 45
                  · have h45' : ((r : Int) == 45) = true := by simp; omega
                    have hst := stands_dash h45
                    clear h45
                    go_wp2_with (first
                      | (go_at_call 30; go_must (refine (Tryd.unicode_IsLetter_all _ _ (by omega) (by omega) T3.props T3.letter).mono ?_); rintro e w4 ⟨rfl, h4⟩; have z4 := (h4.cell (p := ⟨g1, k, none⟩) (Nat.lt_of_lt_of_le hg1 hb3.size)).trans z3)
                      | (go_at_call 32; go_must (refine (Tryd.unicode_IsDigit_all _ _ (by omega) (by omega) (T3.below h4).digit).mono ?_); rintro e w5 ⟨rfl, h5⟩; have z5 := (h5.cell (p := ⟨g1, k, none⟩) (Nat.lt_of_lt_of_le hg1 (hb3.trans (h4.mono hb3.size)).size)).trans z4))
                    go_roundw
                    case rel => exact ⟨k + 1, by omega, by go_num, hb3.trans ((bt h4 h5).mono hb3.size), by rw [← HGO.out, hst]; rfl⟩
                    case measure => simp [intOf]; omega
                  · have h45' : ((r : Int) == 45) = false := by simp; omega
                    have hst := stands_no hL hD h45
                    clear h45
                    go_wp2_with (first
                      | (go_at_call 30; go_must (refine (Tryd.unicode_IsLetter_all _ _ (by omega) (by omega) T3.props T3.letter).mono ?_); rintro e w4 ⟨rfl, h4⟩; have z4 := (h4.cell (p := ⟨g1, k, none⟩) (Nat.lt_of_lt_of_le hg1 hb3.size)).trans z3)
                      | (go_at_call 32; go_must (refine (Tryd.unicode_IsDigit_all _ _ (by omega) (by omega) (T3.below h4).digit).mono ?_); rintro e w5 ⟨rfl, h5⟩; have z5 := (h5.cell (p := ⟨g1, k, none⟩) (Nat.lt_of_lt_of_le hg1 (hb3.trans (h4.mono hb3.size)).size)).trans z4))
                    go_ret
                    exact ⟨ret_bool (by rw [← HGO.out, hst]; rfl), bt (bt h1 hb3) (bt h4 h5)⟩
          · obtain rfl : k = R.length := by omega
            clear hrv
            rw [List.drop_length] at hgo
            go_wp2
            go_ret
            exact ⟨ret_bool (by rw [← hgo]; simp [M.goodGo]; omega), bt h1 hbr⟩
end Go.Proofs.YtdkndjenmnojhaaDoor
