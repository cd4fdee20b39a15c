/-
  frame.firstEnd.
-/
import Derived.Test.YtjnlkgamnabhjaaDoorWPut
namespace Go.Proofs.YtjnlkgamnabhjaaDoor
open Go.RowKit Go.Lib
set_option linter.unusedVariables false

/-- A row's part. -/
theorem BAt.sub {w : World} {b o : Nat} {l : List UInt8} (h : BAt w (some ⟨b, o, none⟩) l) (k m : Nat) : BAt w (some ⟨b, o + k, none⟩) ((l.drop k).take m) := fun hl => by
  have hl' : 0 < l.length := by
    rw [List.length_take, List.length_drop] at hl; omega
  obtain ⟨b', o', hp, hc⟩ := h hl'
  simp only [Option.some.injEq, Addr.mk.injEq] at hp
  obtain ⟨rfl, rfl, _⟩ := hp
  refine ⟨b, o + k, rfl, fun i hi => ?_⟩
  rw [List.length_take, List.length_drop] at hi
  rw [Nat.add_assoc, hc (k + i) (by omega)]
  congr 3
  simp [List.getD, show i < m by omega]
theorem BAt.tail {w : World} {b o : Nat} {l : List UInt8} (h : BAt w (some ⟨b, o, none⟩) l) (k : Nat) : BAt w (some ⟨b, o + k, none⟩) (l.drop k) := by
  have := BAt.sub h k l.length
  rwa [List.take_of_length_le (by rw [List.length_drop]; omega)] at this
theorem number_at (p : Option Addr) (n : Nat) (l : List UInt8) (cap r : Nat) (w : World) (hn : n = l.length) (hl : l.length ≤ 4) (hA : BAt w p l) (hr : C.le l = r) :
    Calls Tryd.prog 25 #[.slice p n cap] w fun e w' => e = .returned (.int .u32 (r : Nat)) ∧ w' = w := by
  subst hn hr; exact number_any p l cap w hl hA
theorem of_two (wr : World) (x y : Part) (r : Int) (hT : Tabs wr) (hx : x.ok wr) (hy : y.ok wr) (hr : ((C.crc (x.l ++ y.l)).toNat : Int) = r) (w' : World) (B : Nat) (hc0 : w'.cell? ⟨B, 0, none⟩ = some x.v) (hc1 : w'.cell? ⟨B, 1, none⟩ = some y.v) (hb : Below wr.heap.size wr w') :
    Calls Tryd.prog 17 #[.slice (some ⟨B, 0, none⟩) 2 2] w' fun e w'' => e = .returned (.int .u32 r) ∧ w'' = w' := by
  refine of_at (some ⟨B, 0, none⟩) [x, y] 2 r w' (hT.below hb) (show 2 ≤ maxLen by decide) (fun _ => ⟨B, 0, rfl, fun i z hz => ?_⟩) (ok_cons (hx.below hb) (ok_one (hy.below hb))) (by simpa [joined] using hr)
  match i, hz with
  | 0, hz => simp at hz; subst hz; exact hc0
  | 1, hz => simp at hz; subst hz; exact hc1
set_option maxHeartbeats 4000000 in
theorem fe_any (p : Option Addr) (l : List UInt8) (cap : Nat) (w : World) (hT : Tabs w) (hx : (Part.mk p l cap).ok w) (hcap : l.length ≤ cap) (hcm : cap ≤ maxLen) (hl : l.length ≤ 100000) :
    Calls Tryd.prog 19 #[.slice p l.length cap] w fun e w' => e = .returned (.tuple #[.int .i64 ((C.fe l).1 : Nat), .int .i64 ((C.fe l).2 : Nat)]) ∧ Below w.heap.size w w' := by
  have HX : Hid (BAt w p l) := hx.2
  have HF : Hid (C.fe l = _) := C.fe.eq_1 l
  unfold maxLen at hcm
  clear hx
  go_enter Tryd.func19, Tryd.ntmps19
  by_cases h0 : l.length = 0
  · have HE : Hid (C.fe l = (0, 8)) := by show _ = _; rw [HF.out, if_pos h0]
    go_wp2
    go_ret2
    rw [HE.out]
    exact ⟨rfl, Below.refl _ _⟩
  obtain ⟨b, o, rfl, hc⟩ := HX.out (by omega)
  have hc0 := hc 0 (by omega)
  rw [Nat.add_zero] at hc0
  have HX0 : Hid ((l.getD 0 0 ≠ 1) ↔ ¬ ((l.getD 0 0).toNat : Int) = 1) := by
    refine not_congr ⟨fun h => by rw [h]; rfl, fun h => UInt8.toNat_inj.1 ?_⟩
    show _ = 1; omega
  rw [if_neg h0] at HF
  generalize l.getD 0 0 = x at hc0 HX0 HF
  have hx0 := x.toNat_lt
  by_cases h1 : (x.toNat : Int) = 1
  · have HF1 : Hid (¬ x ≠ 1) := fun h => HX0.out.1 h h1
    have hn4 : ((l.drop 1).take 4).length ≤ 4 := by rw [List.length_take]; omega
    have HN : Hid (((l.drop 1).take 4).length = min 4 (l.length - 1)) := by show _ = _; rw [List.length_take, List.length_drop]
    have HB1 : Hid (BAt w (some ⟨b, o + 1, none⟩) ((l.drop 1).take 4)) := BAt.sub HX.out 1 4
    have HN4 : Hid (((l.drop 1).take 4).length ≤ 4) := hn4
    have HR : Hid (C.le ((l.drop 1).take 4) = C.le ((l.drop 1).take 4)) := rfl
    have HC : Hid (C.le ((l.drop 1).take 4) < 4294967296) := by
      have h5 := C.le_lt ((l.drop 1).take 4)
      exact Nat.lt_of_lt_of_le h5 (Nat.le_trans (Nat.pow_le_pow_right (by decide) hn4) (by decide))
    rw [if_neg HF1.out] at HF
    clear hn4
    go_wp2_with fail
    all_goals
      refine (number_at _ _ ((l.drop 1).take 4) _ (C.le ((l.drop 1).take 4)) _ ?hn HN4.out ?hA rfl).mono ?_
      case hn => rw [HN.out]; omega
      case hA =>
        first
        | exact HB1.out
        | (rw [List.eq_nil_of_length_eq_zero (show ((l.drop 1).take 4).length = 0 by rw [HN.out]; omega)]; exact BAt.nil _ _)
      rintro e w' ⟨rfl, hw'⟩
      subst w'
      generalize hn : C.le ((l.drop 1).take 4) = n at HF HC ⊢
      have HNN : Hid (C.le ((l.drop 1).take 4) = n) := hn
      have hc32 := HC.out
      clear hn HR
      by_cases h2 : (65536 : Int) < n
      · have HE : Hid (C.fe l = (0, 3)) := by show _ = _; rw [HF.out, if_pos (by omega)]
        go_wp2
        go_ret2
        rw [HE.out]
        exact ⟨rfl, Below.refl _ _⟩
      rw [if_neg (by omega)] at HF
      by_cases h3 : (l.length : Int) < 9 + n
      · have HE : Hid (C.fe l = (0, 8)) := by show _ = _; rw [HF.out, if_pos (by omega)]
        go_wp2
        go_ret2
        rw [HE.out]
        exact ⟨rfl, Below.refl _ _⟩
      rw [if_neg (by omega)] at HF
      first
      | (exfalso; omega)
      | have HB5 : Hid (BAt w (some ⟨b, o + 5, none⟩) ((l.drop 5).take 4)) := BAt.sub HX.out 5 4
        have HL1 : Hid (((l.drop 1).take 4).length = 4) := by show _ = _; rw [HN.out]; omega
        have HL5 : Hid (((l.drop 5).take 4).length = 4) := by show _ = _; rw [List.length_take, List.length_drop]; omega
        have HL9 : Hid (((l.drop 9).take n).length = n) := by show _ = _; rw [List.length_take, List.length_drop]; omega
        have HP1 : Hid (Part.ok w ⟨some ⟨b, o + 1, none⟩, (l.drop 1).take 4, cap - 1⟩) := ⟨by show ((l.drop 1).take 4).length ≤ maxLen; rw [HL1.out]; decide, HB1.out⟩
        have HB9 : Hid (BAt w (some ⟨b, o + 9, none⟩) ((l.drop 9).take n)) := BAt.sub HX.out 9 n
        have hn9 : ((l.drop 9).take n).length ≤ maxLen := by rw [HL9.out]; unfold maxLen; omega
        have HM : Hid (((l.drop 9).take n).length ≤ maxLen) := hn9
        have HS0 : Hid (((C.crc ((l.drop 1).take 4 ++ (l.drop 9).take n)).toNat : Int) = ((C.crc ((l.drop 1).take 4 ++ (l.drop 9).take n)).toNat : Nat)) := rfl
        generalize hs : (C.crc ((l.drop 1).take 4 ++ (l.drop 9).take n)).toNat = s at HF
        have HS : Hid (((C.crc ((l.drop 1).take 4 ++ (l.drop 9).take n)).toNat : Int) = (s : Nat)) := by show _ = _; rw [hs]
        generalize hr : C.le ((l.drop 5).take 4) = r at HF
        have HR5 : Hid (C.le ((l.drop 5).take 4) = r) := hr
        clear hs hr HS0 hn9
        have HFE : Hid ((r : Int) = s ∧ C.fe l = (9 + n, 0) ∨ ¬ (r : Int) = s ∧ C.fe l = (0, 3)) := by
          by_cases h : r = s
          · exact Or.inl ⟨by omega, by rw [HF.out, if_neg (by omega)]⟩
          · exact Or.inr ⟨by omega, by rw [HF.out, if_pos h]⟩
        by_cases h9 : cap = 9
        · subst h9
          obtain rfl : n = 0 := by omega
          have HP9 : Hid (Part.ok w ⟨some ⟨b, o, none⟩, (l.drop 9).take 0, 0⟩) := ⟨HM.out, BAt.nil _ _⟩
          go_wp2
          go_region_held3 (fun w' => True) (trivial)
            (first
            | (go_at_call 25; refine (number_at _ _ ((l.drop 5).take 4) _ r _ ?hn ?hl ?hA HR5.out).mono ?_; (case hn => rw [HL5.out]); (case hl => rw [HL5.out]; exact Nat.le_refl _); (case hA => refine BAt.below HB5.out ?_; repeat (first | exact Below.refl _ _ | refine Below.drew ?_ | refine Below.alloc ?_ (by simp) _)); rintro e w' ⟨rfl, hw'⟩; subst w')
            | (go_at_call 17; refine (of_two w ⟨some ⟨b, o + 1, none⟩, (l.drop 1).take 4, 9 - 1⟩ ⟨some ⟨b, o, none⟩, (l.drop 9).take 0, 0⟩ (s : Nat) hT HP1.out HP9.out HS.out _ _ ?hc0 ?hc1 ?hb).mono ?_; (case hc0 => simp [Part.v]; omega); (case hc1 => simp [Part.v]); (case hb => repeat (first | exact Below.refl _ _ | refine Below.drew ?_ | refine Below.alloc ?_ (by simp) _)); rintro e w' ⟨rfl, hw'⟩; subst w'))
          all_goals
            rcases HFE.out with ⟨h4, he⟩ | ⟨h4, he⟩
            all_goals
              have HE : Hid (C.fe l = _) := he
              clear he
              go_wp2
              go_ret2
              rw [HE.out]
              refine ⟨rfl, ?_⟩
              repeat (first | exact Below.refl _ _ | refine Below.drew ?_ | refine Below.alloc ?_ (by simp) _)
        · have HP9 : Hid (Part.ok w ⟨some ⟨b, o + 9, none⟩, (l.drop 9).take n, cap - 9⟩) := ⟨HM.out, HB9.out⟩
          have hi1 : (9 : Int) + (n : Int) ≤ cap := by omega
          have hi2 : (9 : Int) ≤ 9 + (n : Int) := by omega
          have hi3 : (0 : Int) ≤ 9 + (n : Int) := by omega
          have hi4 : (9 : Int) ≤ cap := by omega
          have hi5 : ¬ cap - 9 = 0 := by omega
          have hi7 : (5 : Int) ≤ cap := by omega
          have hi8 : ¬ cap = 1 := by omega
          have hi9 : ¬ cap = 5 := by omega
          have hi6 : ((9 : Int) + (n : Int)).toNat = 9 + n := by omega
          go_wp2
          go_region_held3 (fun w' => True) (trivial)
            (first
            | (go_at_call 25; refine (number_at _ _ ((l.drop 5).take 4) _ r _ ?hn ?hl ?hA HR5.out).mono ?_; (case hn => rw [HL5.out]); (case hl => rw [HL5.out]; exact Nat.le_refl _); (case hA => refine BAt.below HB5.out ?_; repeat (first | exact Below.refl _ _ | refine Below.drew ?_ | refine Below.alloc ?_ (by simp) _)); rintro e w' ⟨rfl, hw'⟩; subst w')
            | (go_at_call 17; refine (of_two w ⟨some ⟨b, o + 1, none⟩, (l.drop 1).take 4, cap - 1⟩ ⟨some ⟨b, o + 9, none⟩, (l.drop 9).take n, cap - 9⟩ (s : Nat) hT HP1.out HP9.out HS.out _ _ ?hc0 ?hc1 ?hb).mono ?_; (case hc0 => simp [Part.v]; omega); (case hc1 => simp [Part.v]; omega); (case hb => repeat (first | exact Below.refl _ _ | refine Below.drew ?_ | refine Below.alloc ?_ (by simp) _)); rintro e w' ⟨rfl, hw'⟩; subst w'))
          all_goals
            rcases HFE.out with ⟨h4, he⟩ | ⟨h4, he⟩
            all_goals
              have HE : Hid (C.fe l = _) := he
              clear he
              go_wp2
              go_ret2
              rw [HE.out]
              refine ⟨rfl, ?_⟩
              repeat (first | exact Below.refl _ _ | refine Below.drew ?_ | refine Below.alloc ?_ (by simp) _)
  · have HE : Hid (C.fe l = (0, 3)) := by show _ = _; rw [HF.out, if_pos (HX0.out.2 h1)]
    go_wp2
    go_ret2
    rw [HE.out]
    exact ⟨rfl, Below.refl _ _⟩
end Go.Proofs.YtjnlkgamnabhjaaDoor
