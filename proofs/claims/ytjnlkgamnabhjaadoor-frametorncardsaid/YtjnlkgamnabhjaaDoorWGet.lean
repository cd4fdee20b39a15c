/-
  frame.Get.
-/
import Derived.Test.YtjnlkgamnabhjaaDoorWEnd
namespace Go.Proofs.YtjnlkgamnabhjaaDoor
open Go.RowKit Go.Lib
set_option linter.unusedVariables false

theorem clone_at (p : Option Addr) (n : Nat) (l : List UInt8) (cap : Nat) (w0 w : World) (hn : n = l.length) (hA : BAt w0 p l) (hb : Below w0.heap.size w0 w) (hl : l.length ≤ 100000) :
    Calls Tryd.prog 20 #[.slice p n cap] w fun e w' => (∃ v, e = .returned v ∧ Own w' w0.heap.size v l) ∧ Below w0.heap.size w0 w' ∧ Below w.heap.size w w' := by
  subst hn
  refine (clone_any p l cap w ⟨Nat.le_trans hl (by decide), hA.below hb⟩ hl).mono ?_
  rintro e w' ⟨⟨v, rfl, ho⟩, h⟩
  exact ⟨⟨v, rfl, ho.lower hb.size⟩, bt hb h, h⟩
theorem fe_at (p : Option Addr) (l : List UInt8) (n cap m k : Nat) (w0 w : World) (hn : n = l.length) (hT : Tabs w0) (hx : BAt w0 p l) (hb : Below w0.heap.size w0 w) (hcap : l.length ≤ cap) (hcm : cap ≤ maxLen) (hl : l.length ≤ 100000) (hf : C.fe l = (m, k)) :
    Calls Tryd.prog 19 #[.slice p n cap] w fun e w' => e = .returned (.tuple #[.int .i64 (m : Nat), .int .i64 (k : Nat)]) ∧ Below w.heap.size w w' := by
  subst hn
  have := fe_any p l cap w (hT.below hb) ⟨Nat.le_trans hl (by decide), hx.below hb⟩ hcap hcm hl
  rwa [hf] at this
/-- What the first frame holds, and what is behind it. -/
def C.rec (l : List UInt8) : List UInt8 := (l.drop 9).take ((C.fe l).1 - 9)
def C.rest (l : List UInt8) : List UInt8 := l.drop (C.fe l).1
set_option maxHeartbeats 4000000 in
theorem get_bad (p : Option Addr) (l : List UInt8) (cap : Nat) (w : World) (hT : Tabs w) (hx : (Part.mk p l cap).ok w) (hcap : l.length ≤ cap) (hcm : cap ≤ maxLen) (hl : l.length ≤ 100000) (hbad : (C.fe l).2 ≠ 0) :
    Calls Tryd.prog 10 #[.slice p l.length cap] w fun e w' => e = .returned (.tuple #[.slice none 0 0, .slice none 0 0, .int .i64 ((C.fe l).2 : Nat)]) ∧ Below w.heap.size w w' := by
  have HX : Hid ((Part.mk p l cap).ok w) := hx
  have HC1 : Hid (l.length ≤ cap) := hcap
  have HC2 : Hid (cap ≤ maxLen) := hcm
  have HL : Hid (l.length ≤ 100000) := hl
  have h0 : ¬ ((C.fe l).2 : Int) = 0 := by omega
  clear hx hcap hcm hl hbad
  go_enter Tryd.func10, Tryd.ntmps10
  go_wp2_with fail
  refine (fe_any p l cap w hT HX.out HC1.out HC2.out HL.out).mono ?_
  rintro e w1 ⟨rfl, h1⟩
  go_wp2
  go_ret3
  exact ⟨rfl, h1⟩
set_option maxHeartbeats 4000000 in
theorem get_ok (p : Option Addr) (l : List UInt8) (cap : Nat) (w : World) (hT : Tabs w) (hx : (Part.mk p l cap).ok w) (hcap : l.length ≤ cap) (hcm : cap ≤ maxLen) (hl : l.length ≤ 100000) (hok : (C.fe l).2 = 0) :
    Calls Tryd.prog 10 #[.slice p l.length cap] w fun e w' => (∃ v1 v2, e = .returned (.tuple #[v1, v2, .int .i64 0]) ∧ Own w' w.heap.size v1 (C.rec l) ∧ Own w' w.heap.size v2 (C.rest l)) ∧ Below w.heap.size w w' := by
  have HX : Hid ((Part.mk p l cap).ok w) := hx
  have HC1 : Hid (l.length ≤ cap) := hcap
  have HC2 : Hid (cap ≤ maxLen) := hcm
  have HL : Hid (l.length ≤ 100000) := hl
  obtain ⟨hm1, hm2, hm3⟩ := C.fe_ok hok
  have HR1 : Hid (C.rec l = (l.drop 9).take ((C.fe l).1 - 9)) := rfl
  have HR2 : Hid (C.rest l = l.drop (C.fe l).1) := rfl
  have HF : C.fe l = ((C.fe l).1, 0) := by rw [← hok]
  generalize (C.fe l).1 = m at hm1 hm2 hm3 HR1 HR2 HF
  have HFF : Hid (C.fe l = (m, 0)) := HF
  obtain ⟨b, o, rfl, _⟩ := hx.2 (show 0 < l.length by omega)
  have HLR : Hid ((C.rec l).length = m - 9) := by show _ = _; rw [HR1.out, List.length_take, List.length_drop]; omega
  have HLS : Hid ((C.rest l).length = l.length - m) := by show _ = _; rw [HR2.out, List.length_drop]
  have HBR : Hid (BAt w (some ⟨b, o + 9, none⟩) (C.rec l)) := by rw [HR1.out]; exact BAt.sub hx.2 9 (m - 9)
  have HBS : Hid (BAt w (some ⟨b, o + m, none⟩) (C.rest l)) := by rw [HR2.out]; exact BAt.tail hx.2 m
  have hcm' : cap ≤ 9223372036854775807 := Nat.le_trans hcm (by decide)
  clear hx hok HF hcm
  go_enter Tryd.func10, Tryd.ntmps10
  go_wp2_with fail
  refine (fe_at _ l _ cap m 0 w w rfl hT HX.out.2 (Below.refl _ _) HC1.out HC2.out HL.out HFF.out).mono ?_
  rintro e w1 ⟨rfl, h1⟩
  have HB1 : Hid (Below w.heap.size w w1) := h1
  clear h1
  have hi1 : (9 : Int) ≤ m := by omega
  have hi2 : (m : Int) ≤ cap := by omega
  have hi3 : (m : Int) ≤ l.length := by omega
  have hi4 : (l.length : Int) ≤ cap := by omega
  have hi5 : (9 : Int) ≤ cap := by omega
  by_cases hz : l.length = 9
  · have e1 : C.rec l = [] := List.eq_nil_of_length_eq_zero (by rw [HLR.out]; omega)
    have e2 : C.rest l = [] := List.eq_nil_of_length_eq_zero (by rw [HLS.out]; omega)
    obtain rfl : m = 9 := by omega
    have E1 : Hid _ := e1
    have E2 : Hid _ := e2
    clear e1 e2
    by_cases hc9 : cap = 9
    all_goals
      go_wp2
      go_region_held3 (fun w' => True) (trivial)
        (first
        | (go_at_call 20; refine (clone_at _ _ [] _ w _ ?hn (BAt.nil _ _) ?hb (by simp)).mono ?_; (case hn => simp <;> omega); (case hb => repeat (first | exact HB1.out | assumption | refine Below.drew ?_)); rintro e w' ⟨⟨v, rfl, ho⟩, hbw, hbl⟩))
      all_goals
        go_wp2
        go_ret3
        rw [E1.out, E2.out]
        refine ⟨⟨_, _, rfl, ?_, ?_⟩, hbw⟩
        all_goals first | exact ho | exact Own.keep (by assumption) hbl.block
  have hz1 : ¬ cap = 9 := by omega
  by_cases hc : cap = m
  · obtain rfl : cap = m := hc
    have hi7 : ¬ cap - 9 = 0 := by omega
    go_wp2
    go_region_held3 (fun w' => True) (trivial)
      (first
      | (go_at_call_of 20 (some (Addr.mk b o none)); refine (clone_at _ _ [] _ w _ ?hn (BAt.nil _ _) ?hb (by simp)).mono ?_; (case hn => simp <;> omega); (case hb => repeat (first | exact HB1.out | assumption | refine Below.drew ?_)); rintro e w' ⟨⟨v, rfl, ho⟩, hbw, hbl⟩)
      | (go_at_call 20; refine (clone_at _ _ (C.rec l) _ w _ ?hn HBR.out ?hb ?hl).mono ?_; (case hn => rw [HLR.out]); (case hl => rw [HLR.out]; omega); (case hb => repeat (first | exact HB1.out | assumption | refine Below.drew ?_)); rintro e w' ⟨⟨v, rfl, ho⟩, hbw, hbl⟩))
    all_goals
      go_wp2
      go_ret3
      rw [show C.rest l = [] from List.eq_nil_of_length_eq_zero (by rw [HLS.out]; omega)]
      refine ⟨⟨_, _, rfl, ?_, ?_⟩, hbw⟩
      all_goals first | exact ho | exact Own.keep (by assumption) hbl.block
  · have hi7 : ¬ cap - 9 = 0 := by omega
    have hi8 : ¬ cap - m = 0 := by omega
    go_wp2
    go_region_held3 (fun w' => True) (trivial)
      (first
      | (go_at_call_of 20 (o + m); refine (clone_at _ _ (C.rest l) _ w _ ?hn HBS.out ?hb ?hl).mono ?_; (case hn => rw [HLS.out]); (case hl => rw [HLS.out]; omega); (case hb => repeat (first | exact HB1.out | assumption | refine Below.drew ?_)); rintro e w' ⟨⟨v, rfl, ho⟩, hbw, hbl⟩)
      | (go_at_call 20; refine (clone_at _ _ (C.rec l) _ w _ ?hn HBR.out ?hb ?hl).mono ?_; (case hn => rw [HLR.out]); (case hl => rw [HLR.out]; omega); (case hb => repeat (first | exact HB1.out | assumption | refine Below.drew ?_)); rintro e w' ⟨⟨v, rfl, ho⟩, hbw, hbl⟩))
    all_goals
      go_wp2
      go_ret3
      refine ⟨⟨_, _, rfl, ?_, ?_⟩, hbw⟩
      all_goals first | exact ho | exact Own.keep (by assumption) hbl.block
end Go.Proofs.YtjnlkgamnabhjaaDoor
