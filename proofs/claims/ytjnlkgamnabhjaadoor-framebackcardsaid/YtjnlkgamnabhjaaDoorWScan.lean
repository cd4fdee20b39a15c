/-
  frame.Scan.
-/
import Derived.Test.YtjnlkgamnabhjaaDoorWRows
namespace Go.Proofs.YtjnlkgamnabhjaaDoor
open Go.RowKit Go.Lib
set_option linter.unusedVariables false

theorem ret_row {v v' : Value} {n n' : Int} {b b' : Bool} (h1 : v = v') (h2 : n = n') (h3 : b = b') : Ending.returned (.tuple #[v, .int .i64 n, .bool b]) = .returned (.tuple #[v', .int .i64 n', .bool b']) := by rw [h1, h2, h3]
set_option maxHeartbeats 4000000 in
theorem scan_any (p : Option Addr) (l : List UInt8) (cap : Nat) (w : World) (hT : Tabs w) (hx : (Part.mk p l cap).ok w) (hcap : l.length ≤ cap) (hcm : cap ≤ maxLen) (hl : l.length ≤ 100000) :
    Calls Tryd.prog 11 #[.slice p l.length cap] w fun e w' => (∃ v, e = .returned (.tuple #[v, .int .i64 ((C.scan l).2 : Nat), .bool (((C.scan l).2 : Int) == (l.length : Int))]) ∧ Rows w' v (C.scan l).1) ∧ Below w.heap.size w w' := by
  have HX : Hid (BAt w p l) := hx.2
  have HCM : Hid (cap ≤ maxLen) := hcm
  have hcm' : cap ≤ 9223372036854775807 := Nat.le_trans hcm (by decide)
  clear hx hcm
  go_enter Tryd.func11, Tryd.ntmps11
  go_wp2
  go_loopw [2, 3] (fun v i wr => ∃ (n : Nat) (ps : List Part), i = .int .i64 n ∧ n ≤ l.length ∧ ps.length ≤ n ∧ OwnP wr w.heap.size v ps ∧ (∀ x ∈ ps, Own wr w.heap.size x.v x.l) ∧ Below w.heap.size w wr ∧ ps.map Part.l ++ (C.scan (l.drop n)).1 = (C.scan l).1 ∧ n + (C.scan (l.drop n)).2 = (C.scan l).2) (fun _ i _ => l.length - (intOf i).toNat)
  case atStart => exact ⟨0, [], rfl, Nat.zero_le _, Nat.le_refl _, OwnP.nil _ _, fun x hx => (by cases hx), Below.refl _ _, by simp, by simp⟩
  case round =>
    obtain ⟨n, ps, rfl, hn, hpl, hop, hos, hbw, hs1, hs2⟩ := hrel
    have HOP : Hid (OwnP wr w.heap.size u2 ps) := hop
    have HOS : Hid (∀ x ∈ ps, Own wr w.heap.size x.v x.l) := hos
    have HBW : Hid (Below w.heap.size w wr) := hbw
    have HS1 : Hid (ps.map Part.l ++ (C.scan (l.drop n)).1 = (C.scan l).1) := hs1
    have HS2 : Hid (n + (C.scan (l.drop n)).2 = (C.scan l).2) := hs2
    clear hop hos hbw hs1 hs2
    by_cases hlt : (n : Int) < l.length
    · obtain ⟨b, o, rfl, _⟩ := HX.out (by omega)
      have HLD : Hid ((l.drop n).length = l.length - n) := by show _ = _; rw [List.length_drop]
      have HBD : Hid (BAt w (some ⟨b, o + n, none⟩) (l.drop n)) := BAt.tail HX.out n
      obtain ⟨m, k, hmk⟩ : ∃ m k, C.fe (l.drop n) = (m, k) := ⟨_, _, rfl⟩
      have HMK : Hid (C.fe (l.drop n) = (m, k)) := hmk
      have hk0 : k ≠ 0 → k ≤ 8 := by
        intro h
        have := (C.fe_err (b := l.drop n) (by rw [hmk]; exact h)).2
        rw [hmk] at this; omega
      have hm0 : k = 0 → 9 ≤ m ∧ m ≤ l.length - n := by
        intro h
        have := C.fe_ok (b := l.drop n) (by rw [hmk]; exact h)
        rw [hmk, HLD.out] at this; omega
      have hcn : ¬ cap = n := by omega
      clear hmk
      go_wp2_with fail
      refine (fe_at _ (l.drop n) _ _ m k w _ HLD.out.symm hT HBD.out HBW.out (by rw [HLD.out]; omega) (Nat.le_trans (Nat.sub_le _ _) HCM.out) (by rw [HLD.out]; omega) HMK.out).mono ?_
      rintro e w1 ⟨rfl, h1⟩
      have HB1 : Hid (Below wr.heap.size wr w1) := h1
      clear h1
      by_cases hk : k = 0
      · subst hk
        obtain ⟨hm1, hm2⟩ := hm0 rfl
        have HST : Hid (C.scan (l.drop n) = (C.rec (l.drop n) :: (C.scan (l.drop (n + m))).1, m + (C.scan (l.drop (n + m))).2)) := by
          show _ = _
          rw [C.scan_step (by rw [HMK.out]), HMK.out, C.rec, HMK.out]
          simp only [List.drop_drop]
        have HRL : Hid ((C.rec (l.drop n)).length = m - 9) := by
          show _ = _
          rw [C.rec, HMK.out, List.length_take, List.length_drop, HLD.out]; simp only; omega
        have HRB : Hid (BAt w (some ⟨b, o + (n + 9), none⟩) (C.rec (l.drop n))) := by
          show BAt _ _ _
          rw [C.rec, ← Nat.add_assoc]; exact BAt.sub HBD.out 9 _
        have HWB : Hid (Below w.heap.size w w1) := bt HBW.out HB1.out
        have hi1 : (n : Int) + m ≤ l.length := by omega
        have hi2 : (n : Int) + 9 ≤ n + m := by omega
        by_cases hc9 : cap = n + 9
        all_goals
          go_wp2_with fail
          refine (clone_at _ _ (C.rec (l.drop n)) _ w w1 ?hn ?hA HWB.out ?hl).mono ?_
          case hn => rw [HRL.out]; omega
          case hA =>
            first
            | exact HRB.out
            | (rw [List.eq_nil_of_length_eq_zero (show (C.rec (l.drop n)).length = 0 by rw [HRL.out]; omega)]; exact BAt.nil _ _)
          case hl => rw [HRL.out]; omega
          rintro e w2 ⟨⟨v, rfl, ho⟩, hbw2, hbl2⟩
          obtain ⟨pc, cc, rfl, hok⟩ := Own.part ho
          have HO : Hid (Own w2 w.heap.size (Part.mk pc (C.rec (l.drop n)) cc).v (C.rec (l.drop n))) := ho
          have HB2 : Hid (Below w.heap.size w w2) := hbw2
          have HBL : Hid (Below wr.heap.size wr w2) := bt HB1.out hbl2
          clear ho hok hbw2 hbl2
          go_wp2_with (at_builtin; go_must ((refine wpList_append_one rfl _ _ rfl w.heap.size _ ps rfl (OwnP.below (OwnP.below HOP.out HBL.out) (below_new _ _)) ⟨pc, C.rec (l.drop n), cc⟩ w2.heap.size rfl (by simp [Part.v]) (by omega) (by have := HB2.out.size; simp; omega) ?_; intro v3 w3 ho3 hg3)))
          try rw [← hc9]
          go_roundw
          case rel =>
            have hP := OwnP.below (OwnP.below HOP.out HBL.out) (below_new w2 (.cells #[Value.slice pc (C.rec (l.drop n)).length cc] 23))
            have hB0 : Below w.heap.size w (w2.alloc (.cells #[Value.slice pc (C.rec (l.drop n)).length cc] 23)) := bt HB2.out (below_new _ _)
            refine ⟨n + m, ps ++ [⟨pc, C.rec (l.drop n), cc⟩], by go_num, by omega, by simp; omega, ho3, fun x hx => ?_, OwnP.grown hP hB0 hB0.size hg3, ?_, ?_⟩
            · rcases List.mem_append.1 hx with hx | hx
              · exact Own.keptP (Own.below (Own.below (HOS.out x hx) HBL.out) (below_new _ _)) hP hg3
              · simp only [List.mem_singleton] at hx
                subst hx
                exact Own.keptP (Own.below HO.out (below_new _ _)) hP hg3
            · rw [← HS1.out, HST.out]; simp
            · rw [← HS2.out, HST.out]; simp only; omega
          case measure => simp [intOf]; omega
      · have HK : Hid (C.scan (l.drop n) = ([], 0)) := C.scan_stop (by rw [HMK.out]; exact hk)
        have hk' : ¬ (k : Int) = 0 := by omega
        go_wp2
        go_ret3
        refine ⟨⟨_, ret_row rfl ?_ ?_, ?_⟩, bt HBW.out HB1.out⟩
        · have := HS2.out; rw [HK.out] at this; simp only at this; omega
        · have := HS2.out; rw [HK.out] at this; simp only [Nat.add_zero] at this; rw [← this]
        · have := HS1.out; rw [HK.out] at this; simp only [List.append_nil] at this
          rw [← this]
          exact OwnP.rows (OwnP.below HOP.out HB1.out) (fun x hx => (Own.okAt (HOS.out x hx) rfl).below HB1.out)
    · have HK : Hid (C.scan (l.drop n) = ([], 0)) := by show _ = _; rw [List.drop_of_length_le (by omega), C.scan_nil]
      go_wp2
      go_ret3
      refine ⟨⟨_, ret_row rfl ?_ ?_, ?_⟩, HBW.out⟩
      · have := HS2.out; rw [HK.out] at this; simp only at this; omega
      · have := HS2.out; rw [HK.out] at this; simp only [Nat.add_zero] at this; rw [← this]
      · have := HS1.out; rw [HK.out] at this; simp only [List.append_nil] at this
        rw [← this]
        exact OwnP.rows HOP.out (fun x hx => Own.okAt (HOS.out x hx) rfl)
end Go.Proofs.YtjnlkgamnabhjaaDoor
