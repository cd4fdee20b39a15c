/-
  The document's own Scan (rostrumref1.Scan).
-/
import Derived.Test.YtjnlkgamnabhjaaDoorWRGet
namespace Go.Proofs.YtjnlkgamnabhjaaDoor
open Go.RowKit Go.Lib
set_option linter.unusedVariables false

theorem rget_at (p : Option Addr) (l : List UInt8) (n cap : Nat) (w0 w : World) (hn : n = l.length) (hx : BAt w0 p l) (hb : Below w0.heap.size w0 w) (hcap : l.length ≤ cap) (hcm : cap ≤ maxLen) (hl : l.length ≤ 100000) :
    Calls Tryd.prog 13 #[.slice p n cap] w fun e w' => ((C.fe l).2 ≠ 0 ∧ e = .returned (.tuple #[.slice none 0 0, .slice none 0 0, .int .i64 ((C.fe l).2 : Nat)]) ∨
      (C.fe l).2 = 0 ∧ ∃ p1 c1 p2 c2, e = .returned (.tuple #[.slice p1 (C.rec l).length c1, .slice p2 (C.rest l).length c2, .int .i64 0]) ∧ BAt w0 p1 (C.rec l) ∧ BAt w0 p2 (C.rest l)) ∧ Below w.heap.size w w' := by
  subst hn
  refine (rget_any p l cap w ⟨Nat.le_trans hl (by decide), hx.below hb⟩ hcap hcm hl).mono ?_
  rintro e w' ⟨h | ⟨h, p1, c1, p2, c2, rfl, hh⟩, h2⟩
  · exact ⟨Or.inl h, h2⟩
  · exact ⟨Or.inr ⟨h, p1, c1, p2, c2, rfl, (hh w0 hx).1, (hh w0 hx).2⟩, h2⟩
theorem BAt.tailA {w : World} {ad : Addr} {l : List UInt8} (h : BAt w (some ad) l) (k : Nat) : BAt w (some (ad.add k)) (l.drop k) := fun hl => by
  obtain ⟨b, o, hp, _⟩ := h (by rw [List.length_drop] at hl; omega)
  simp only [Option.some.injEq] at hp
  subst hp
  have := BAt.tail h k
  rw [WideShapes.add_plain]
  exact this hl
set_option maxHeartbeats 4000000 in
theorem rscan_any (p : Option Addr) (l : List UInt8) (cap : Nat) (w : World) (hx : (Part.mk p l cap).ok w) (hcap : l.length ≤ cap) (hcm : cap ≤ maxLen) (hl : l.length ≤ 100000) :
    Calls Tryd.prog 14 #[.slice p l.length cap] w fun e w' => (∃ v, e = .returned (.tuple #[v, .int .i64 ((C.scan l).2 : Nat), .bool (((C.scan l).2 : Int) == (l.length : Int))]) ∧ Rows w' v (C.scan l).1) ∧ Below w.heap.size w w' := by
  have HX : Hid (BAt w p l) := hx.2
  have HCM : Hid (cap ≤ maxLen) := hcm
  have hcm' : cap ≤ 9223372036854775807 := Nat.le_trans hcm (by decide)
  have hpn : p = none ∨ ∃ b o, p = some ⟨b, o, none⟩ ∨ l = [] := by
    cases p with
    | none => exact Or.inl rfl
    | some a =>
      rcases Nat.eq_zero_or_pos l.length with h | h
      · exact Or.inr ⟨0, 0, Or.inr (List.eq_nil_of_length_eq_zero h)⟩
      · obtain ⟨b, o, hp, _⟩ := hx.2 h
        exact Or.inr ⟨b, o, Or.inl hp⟩
  clear hx hcm
  go_enter Tryd.func14, Tryd.ntmps14
  go_wp2
  go_loopw [5, 6] (fun v i wr => ∃ (n : Nat) (ps : List Part), i = .int .i64 n ∧ n ≤ l.length ∧ ps.length ≤ n ∧ OwnP wr w.heap.size v ps ∧ (∀ x ∈ ps, x.ok w) ∧ Below w.heap.size w wr ∧ ps.map Part.l ++ (C.scan (l.drop n)).1 = (C.scan l).1 ∧ n + (C.scan (l.drop n)).2 = (C.scan l).2) (fun _ i _ => l.length - (intOf i).toNat)
  case atStart => exact ⟨0, [], rfl, Nat.zero_le _, Nat.le_refl _, OwnP.nil _ _, fun x hx => (by cases hx), Below.refl _ _, by simp, by simp⟩
  case round =>
    obtain ⟨n, ps, rfl, hn, hpl, hop, hos, hbw, hs1, hs2⟩ := hrel
    have HOP : Hid (OwnP wr w.heap.size u5 ps) := hop
    have HOS : Hid (∀ x ∈ ps, x.ok w) := hos
    have HBW : Hid (Below w.heap.size w wr) := hbw
    have HS1 : Hid (ps.map Part.l ++ (C.scan (l.drop n)).1 = (C.scan l).1) := hs1
    have HS2 : Hid (n + (C.scan (l.drop n)).2 = (C.scan l).2) := hs2
    clear hop hos hbw hs1 hs2
    have HLD : Hid ((l.drop n).length = l.length - n) := by show _ = _; rw [List.length_drop]
    have HRI : Hid ((C.fe (l.drop n)).2 = 0 → C.scan (l.drop n) = (C.rec (l.drop n) :: (C.scan (l.drop (n + (C.fe (l.drop n)).1))).1, (C.fe (l.drop n)).1 + (C.scan (l.drop (n + (C.fe (l.drop n)).1))).2)) := by
      intro h
      rw [C.scan_step h, C.rec, List.drop_drop, List.drop_drop]
    cases p with
    | none =>
      have HN0 : Hid (C.fe (l.drop n) = (0, 8)) := by
        have e : l = [] := nil_of_none HX.out
        show _ = _; rw [e]; simp [C.fe_nil]
      have hl0 : l.length = 0 := by rw [nil_of_none HX.out]; rfl
      obtain rfl : n = 0 := by omega
      go_wp2_with fail
      refine (rget_at _ (l.drop 0) _ _ w wr (by rw [HLD.out]; omega) (by rw [show l.drop 0 = [] from by rw [nil_of_none HX.out]; rfl]; exact BAt.nil _ _) HBW.out (by rw [HLD.out]; omega) (Nat.le_trans (by omega) HCM.out) (by rw [HLD.out]; omega)).mono ?_
      rintro e w1 ⟨⟨hk, rfl⟩ | ⟨hk, _⟩, h1⟩
      · have HB1 : Hid (Below wr.heap.size wr w1) := h1
        have HK : Hid (C.scan (l.drop 0) = ([], 0)) := C.scan_stop hk
        clear h1
        generalize (C.fe (l.drop 0)).2 = k at hk ⊢
        have hk' : ¬ (k : Int) = 0 := by omega
        go_wp2
        go_ret3
        refine ⟨⟨_, ret_row rfl ?_ ?_, ?_⟩, bt HBW.out HB1.out⟩
        · have := HS2.out; rw [HK.out] at this; simp only at this; omega
        · have := HS2.out; rw [HK.out] at this; simp only [Nat.add_zero] at this; first | (rw [← this]; done) | (rw [← this, hl0]; rfl)
        · have := HS1.out; rw [HK.out] at this; simp only [List.append_nil] at this
          rw [← this]
          exact OwnP.rows (OwnP.below HOP.out HB1.out) (fun x hx => (HOS.out x hx).below (bt HBW.out HB1.out))
      · exfalso
        rw [HN0.out] at hk
        exact absurd hk (by decide)
    | some ad =>
      by_cases hcn : cap = n
      · have HN0 : Hid (C.fe (l.drop n) = (0, 8)) := by
          show _ = _; rw [List.drop_of_length_le (by omega), C.fe_nil]
        go_wp2_with fail
        refine (rget_at _ (l.drop n) _ _ w wr (by rw [HLD.out]) (by rw [List.drop_of_length_le (by omega)]; exact BAt.nil _ _) HBW.out (by rw [HLD.out]; omega) (by decide) (by rw [HLD.out]; omega)).mono ?_
        rintro e w1 ⟨⟨hk, rfl⟩ | ⟨hk, _⟩, h1⟩
        · have HB1 : Hid (Below wr.heap.size wr w1) := h1
          have HK : Hid (C.scan (l.drop n) = ([], 0)) := C.scan_stop hk
          clear h1
          generalize (C.fe (l.drop n)).2 = k at hk ⊢
          have hk' : ¬ (k : Int) = 0 := by omega
          go_wp2
          go_ret3
          refine ⟨⟨_, ret_row rfl ?_ ?_, ?_⟩, bt HBW.out HB1.out⟩
          · have := HS2.out; rw [HK.out] at this; simp only at this; omega
          · have := HS2.out; rw [HK.out] at this; simp only [Nat.add_zero] at this; rw [← this]
          · have := HS1.out; rw [HK.out] at this; simp only [List.append_nil] at this
            rw [← this]
            exact OwnP.rows (OwnP.below HOP.out HB1.out) (fun x hx => (HOS.out x hx).below (bt HBW.out HB1.out))
        · exfalso
          rw [HN0.out] at hk
          exact absurd hk (by decide)
      · go_wp2_with fail
        refine (rget_at _ (l.drop n) _ _ w wr (by rw [HLD.out]) (BAt.tailA HX.out n) HBW.out (by rw [HLD.out]; omega) (Nat.le_trans (Nat.sub_le _ _) HCM.out) (by rw [HLD.out]; omega)).mono ?_
        rintro e w1 ⟨⟨hk, rfl⟩ | ⟨hk, p1, c1, p2, c2, rfl, hb1, hb2⟩, h1⟩
        · have HB1 : Hid (Below wr.heap.size wr w1) := h1
          have HK : Hid (C.scan (l.drop n) = ([], 0)) := C.scan_stop hk
          clear h1
          generalize (C.fe (l.drop n)).2 = k at hk ⊢
          have hk' : ¬ (k : Int) = 0 := by omega
          go_wp2
          go_ret3
          refine ⟨⟨_, ret_row rfl ?_ ?_, ?_⟩, bt HBW.out HB1.out⟩
          · have := HS2.out; rw [HK.out] at this; simp only at this; omega
          · have := HS2.out; rw [HK.out] at this; simp only [Nat.add_zero] at this; rw [← this]
          · have := HS1.out; rw [HK.out] at this; simp only [List.append_nil] at this
            rw [← this]
            exact OwnP.rows (OwnP.below HOP.out HB1.out) (fun x hx => (HOS.out x hx).below (bt HBW.out HB1.out))
        · have HB1 : Hid (Below wr.heap.size wr w1) := h1
          have HWB : Hid (Below w.heap.size w w1) := bt HBW.out h1
          obtain ⟨hm1, hm2, hm3⟩ := C.fe_ok hk
          have HST := HRI.out hk
          have HSX : Hid _ := HST
          have hrl : (C.rest (l.drop n)).length = l.length - n - (C.fe (l.drop n)).1 := by rw [C.rest, List.length_drop, HLD.out]
          rw [HLD.out] at hm2
          generalize (C.fe (l.drop n)).1 = m at hm1 hm2 hm3 hrl HSX
          have HP1 : Hid (Part.ok w ⟨p1, C.rec (l.drop n), c1⟩) := by
            refine ⟨?_, hb1⟩
            show (C.rec (l.drop n)).length ≤ maxLen
            rw [C.rec, List.length_take, List.length_drop, HLD.out]
            unfold maxLen; omega
          generalize hq : (C.rest (l.drop n)).length = q at hrl ⊢
          generalize hr : C.rec (l.drop n) = r at HSX HP1 ⊢
          have hql : q ≤ l.length := by omega
          clear h1 HST hb1 hb2 hk hq hr HRI
          go_wp2_with (at_builtin; go_must ((refine wpList_append_one rfl _ _ rfl w.heap.size _ ps rfl (OwnP.below (OwnP.below HOP.out HB1.out) (below_new _ _)) ⟨p1, r, c1⟩ w1.heap.size rfl (by simp [Part.v]) (by omega) (by have := HWB.out.size; simp; omega) ?_; intro v3 w3 ho3 hg3)))
          go_roundw
          case rel =>
            have hP := OwnP.below (OwnP.below HOP.out HB1.out) (below_new w1 (.cells #[Value.slice p1 r.length c1] 23))
            have hB0 : Below w.heap.size w (w1.alloc (.cells #[Value.slice p1 r.length c1] 23)) := bt HWB.out (below_new _ _)
            refine ⟨n + m, ps ++ [⟨p1, r, c1⟩], ?_, by omega, by simp; omega, ho3, fun x hx => ?_, OwnP.grown hP hB0 hB0.size hg3, ?_, ?_⟩
            · congr 1; omega
            · rcases List.mem_append.1 hx with hx | hx
              · exact HOS.out x hx
              · simp only [List.mem_singleton] at hx
                subst hx
                exact HP1.out
            · rw [← HS1.out, HSX.out]; simp
            · rw [← HS2.out, HSX.out]; simp only; omega
          case measure => simp [intOf]; omega
end Go.Proofs.YtjnlkgamnabhjaaDoor
