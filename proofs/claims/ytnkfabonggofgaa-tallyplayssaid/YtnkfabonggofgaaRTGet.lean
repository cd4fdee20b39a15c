/-
  The document's own tally: GetTally.
-/
import Derived.Test.YtnkfabonggofgaaZ4
import Derived.Test.YtnkfabonggofgaaYObjs
namespace Go.Proofs.Ytnkfabonggofgaa
open Go.RowKit Go.Lib
set_option linter.unusedVariables false

theorem TaAt.ne_rs {w : World} {g k : Nat} {t : TypeId} {T : C.Ta} {s : Option (List UInt8)} {p : Option Addr} {n c : Nat} {l : List UInt8} (h : TaAt w g t T) (hr : Rs w k p n c l s) : g ≠ k := by
  rintro rfl
  obtain ⟨a, hr, -⟩ := hr
  have h2 := hr.c0
  have h3 := h.up (k := 0) (by decide)
  rw [h2] at h3
  cases h3
set_option maxRecDepth 100000 in
set_option maxHeartbeats 4000000 in
theorem rtget_any (w : World) (g : Nat) (p : Option Addr) (n c : Nat) (l : List UInt8) (s s' : Option (List UInt8)) (T : C.Ta) (h : Rs w g p n c l s) (hl : l.length ≤ 100000) (hv : C.getT s = (T, s')) :
    Calls Try.prog 19 #[.pointer (some ⟨g, 0, none⟩)] w fun e w' => TGet w g 37 T s' e w' ∧ Rs w' g p n c l s' ∧ w.grownBy w' (some g) := by
  have HX : Hid (Rs w g p n c l (C.getTo s 0).2) := h
  have HL : Hid (l.length ≤ 100000) := hl
  have HG : Hid (g < w.heap.size) := h.lt
  have HV : Hid (T.u = (C.getTo s 7).1 ∧ T.d = (C.getTo (C.getTo s 7).2 7).1 ∧ s' = (C.getTo (C.getTo s 7).2 7).2) := by
    show _ ∧ _
    simp only [C.getTo_all]
    unfold C.getT at hv
    simp only [Prod.mk.injEq] at hv
    obtain ⟨rfl, rfl⟩ := hv
    exact ⟨rfl, rfl, rfl⟩
  clear h hl hv
  obtain ⟨W1, hW1⟩ : ∃ W1, W1 = w.alloc (.cells (cells14 C.zero77 C.zero77) 37) := ⟨_, rfl⟩
  have HB1 : Hid (Below w.heap.size w W1) := by show Below _ _ _; rw [hW1]; exact below_new _ _
  have HT1 : Hid (TaAt W1 w.heap.size 37 ⟨(C.getTo s 0).1, C.zero77⟩) := by show _ = _; rw [hW1]; exact heap_alloc_new _ _
  go_enter Try.func19, Try.ntmps19
  go_wp2
  simp only [cells14, C.zero77] at hW1
  rw [← hW1]
  clear hW1
  generalize hgt : w.heap.size = gt at *
  go_loopw [4] (fun s4 wr => ∃ (k : Nat), s4 = .int .i64 k ∧ k ≤ 7 ∧ Hid (Rs wr g p n c l (C.getTo s k).2) ∧ Hid (TaAt wr gt 37 ⟨(C.getTo s k).1, C.zero77⟩) ∧ Hid (w.grownBy wr (some g))) (fun s4 _ => 7 - (intOf s4).toNat)
  case atStart => exact ⟨0, rfl, by decide, HX.out.below (by rw [hgt]; exact HB1.out), HT1.out, gbelow (by rw [hgt]; exact HB1.out)⟩
  case round =>
    clear HX HT1 HB1
    obtain ⟨k, rfl, hk7, HS, HA, HW⟩ := hrel
    by_cases hk : k < 7
    · obtain ⟨x, s2, hr⟩ : ∃ x s2, C.rnum (C.getTo s k).2 0 1125899906842624 = (x, s2) := ⟨_, _, rfl⟩
      have HR : Hid _ := hr
      have HE : Hid ((C.getTo s (k + 1)).1 = C.set7 (C.getTo s k).1 k x ∧ (C.getTo s (k + 1)).2 = s2) := by
        show _ ∧ _
        simp only [C.getTo, hr]
        exact ⟨trivial, trivial⟩
      clear hr
      go_wp2_with fail
      go_region_with (go_at_call 29; refine (refrnum_at wr.drew g p n c l _ s2 0 1125899906842624 x (HS.out.below ((Below.refl _ wr).drew)) HL.out HR.out).mono ?_; rintro e w2 ⟨rfl, hs2, hg2⟩; have ha2 : TaAt w2 gt 37 ⟨(C.getTo s k).1, C.zero77⟩ := HA.out.same (hg2.block gt HA.out.lt (fun e => HA.out.ne_rs HS.out (by cases e; rfl))); have y2 := ha2.up hk; have f2 := ha2.fz k)
      all_goals
        have HR2 : Hid (Rs (w2.setCell ⟨gt, k, none⟩ (.int .i64 x)) g p n c l (C.getTo s (k + 1)).2) := by rw [HE.out.2]; exact hs2.kept (set_grown _ _ _ _) ha2.nb (ha2.ne_rs hs2).symm
        have HA2 : Hid (TaAt (w2.setCell ⟨gt, k, none⟩ (.int .i64 x)) gt 37 ⟨(C.getTo s (k + 1)).1, C.zero77⟩) := by rw [HE.out.1]; exact ha2.setU hk x
        have HW2 : Hid (w.grownBy (w2.setCell ⟨gt, k, none⟩ (.int .i64 x)) (some g)) := grown_set (gtrans HW.out (gtrans (gdrew wr g) hg2)) (Nat.le_of_eq hgt)
        clear hs2 hg2 ha2 y2 f2
        go_wp2
        go_roundw
        case rel => exact ⟨k + 1, by go_num, by omega, HR2.out, HA2.out, HW2.out⟩
        case measure => simp [intOf]; omega
    · have HK : Hid (k = 7) := by show _ = _; omega
      have HS0 : Hid (Rs wr g p n c l (C.getTo (C.getTo s k).2 0).2) := HS.out
      have HA0 : Hid (TaAt wr gt 37 ⟨(C.getTo s k).1, (C.getTo (C.getTo s k).2 0).1⟩) := HA.out
      clear HS HA
      go_wp2
      go_loopw [5] (fun s5 wr => ∃ (j : Nat), s5 = .int .i64 j ∧ j ≤ 7 ∧ Hid (Rs wr g p n c l (C.getTo (C.getTo s k).2 j).2) ∧ Hid (TaAt wr gt 37 ⟨(C.getTo s k).1, (C.getTo (C.getTo s k).2 j).1⟩) ∧ Hid (w.grownBy wr (some g))) (fun s5 _ => 7 - (intOf s5).toNat)
      case atStart => exact ⟨0, rfl, by decide, HS0.out, HA0.out, HW.out⟩
      case round =>
        clear HS0 HA0 HW
        obtain ⟨j, rfl, hj7, HS, HA, HW⟩ := hrel
        by_cases hj : j < 7
        · obtain ⟨x, s2, hr⟩ : ∃ x s2, C.rnum (C.getTo (C.getTo s k).2 j).2 0 1125899906842624 = (x, s2) := ⟨_, _, rfl⟩
          have HR : Hid _ := hr
          have HE : Hid ((C.getTo (C.getTo s k).2 (j + 1)).1 = C.set7 (C.getTo (C.getTo s k).2 j).1 j x ∧ (C.getTo (C.getTo s k).2 (j + 1)).2 = s2) := by
            show _ ∧ _
            refine ⟨?_, ?_⟩ <;> simp only [C.getTo, hr]
          clear hr
          go_wp2_with fail
          go_region_with (go_at_call 29; refine (refrnum_at wr.drew g p n c l _ s2 0 1125899906842624 x (HS.out.below ((Below.refl _ wr).drew)) HL.out HR.out).mono ?_; rintro e w2 ⟨rfl, hs2, hg2⟩; have ha2 : TaAt w2 gt 37 ⟨(C.getTo s k).1, (C.getTo (C.getTo s k).2 j).1⟩ := HA.out.same (hg2.block gt HA.out.lt (fun e => HA.out.ne_rs HS.out (by cases e; rfl))); have y2 := ha2.dn hj; have f2 := ha2.fz (7 + j))
          all_goals
            have HR2 : Hid (Rs (w2.setCell ⟨gt, 7 + j, none⟩ (.int .i64 x)) g p n c l (C.getTo (C.getTo s k).2 (j + 1)).2) := by rw [HE.out.2]; exact hs2.kept (set_grown _ _ _ _) ha2.nb (ha2.ne_rs hs2).symm
            have HA2 : Hid (TaAt (w2.setCell ⟨gt, 7 + j, none⟩ (.int .i64 x)) gt 37 ⟨(C.getTo s k).1, (C.getTo (C.getTo s k).2 (j + 1)).1⟩) := by rw [HE.out.1]; exact ha2.setD hj x
            have HW2 : Hid (w.grownBy (w2.setCell ⟨gt, 7 + j, none⟩ (.int .i64 x)) (some g)) := grown_set (gtrans HW.out (gtrans (gdrew wr g) hg2)) (Nat.le_of_eq hgt)
            clear hs2 hg2 ha2 y2 f2
            go_wp2
            go_roundw
            case rel => exact ⟨j + 1, by go_num, by omega, HR2.out, HA2.out, HW2.out⟩
            case measure => simp [intOf]; omega
        · have HJ : Hid (j = 7) := by show _ = _; omega
          have HF : Hid (Rs wr g p n c l s' ∧ TaAt wr gt 37 T ∧ w.grownBy wr (some g)) := by
            have h1 := HS.out
            have h2 := HA.out
            rw [HJ.out, HK.out] at h1 h2
            rw [← HV.out.2.2] at h1
            rw [← HV.out.1, ← HV.out.2.1] at h2
            exact ⟨h1, h2, HW.out⟩
          obtain ⟨a, hRr, hRs⟩ := HF.out.1
          have hc2 := hRr.c2
          clear HS HA HW hRr hRs
          cases s' with
          | none =>
            have hc2' : wr.cell? ⟨g, 2, none⟩ = some (.bool true) := hc2
            clear hc2
            go_wp2
            go_ret
            exact ⟨Or.inl ⟨rfl, rfl⟩, HF.out.1, HF.out.2.2⟩
          | some r =>
            have hc2' : wr.cell? ⟨g, 2, none⟩ = some (.bool false) := hc2
            clear hc2
            go_wp2
            go_ret
            exact ⟨Or.inr ⟨r, gt, rfl, rfl, Nat.le_of_eq hgt, HF.out.2.1⟩, HF.out.1, HF.out.2.2⟩
end Go.Proofs.Ytnkfabonggofgaa
