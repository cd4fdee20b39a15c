/-
  Several texts in one: RTVal, RTPut.
-/
import Derived.Test.YtnkfabonggofgaaZ3
import Derived.Test.YtnkfabonggofgaaRTMath
import Derived.Test.YtnkfabonggofgaaZ1
import Derived.BigRegion
import Derived.Test.YtnkfabonggofgaaYGet
import Derived.Test.YtnkfabonggofgaaZ2
import Derived.Deep.RegionWith
namespace Go.Proofs.Ytnkfabonggofgaa
open Go.RowKit Go.Lib
set_option linter.unusedVariables false

set_option maxRecDepth 100000 in
set_option maxHeartbeats 4000000 in
theorem rvalue_any (w : World) (g : Nat) (T : C.Ta) (z : Int) (h : TaAt w g 37 T) (hT : T.Ok) (hz : C.valT T = z) :
    Calls Try.prog 14 #[.pointer (some ⟨g, 0, none⟩)] w fun e w' => e = .returned (.int .i64 z) ∧ Below w.heap.size w w' := by
  subst hz
  have H : Hid (TaAt w g 37 T) := h
  have HT : Hid T.Ok := hT
  clear h hT
  go_enter Try.func14, Try.ntmps14
  go_wp2
  go_loopw [3, 4] (fun s3 s4 wr => ∃ (k : Nat), s3 = .int .i64 (C.vsum T k) ∧ s4 = .int .i64 k ∧ k ≤ 7 ∧ Hid (Below w.heap.size w wr)) (fun _ s4 _ => 7 - (intOf s4).toNat)
  case atStart => exact ⟨0, rfl, rfl, by decide, Below.refl _ _⟩
  case round =>
    obtain ⟨k, rfl, rfl, hk7, HB⟩ := hrel
    have hvb := C.vsum_bound HT.out k hk7
    by_cases hk : k < 7
    · have y1 := (H.out.below HB.out).up hk
      have y2 := (H.out.below HB.out).dn hk
      have b1 := C.ok50_at HT.out.u k
      have b2 := C.ok50_at HT.out.d k
      have HV : Hid (C.vsum T (k + 1) = C.vsum T k + C.at7 T.u k - C.at7 T.d k) := rfl
      generalize C.vsum T k = v0 at hvb HV
      generalize C.at7 T.u k = x at y1 b1 HV
      generalize C.at7 T.d k = y at y2 b2 HV
      go_wp2_with fail
      go_quiet (fail)
      go_wp2
      go_roundw
      case rel => exact ⟨k + 1, by rw [HV.out], by go_num, by omega, bt HB.out (drawn_below _ _)⟩
      case measure => simp [intOf]; omega
    · obtain rfl : k = 7 := by omega
      have HV : Hid (C.vsum T 7 = C.valT T) := C.vsum_all T
      generalize C.vsum T 7 = v0 at hvb HV
      go_wp2
      go_ret
      exact ⟨by rw [HV.out]; rfl, HB.out⟩
set_option maxRecDepth 100000 in
set_option maxHeartbeats 8000000 in
theorem rmerge_any (w : World) (g j : Nat) (S T : C.Ta) (h : TaAt w g 37 S) (h2 : TaAt w j 37 T) (hne : g ≠ j) :
    Calls Try.prog 18 #[.pointer (some ⟨g, 0, none⟩), .pointer (some ⟨j, 0, none⟩)] w fun e w' => e = .returned (.tuple #[]) ∧ TaAt w' g 37 (C.mrgT S T) ∧ Turn w w' (fun b => b = g) := by
  have HS : Hid (TaAt w g 37 ⟨C.upto S.u T.u 0, C.upto S.d T.d 0⟩) := h
  have HT : Hid (TaAt w j 37 T) := h2
  have HNE : Hid (g ≠ j) := hne
  clear h h2 hne
  go_enter Try.func18, Try.ntmps18
  go_wp2
  go_loopw [4] (fun s4 wr => ∃ (k : Nat), s4 = .int .i64 k ∧ k ≤ 7 ∧ Hid (TaAt wr g 37 ⟨C.upto S.u T.u k, C.upto S.d T.d k⟩) ∧ Hid (Turn w wr (fun b => b = g))) (fun s4 _ => 7 - (intOf s4).toNat)
  case atStart => exact ⟨0, rfl, by decide, HS.out, Turn.refl _ _⟩
  case round =>
    clear HS
    obtain ⟨k, rfl, hk7, HO, HU⟩ := hrel
    by_cases hk : k < 7
    · have HJ : Hid (TaAt wr j 37 T) := HT.out.same (HU.out.block j HT.out.lt (fun e => HNE.out e.symm))
      have y1 := HO.out.up hk
      have z1 := HJ.out.up hk
      have f1 := HO.out.fz k
      simp only [C.upto_at S.u T.u k k (Nat.le_refl _) hk] at y1
      obtain ⟨s, hs⟩ : ∃ s, C.at7 S.u k = s := ⟨_, rfl⟩
      obtain ⟨t, ht⟩ : ∃ t, C.at7 T.u k = t := ⟨_, rfl⟩
      rw [hs] at y1
      rw [ht] at z1
      obtain ⟨s', hs'⟩ : ∃ s, C.at7 S.d k = s := ⟨_, rfl⟩
      obtain ⟨t', ht'⟩ : ∃ t, C.at7 T.d k = t := ⟨_, rfl⟩
      have HE : Hid (C.at7 S.u k = s ∧ C.at7 T.u k = t ∧ C.at7 S.d k = s' ∧ C.at7 T.d k = t') := ⟨hs, ht, hs', ht'⟩
      clear hs ht hs' ht'
      obtain ⟨U0, hU0⟩ : ∃ U0, C.upto S.u T.u k = U0 := ⟨_, rfl⟩
      obtain ⟨D0, hD0⟩ : ∃ D0, C.upto S.d T.d k = D0 := ⟨_, rfl⟩
      rw [hU0, hD0] at HO
      have HU0 : Hid _ := hU0
      have HD0 : Hid _ := hD0
      clear hU0 hD0
      obtain ⟨U1, hU1⟩ : ∃ U1, C.upto S.u T.u (k + 1) = U1 := ⟨_, rfl⟩
      have HU1 : Hid _ := hU1
      clear hU1
      by_cases hlt : s < t
      · go_wp2_with fail
        go_quiet (fail)
        go_wp2_with fail
        refine wp_letter (fun W => Below wr.heap.size wr W) (drawn_below _ _) ?_
        intro W1 hB1
        have hO1 := HO.out.below hB1
        have hJ1 := HJ.out.below hB1
        clear y1 z1 f1
        have y1 := hO1.up hk
        have z1 := hJ1.up hk
        have f1 := hO1.fz k
        simp only [← HU0.out, C.upto_at S.u T.u k k (Nat.le_refl _) hk, HE.out.1] at y1
        simp only [HE.out.2.1] at z1
        have y1d : W1.drew.cell? ⟨g, k, none⟩ = some (.int .i64 s) := y1
        have z1d : W1.drew.cell? ⟨j, k, none⟩ = some (.int .i64 t) := z1
        have f1d : W1.drew.frozen? ⟨g, k, none⟩ = false := f1
        have HR1 : Hid (TaAt (W1.drew.setCell ⟨g, k, none⟩ (.int .i64 t)) g 37 ⟨U1, D0⟩ ∧ Turn w (W1.drew.setCell ⟨g, k, none⟩ (.int .i64 t)) (fun b => b = g)) := by
          refine ⟨?_, ((HU.out.trans (Turn.of_below hB1) fun x hx => Or.inl hx).drew).setCell rfl _⟩
          have q := TaAt.setU (w := W1.drew) (u := U0) (d := D0) (show TaAt W1.drew g 37 ⟨U0, D0⟩ from hO1) hk t
          rw [← HU0.out, ← HE.out.2.1, C.upto_more hk (by rw [HE.out.1, HE.out.2.1]; exact hlt), HU1.out, HE.out.2.1] at q
          exact q
        clear hO1 hJ1
        go_region
        all_goals
          go_wp2_with fail
          refine wp_letter (fun W => TaAt W g 37 ⟨U1, D0⟩ ∧ Turn w W (fun b => b = g)) HR1.out ?_
          intro W2 hR2
          have HR2 : Hid _ := hR2
          clear hR2 y1d z1d f1d HR1
          clear y1 z1 f1
          have hJ1 : TaAt W2 j 37 T := HT.out.same (HR2.out.2.block j HT.out.lt (fun e => HNE.out e.symm))
          have y2 := HR2.out.1.dn hk
          have z2 := hJ1.dn hk
          have f2 := HR2.out.1.fz (7 + k)
          simp only [← HD0.out, C.upto_at S.d T.d k k (Nat.le_refl _) hk, HE.out.2.2.1] at y2
          simp only [HE.out.2.2.2] at z2
          clear hJ1
          by_cases hlt2 : s' < t'
          · go_quiet (fail)
            go_wp2_with fail
            refine wp_letter (fun W => Below W2.heap.size W2 W) (drawn_below _ _) ?_
            intro W3 hB3
            have hO3 := HR2.out.1.below hB3
            have hJ3 : TaAt W3 j 37 T := HT.out.same ((hB3.block j (by have := HT.out.lt; have := HR2.out.2.size; omega)).trans (HR2.out.2.block j HT.out.lt (fun e => HNE.out e.symm)))
            have y3 := hO3.dn hk
            have z3 := hJ3.dn hk
            have f3 := hO3.fz (7 + k)
            simp only [← HD0.out, C.upto_at S.d T.d k k (Nat.le_refl _) hk, HE.out.2.2.1] at y3
            simp only [HE.out.2.2.2] at z3
            have y3d : W3.drew.cell? ⟨g, 7 + k, none⟩ = some (.int .i64 s') := y3
            have z3d : W3.drew.cell? ⟨j, 7 + k, none⟩ = some (.int .i64 t') := z3
            have f3d : W3.drew.frozen? ⟨g, 7 + k, none⟩ = false := f3
            have HR3 : Hid (TaAt (W3.drew.setCell ⟨g, 7 + k, none⟩ (.int .i64 t')) g 37 ⟨C.upto S.u T.u (k + 1), C.upto S.d T.d (k + 1)⟩ ∧ Turn w (W3.drew.setCell ⟨g, 7 + k, none⟩ (.int .i64 t')) (fun b => b = g)) := by
              refine ⟨?_, ((HR2.out.2.trans (Turn.of_below hB3) fun x hx => Or.inl hx).drew).setCell rfl _⟩
              have q := TaAt.setD (w := W3.drew) (u := U1) (d := D0) (show TaAt W3.drew g 37 ⟨U1, D0⟩ from hO3) hk t'
              rw [← HD0.out, ← HE.out.2.2.2, C.upto_more hk (by rw [HE.out.2.2.1, HE.out.2.2.2]; exact hlt2), ← HU1.out, HE.out.2.2.2] at q
              exact q
            clear hO3 hJ3 y2 z2 f2 hB3
            go_wp2_with fail
            go_region
            all_goals
              clear y3 z3 f3 y3d z3d f3d
              go_wp2
              go_roundw
              case rel => exact ⟨k + 1, by go_num, by omega, HR3.out.1, HR3.out.2⟩
              case measure => simp [intOf]; omega
          · have HR3 : Hid (∀ W3, Below W2.heap.size W2 W3 → TaAt W3 g 37 ⟨C.upto S.u T.u (k + 1), C.upto S.d T.d (k + 1)⟩ ∧ Turn w W3 (fun b => b = g)) := fun W3 hB3 => by
              refine ⟨?_, HR2.out.2.trans (Turn.of_below hB3) fun x hx => Or.inl hx⟩
              have q := HR2.out.1.below hB3
              rw [← HD0.out, C.upto_less hk (by rw [HE.out.2.2.1, HE.out.2.2.2]; exact hlt2), ← HU1.out] at q
              exact q
            go_quiet (fail)
            go_wp2
            go_roundw
            case rel => exact ⟨k + 1, by go_num, by omega, (HR3.out _ (drawn_below _ _)).1, (HR3.out _ (drawn_below _ _)).2⟩
            case measure => simp [intOf]; omega
      · go_wp2_with fail
        go_quiet (fail)
        go_wp2_with fail
        have HR1 : Hid (∀ W, Below wr.heap.size wr W → TaAt W g 37 ⟨U1, D0⟩ ∧ Turn w W (fun b => b = g)) := fun W hB1 => by
          refine ⟨?_, HU.out.trans (Turn.of_below hB1) fun x hx => Or.inl hx⟩
          have q := HO.out.below hB1
          rw [← HU0.out, C.upto_less hk (by rw [HE.out.1, HE.out.2.1]; omega), HU1.out] at q
          exact q
        refine wp_letter (fun W => TaAt W g 37 ⟨U1, D0⟩ ∧ Turn w W (fun b => b = g)) (HR1.out _ (drawn_below _ _)) ?_
        intro W2 hR2
        have HR2 : Hid _ := hR2
        clear hR2 HR1
        clear y1 z1 f1
        have hJ1 : TaAt W2 j 37 T := HT.out.same (HR2.out.2.block j HT.out.lt (fun e => HNE.out e.symm))
        have y2 := HR2.out.1.dn hk
        have z2 := hJ1.dn hk
        have f2 := HR2.out.1.fz (7 + k)
        simp only [← HD0.out, C.upto_at S.d T.d k k (Nat.le_refl _) hk, HE.out.2.2.1] at y2
        simp only [HE.out.2.2.2] at z2
        clear hJ1
        by_cases hlt2 : s' < t'
        · go_quiet (fail)
          go_wp2_with fail
          refine wp_letter (fun W => Below W2.heap.size W2 W) (drawn_below _ _) ?_
          intro W3 hB3
          have hO3 := HR2.out.1.below hB3
          have hJ3 : TaAt W3 j 37 T := HT.out.same ((hB3.block j (by have := HT.out.lt; have := HR2.out.2.size; omega)).trans (HR2.out.2.block j HT.out.lt (fun e => HNE.out e.symm)))
          have y3 := hO3.dn hk
          have z3 := hJ3.dn hk
          have f3 := hO3.fz (7 + k)
          simp only [← HD0.out, C.upto_at S.d T.d k k (Nat.le_refl _) hk, HE.out.2.2.1] at y3
          simp only [HE.out.2.2.2] at z3
          have y3d : W3.drew.cell? ⟨g, 7 + k, none⟩ = some (.int .i64 s') := y3
          have z3d : W3.drew.cell? ⟨j, 7 + k, none⟩ = some (.int .i64 t') := z3
          have f3d : W3.drew.frozen? ⟨g, 7 + k, none⟩ = false := f3
          have HR3 : Hid (TaAt (W3.drew.setCell ⟨g, 7 + k, none⟩ (.int .i64 t')) g 37 ⟨C.upto S.u T.u (k + 1), C.upto S.d T.d (k + 1)⟩ ∧ Turn w (W3.drew.setCell ⟨g, 7 + k, none⟩ (.int .i64 t')) (fun b => b = g)) := by
            refine ⟨?_, ((HR2.out.2.trans (Turn.of_below hB3) fun x hx => Or.inl hx).drew).setCell rfl _⟩
            have q := TaAt.setD (w := W3.drew) (u := U1) (d := D0) (show TaAt W3.drew g 37 ⟨U1, D0⟩ from hO3) hk t'
            rw [← HD0.out, ← HE.out.2.2.2, C.upto_more hk (by rw [HE.out.2.2.1, HE.out.2.2.2]; exact hlt2), ← HU1.out, HE.out.2.2.2] at q
            exact q
          clear hO3 hJ3 y2 z2 f2 hB3
          go_wp2_with fail
          go_region
          all_goals
            clear y3 z3 f3 y3d z3d f3d
            go_wp2
            go_roundw
            case rel => exact ⟨k + 1, by go_num, by omega, HR3.out.1, HR3.out.2⟩
            case measure => simp [intOf]; omega
        · have HR3 : Hid (∀ W3, Below W2.heap.size W2 W3 → TaAt W3 g 37 ⟨C.upto S.u T.u (k + 1), C.upto S.d T.d (k + 1)⟩ ∧ Turn w W3 (fun b => b = g)) := fun W3 hB3 => by
            refine ⟨?_, HR2.out.2.trans (Turn.of_below hB3) fun x hx => Or.inl hx⟩
            have q := HR2.out.1.below hB3
            rw [← HD0.out, C.upto_less hk (by rw [HE.out.2.2.1, HE.out.2.2.2]; exact hlt2), ← HU1.out] at q
            exact q
          go_quiet (fail)
          go_wp2
          go_roundw
          case rel => exact ⟨k + 1, by go_num, by omega, (HR3.out _ (drawn_below _ _)).1, (HR3.out _ (drawn_below _ _)).2⟩
          case measure => simp [intOf]; omega
    · obtain rfl : k = 7 := by omega
      go_wp2
      go_end0
      exact ⟨rfl, HO.out, HU.out⟩
end Go.Proofs.Ytnkfabonggofgaa

namespace Go.Proofs.Ytnkfabonggofgaa
open Go.RowKit Go.Lib
set_option linter.unusedVariables false

set_option maxRecDepth 100000 in
set_option maxHeartbeats 4000000 in
theorem rtput_any (w : World) (g : Nat) (T : C.Ta) (pb : Option Addr) (nb cb : Nat) (lb l : List UInt8) (h : TaAt w g 37 T) (hT : T.Ok) (hb : Is w pb nb cb lb) (hlb : lb.length ≤ 50000) (hl : l = lb ++ C.tbytes T) :
    Calls Try.prog 21 #[.pointer (some ⟨g, 0, none⟩), .slice pb nb cb] w fun e w' => (∃ p n k, e = .returned (.slice p n k) ∧ Is w' p n k l) ∧ Below w.heap.size w w' := by
  subst hl
  have H : Hid (TaAt w g 37 T) := h
  have HT : Hid T.Ok := hT
  have HB : Hid (Is w pb nb cb (lb ++ C.nums7 T.u 0)) := by show Is _ _ _ _ _; simpa [C.nums7] using hb
  have HLB : Hid (lb.length ≤ 50000) := hlb
  have HLU : Hid (∀ k, k ≤ 7 → (lb ++ C.nums7 T.u k).length ≤ 50070) := fun k hk => by have := C.nums7_len hT.u k; rw [List.length_append]; omega
  have HLD : Hid (∀ i k, i ≤ 7 → k ≤ 7 → ((lb ++ C.nums7 T.u i) ++ C.nums7 T.d k).length ≤ 50140) := fun i k hi hk => by have h1 := C.nums7_len hT.u i; have := C.nums7_len hT.d k; rw [List.length_append, List.length_append]; omega
  clear h hT hb hlb
  go_enter Try.func21, Try.ntmps21
  go_wp2
  go_loopw [1, 5] (fun s1 s5 wr => ∃ (k : Nat) (p : Option Addr) (n c : Nat), s1 = .slice p n c ∧ s5 = .int .i64 k ∧ k ≤ 7 ∧ Hid (Is wr p n c (lb ++ C.nums7 T.u k)) ∧ Hid (Below w.heap.size w wr)) (fun _ s5 _ => 7 - (intOf s5).toNat)
  case atStart => exact ⟨0, _, _, _, rfl, rfl, by decide, HB.out, Below.refl _ _⟩
  case round =>
    clear HB
    obtain ⟨k, p, n, c, rfl, rfl, hk7, HI, HW⟩ := hrel
    by_cases hk : k < 7
    · have y1 := (H.out.below HW.out).up hk
      have HF : Hid (C.fits (C.at7 T.u k)) := by have := C.ok50_at HT.out.u k; exact ⟨by omega, by omega⟩
      have HE : Hid (lb ++ C.nums7 T.u (k + 1) = (lb ++ C.nums7 T.u k) ++ C.num (C.at7 T.u k)) := by show _ = _; rw [List.append_assoc]; rfl
      generalize C.at7 T.u k = x at y1 HF HE
      go_wp2_with fail
      refine (refnum_at p n c _ _ x wr HI.out HF.out (by have := HLU.out k hk7; omega) HE.out).mono ?_
      rintro e w2 ⟨⟨p2, n2, c2, rfl, hi2⟩, hb2⟩
      have HI2 : Hid _ := hi2
      have HW2 : Hid (Below w.heap.size w w2) := bt HW.out hb2
      clear hi2 hb2 y1 HI HW HE HF
      go_wp2
      go_roundw
      case rel => exact ⟨k + 1, p2, n2, c2, rfl, by go_num, by omega, HI2.out, HW2.out⟩
      case measure => simp [intOf]; omega
    · have HK : Hid (k = 7) := by show _ = _; omega
      have HI0 : Hid (Is wr p n c ((lb ++ C.nums7 T.u k) ++ C.nums7 T.d 0)) := by show Is _ _ _ _ _; simpa [C.nums7] using HI.out
      clear HI
      go_wp2
      go_loopw [1, 6] (fun s1 s6 wr => ∃ (i : Nat) (p : Option Addr) (n c : Nat), s1 = .slice p n c ∧ s6 = .int .i64 i ∧ i ≤ 7 ∧ Hid (Is wr p n c ((lb ++ C.nums7 T.u k) ++ C.nums7 T.d i)) ∧ Hid (Below w.heap.size w wr)) (fun _ s6 _ => 7 - (intOf s6).toNat)
      case atStart => exact ⟨0, _, _, _, rfl, rfl, by decide, HI0.out, HW.out⟩
      case round =>
        clear HI0 HW
        obtain ⟨j, p, n, c, rfl, rfl, hj7, HI, HW⟩ := hrel
        by_cases hj : j < 7
        · have y1 := (H.out.below HW.out).dn hj
          have HF : Hid (C.fits (C.at7 T.d j)) := by have := C.ok50_at HT.out.d j; exact ⟨by omega, by omega⟩
          have HE : Hid ((lb ++ C.nums7 T.u k) ++ C.nums7 T.d (j + 1) = ((lb ++ C.nums7 T.u k) ++ C.nums7 T.d j) ++ C.num (C.at7 T.d j)) := by show _ = _; rw [List.append_assoc (lb ++ C.nums7 T.u k)]; rfl
          generalize C.at7 T.d j = x at y1 HF HE
          go_wp2_with fail
          refine (refnum_at p n c _ _ x wr HI.out HF.out (by have := HLD.out k j hk7 hj7; omega) HE.out).mono ?_
          rintro e w2 ⟨⟨p2, n2, c2, rfl, hi2⟩, hb2⟩
          have HI2 : Hid _ := hi2
          have HW2 : Hid (Below w.heap.size w w2) := bt HW.out hb2
          clear hi2 hb2 y1 HI HW HE HF
          go_wp2
          go_roundw
          case rel => exact ⟨j + 1, p2, n2, c2, rfl, by go_num, by omega, HI2.out, HW2.out⟩
          case measure => simp [intOf]; omega
        · obtain rfl : j = 7 := by omega
          have HI1 : Hid (Is wr p n c (lb ++ C.tbytes T)) := by
            have := HI.out
            rw [HK.out, C.nums7_all, C.nums7_all, List.append_assoc] at this
            exact this
          clear HI
          go_wp2
          go_ret
          exact ⟨⟨_, _, _, rfl, HI1.out⟩, HW.out⟩
end Go.Proofs.Ytnkfabonggofgaa
