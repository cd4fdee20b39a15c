/-
  The document's own: Put.
-/
import Derived.Test.YtebfhomopdnkkaaEDWrite
import Derived.Test.YtebfhomopdnkkaaRWrite
import Derived.Test.YtebfhomopdnkkaaZ2
namespace Go.Proofs.Ytebfhomopdnkkaa
open Go.RowKit Go.Lib
set_option linter.unusedVariables false

theorem rnumw_at (pb : Option Addr) (nb cb : Nat) (lb l' : List UInt8) (v : Int) (w : World) (hb : Is w pb nb cb lb) (hv : C.fits v) (hl : lb.length ≤ 90000) (e : lb ++ C.num v = l') :
    Calls Try.prog 37 #[.slice pb nb cb, .int .i64 v] w fun e w' => (∃ p n c, e = .returned (.slice p n c) ∧ Is w' p n c l') ∧ Below w.heap.size w w' := by
  subst e
  refine (refnum_any pb nb cb lb v w hb hv hl).mono ?_
  rintro e w' ⟨⟨x, rfl, ho⟩, hb⟩
  obtain ⟨p, n, c, rfl, hi⟩ := Own.is ho
  exact ⟨⟨p, n, c, rfl, hi⟩, hb⟩
theorem rbytesw_at (pb : Option Addr) (nb cb : Nat) (lb : List UInt8) (px : Option Addr) (nx cx : Nat) (lx : List UInt8) (w : World) (hb : Is w pb nb cb lb) (hx : Is w px nx cx lx) (hl : lb.length ≤ 40000) (hlx : lx.length ≤ 40000) :
    Calls Try.prog 38 #[.slice pb nb cb, .slice px nx cx] w fun e w' => (∃ p n c, e = .returned (.slice p n c) ∧ Is w' p n c (lb ++ C.byt lx)) ∧ Below w.heap.size w w' := by
  refine (refbytes_any pb nb cb lb px nx cx lx w hb hx hl hlx).mono ?_
  rintro e w' ⟨⟨x, rfl, ho⟩, hb⟩
  obtain ⟨p, n, c, rfl, hi⟩ := Own.is ho
  exact ⟨⟨p, n, c, rfl, hi⟩, hb⟩
set_option maxRecDepth 100000 in
set_option maxHeartbeats 8000000 in
theorem dput_any (w : World) (g : Nat) (S : C.La) (pb : Option Addr) (nb cb : Nat) (lb l : List UInt8) (h : EAt w g true S) (hS : S.Ok) (hb : Is w pb nb cb lb) (hlb : lb.length ≤ 30000) (hl : l = lb ++ C.putL S) :
    Calls Try.prog 18 #[.pointer (some ⟨g, 0, none⟩), .slice pb nb cb] w fun e w' => (∃ p n k, e = .returned (.slice p n k) ∧ Is w' p n k l) ∧ Below w.heap.size w w' := by
  have HB : Hid (Is w pb nb cb lb) := hb
  have HLB : Hid (lb.length ≤ 30000) := hlb
  by_cases hz : S.n = 0
  · have e1 : S = C.La.zero := hS.z hz
    have HL : Hid (lb ++ C.num 0 = l) := by show _ = _; rw [hl]; unfold C.putL; rw [if_pos hz]
    subst e1
    obtain ⟨c0, -⟩ := cells5_at h
    have hzz : ((0 : Int) != 0) = false := rfl
    rw [hzz] at c0
    clear h hS hb hlb hl hz hzz
    go_enter Try.func18, Try.ntmps18
    go_wp2_with fail
    refine (rnumw_at pb nb cb lb l 0 _ HB.out ⟨by decide, by decide⟩ (by have := HLB.out; omega) HL.out).mono ?_
    rintro e w2 ⟨⟨p2, n2, c2, rfl, hi2⟩, hb2⟩
    have HI : Hid _ := hi2
    clear hi2
    go_wp2
    go_ret
    exact ⟨⟨_, _, _, rfl, HI.out⟩, hb2⟩
  · have HF : Hid (C.fits 1 ∧ C.fits S.t ∧ C.fits S.r ∧ C.fits S.n) := ⟨⟨by decide, by decide⟩, C.fitsL hS.t, C.fitsL ⟨hS.r.1, by have := hS.r.2; omega⟩, C.fitsL hS.n⟩
    have HX : Hid (S.x.data.toList.length ≤ 100 ∧ S.x.size ≤ 100) := by
      have e : S.x.data.toList.length = S.x.size := Array.length_toList
      show _ ∧ _
      rw [e]; exact ⟨hS.x, hS.x⟩
    obtain ⟨l1, hl1⟩ : ∃ l1, lb ++ C.num 1 = l1 := ⟨_, rfl⟩
    obtain ⟨l2, hl2⟩ : ∃ l2, l1 ++ C.num S.t = l2 := ⟨_, rfl⟩
    obtain ⟨l3, hl3⟩ : ∃ l3, l2 ++ C.num S.r = l3 := ⟨_, rfl⟩
    obtain ⟨l4, hl4⟩ : ∃ l4, l3 ++ C.num S.n = l4 := ⟨_, rfl⟩
    have HL1 : Hid _ := hl1
    have HL2 : Hid _ := hl2
    have HL3 : Hid _ := hl3
    have HL4 : Hid _ := hl4
    have HL : Hid (l4 ++ C.byt S.x.data.toList = l) := by
      show _ = _
      rw [hl, ← hl4, ← hl3, ← hl2, ← hl1]
      unfold C.putL
      rw [if_neg hz]
      simp [List.append_assoc]
    have HLN : Hid (l1.length ≤ 30010 ∧ l2.length ≤ 30020 ∧ l3.length ≤ 30030 ∧ l4.length ≤ 30040) := by
      have k1 := (C.num_ten HF.out.1).2
      have k2 := (C.num_ten HF.out.2.1).2
      have k3 := (C.num_ten HF.out.2.2.1).2
      have k4 := (C.num_ten HF.out.2.2.2).2
      show _ ∧ _
      rw [← hl4, ← hl3, ← hl2, ← hl1]
      simp only [List.length_append]
      omega
    have e1 : C.isL S = true := by simp [C.isL, hz]
    obtain ⟨x, t, r, n⟩ := S
    simp only at HF HX HL2 HL3 HL4 HL hz
    have hnz : (n != 0) = true := by simp [hz]
    have HE : Hid (∀ W, Below w.heap.size w W → W.cell? ⟨g, 0, none⟩ = some (.bool true) ∧ W.cell? ⟨g, 1, none⟩ = some (.string x) ∧ W.cell? ⟨g, 2, none⟩ = some (.int .i64 t) ∧ W.cell? ⟨g, 3, none⟩ = some (.int .i64 r) ∧ W.cell? ⟨g, 4, none⟩ = some (.int .i64 n)) := fun W hW => by
      have := cells5_at (h.below hW)
      rw [hnz] at this
      exact this
    obtain ⟨y0, -⟩ := HE.out w (Below.refl _ _)
    clear h hS hb hlb hl hz hl1 hl2 hl3 hl4 e1 hnz
    go_enter Try.func18, Try.ntmps18
    go_wp2_with fail
    clear y0
    have hF : ∀ T : NewW w, _ := fun T => HE.out T.v T.h
    have c2 : ∀ T : NewW w, T.v.cell? ⟨g, 2, none⟩ = some (.int .i64 t) := fun T => (hF T).2.2.1
    have c3 : ∀ T : NewW w, T.v.cell? ⟨g, 3, none⟩ = some (.int .i64 r) := fun T => (hF T).2.2.2.1
    have hne : Nonempty (NewW w) := ⟨NewW.start w⟩
    clear hF
    have hC : ∃ m : NewW w, w.drew = m.v := ⟨⟨w.drew, (Below.refl _ w).drew⟩, rfl⟩
    refine wp_region_held_drew (S := fun w' => ∃ m : NewW w, w' = m.v) (by kernel_rfl) hC (fun _ => ?_)
    have hB : Below w.heap.size w w.drew := (Below.refl _ w).drew
    generalize hW0 : w.drew = W0 at *
    clear hW0
    refine takeList (i := 0) rfl (by kernel_rfl) (by kernel_rfl) (by kernel_rfl) (fun _ _ _ _ h => h) rfl rfl hC (fun K hK => ?_)
    go_big_quiet_op
    refine hK _ ?_
    clear hK K
    refine takeList (i := 2) rfl (by kernel_rfl) (by kernel_rfl) (by kernel_rfl) (fun _ _ _ _ h => h) rfl rfl hC (fun K hK => ?_)
    go_big_quiet_op
    refine hK _ ?_
    clear hK K
    refine takeNil (i := 3) rfl rfl rfl (by kernel_rfl) (by kernel_rfl) (by kernel_rfl) (fun _ _ _ _ h => h) rfl hC ?_
    go_simp
    refine takeList (i := 4) rfl (by kernel_rfl) (by kernel_rfl) (by kernel_rfl) (fun _ _ _ _ h => h) rfl rfl hC (fun K hK => ?_)
    go_big_quiet_op
    refine hK _ ?_
    clear hK K
    refine takeList (i := 5) rfl (by kernel_rfl) (by kernel_rfl) (by kernel_rfl) (fun _ _ _ _ h => h) rfl rfl hC (fun K hK => ?_)
    go_big_quiet_op
    refine hK _ ?_
    clear hK K
    refine takeList (i := 7) rfl (by kernel_rfl) (by kernel_rfl) (by kernel_rfl) (fun _ _ _ _ h => h) rfl rfl hC (fun K hK => ?_)
    go_big_quiet_op
    refine hK _ ?_
    clear hK K
    refine takeNil (i := 8) rfl rfl rfl (by kernel_rfl) (by kernel_rfl) (by kernel_rfl) (fun _ _ _ _ h => h) rfl hC ?_
    go_simp
    refine takeList (i := 9) rfl (by kernel_rfl) (by kernel_rfl) (by kernel_rfl) (fun _ _ _ _ h => h) rfl rfl hC (fun K hK => ?_)
    go_big_quiet_op
    refine hK _ ?_
    clear hK K
    refine takeList (i := 10) rfl (by kernel_rfl) (by kernel_rfl) (by kernel_rfl) (fun _ _ _ _ h => h) rfl rfl hC (fun K hK => ?_)
    go_big_quiet_op
    refine hK _ ?_
    clear hK K
    refine takeList (i := 11) rfl (by kernel_rfl) (by kernel_rfl) (by kernel_rfl) (fun _ _ _ _ h => h) rfl rfl hC (fun K hK => ?_)
    go_big_quiet_op
    refine hK _ ?_
    clear hK K
    refine callList (i := 1) rfl (by kernel_rfl) rfl (fun K hK => ?_)
    go_simp
    refine (rnumw_at pb nb cb lb l1 1 _ (HB.out.below hB) HF.out.1 (by have := HLB.out; omega) HL1.out).mono ?_
    rintro e w1 ⟨⟨p1, n1, k1, rfl, hi1⟩, hk⟩
    replace hB := bt hB hk
    refine hK.out _ _ ⟨⟨_, hB⟩, rfl⟩ ?_
    try go_simp
    clear hK K hC hk
    have hC : ∃ m : NewW w, w1 = m.v := ⟨⟨_, hB⟩, rfl⟩
    refine callList (i := 6) rfl (by kernel_rfl) rfl (fun K hK => ?_)
    go_simp
    refine (rnumw_at p1 n1 k1 l1 l2 t _ hi1 HF.out.2.1 (by have := HLN.out; omega) HL2.out).mono ?_
    rintro e w2 ⟨⟨p2, n2, k2, rfl, hi2⟩, hk⟩
    replace hB := bt hB hk
    refine hK.out _ _ ⟨⟨_, hB⟩, rfl⟩ ?_
    try go_simp
    clear hK K hC hk
    have hC : ∃ m : NewW w, w2 = m.v := ⟨⟨_, hB⟩, rfl⟩
    refine callList (i := 12) rfl (by kernel_rfl) rfl (fun K hK => ?_)
    go_simp
    refine (rnumw_at p2 n2 k2 l2 l3 r _ hi2 HF.out.2.2.1 (by have := HLN.out; omega) HL3.out).mono ?_
    rintro e w3 ⟨⟨p3, n3, k3, rfl, hi3⟩, hk⟩
    replace hB := bt hB hk
    refine hK.out _ _ ⟨⟨_, hB⟩, rfl⟩ ?_
    try go_simp
    clear hK K hC hk
    have hC : ∃ m : NewW w, w3 = m.v := ⟨⟨_, hB⟩, rfl⟩
    refine takeList (i := 13) rfl (by kernel_rfl) (by kernel_rfl) (by kernel_rfl) (fun _ _ _ _ h => h) rfl rfl hC (fun K hK => ?_)
    go_big_quiet_op
    refine hK _ ?_
    clear hK K
    refine wpAnyH_done (by kernel_rfl) ?_ _
    have HI3 : Hid (Is w3 p3 n3 k3 l3) := hi3
    have HB3 : Hid (Below w.heap.size w w3) := hB
    clear c2 c3 hne hC hi1 hi2 hi3 hB
    go_wp2_with fail
    have hF : ∀ T : NewW w3, _ := fun T => HE.out T.v (bt HB3.out T.h)
    have c1 : ∀ T : NewW w3, T.v.cell? ⟨g, 1, none⟩ = some (.string x) := fun T => (hF T).2.1
    have c4 : ∀ T : NewW w3, T.v.cell? ⟨g, 4, none⟩ = some (.int .i64 n) := fun T => (hF T).2.2.2.2
    have hne : Nonempty (NewW w3) := ⟨NewW.start w3⟩
    clear hF
    have hC : ∃ m : NewW w3, w3.drew = m.v := ⟨⟨w3.drew, (Below.refl _ w3).drew⟩, rfl⟩
    refine wp_region_held_drew (S := fun w' => ∃ m : NewW w3, w' = m.v) (by kernel_rfl) hC (fun _ => ?_)
    have hB : Below w3.heap.size w3 w3.drew := (Below.refl _ w3).drew
    generalize hW0 : w3.drew = W0 at *
    clear hW0
    refine takeList (i := 0) rfl (by kernel_rfl) (by kernel_rfl) (by kernel_rfl) (fun _ _ _ _ h => h) rfl rfl hC (fun K hK => ?_)
    go_big_quiet_op
    refine hK _ ?_
    clear hK K
    refine takeList (i := 1) rfl (by kernel_rfl) (by kernel_rfl) (by kernel_rfl) (fun _ _ _ _ h => h) rfl rfl hC (fun K hK => ?_)
    go_big_quiet_op
    refine hK _ ?_
    clear hK K
    refine takeNil (i := 2) rfl rfl rfl (by kernel_rfl) (by kernel_rfl) (by kernel_rfl) (fun _ _ _ _ h => h) rfl hC ?_
    go_simp
    refine takeList (i := 3) rfl (by kernel_rfl) (by kernel_rfl) (by kernel_rfl) (fun _ _ _ _ h => h) rfl rfl hC (fun K hK => ?_)
    go_big_quiet_op
    refine hK _ ?_
    clear hK K
    refine takeList (i := 4) rfl (by kernel_rfl) (by kernel_rfl) (by kernel_rfl) (fun _ _ _ _ h => h) rfl rfl hC (fun K hK => ?_)
    go_big_quiet_op
    refine hK _ ?_
    clear hK K
    refine takeList (i := 5) rfl (by kernel_rfl) (by kernel_rfl) (by kernel_rfl) (fun _ _ _ _ h => h) rfl rfl hC (fun K hK => ?_)
    go_big_quiet_op
    refine hK _ ?_
    clear hK K
    refine takeList (i := 7) rfl (by kernel_rfl) (by kernel_rfl) (by kernel_rfl) (fun _ _ _ _ h => h) rfl rfl hC (fun K hK => ?_)
    go_big_quiet_op
    refine hK _ ?_
    clear hK K
    refine takeNil (i := 8) rfl rfl rfl (by kernel_rfl) (by kernel_rfl) (by kernel_rfl) (fun _ _ _ _ h => h) rfl hC ?_
    go_simp
    refine takeList (i := 9) rfl (by kernel_rfl) (by kernel_rfl) (by kernel_rfl) (fun _ _ _ _ h => h) rfl rfl hC (fun K hK => ?_)
    go_big_quiet_op
    refine hK _ ?_
    clear hK K
    refine takeList (i := 10) rfl (by kernel_rfl) (by kernel_rfl) (by kernel_rfl) (fun _ _ _ _ h => h) rfl rfl hC (fun K hK => ?_)
    go_big_quiet_op
    refine hK _ ?_
    clear hK K
    have HCV : Hid (∀ W : World, _) := fun W => conv_bytes W x (Nat.le_trans HX.out.2 (by decide))
    refine wpAnyH_ready (rs := [6, 11]) (by kernel_rfl) (by simp) (AllReadyH.cons (at_of_drop (i := 6) rfl) (fun K hK => ?_) (AllReadyH.cons (at_of_drop (i := 11) rfl) (fun K hK => ?_) AllReadyH.nil))
    · rw [if_pos (by rfl)]
      go_simp
      refine (rnumw_at p3 n3 k3 l3 l4 n _ (HI3.out.below hB) HF.out.2.2.2 (by have := HLN.out; omega) HL4.out).mono ?_
      rintro e w4 ⟨⟨p4, n4, k4, rfl, hi4⟩, hk⟩
      replace hB := bt hB hk
      refine hK.out _ _ ⟨⟨_, hB⟩, rfl⟩ (fun hC => ?_)
      try go_simp
      clear hK K hk hC
      have hC : ∃ m : NewW w3, w4 = m.v := ⟨⟨_, hB⟩, rfl⟩
      obtain ⟨px, nx, cx, w5, hrx, hix, hkx⟩ := HCV.out w4
      refine callList (i := 11) rfl (by kernel_rfl) rfl (fun K hK => ?_)
      go_simp
      replace hB := bt hB hkx
      refine hK.out _ _ ⟨⟨_, hB⟩, rfl⟩ ?_
      try go_simp
      clear hK K hC hrx
      replace hi4 := hi4.below hkx
      have hC : ∃ m : NewW w3, w5 = m.v := ⟨⟨_, hB⟩, rfl⟩
      refine callList (i := 12) rfl (by kernel_rfl) rfl (fun K hK => ?_)
      go_simp
      refine (rbytesw_at p4 n4 k4 l4 px nx cx x.data.toList _ hi4 hix (by have := HLN.out; omega) (by have := HX.out; omega)).mono ?_
      rintro e w6 ⟨⟨p6, n6, k6, rfl, hi6⟩, hk⟩
      replace hB := bt hB hk
      refine hK.out _ _ ⟨⟨_, hB⟩, rfl⟩ ?_
      try go_simp
      clear hK K hC hk
      have hC : ∃ m : NewW w3, w6 = m.v := ⟨⟨_, hB⟩, rfl⟩
      refine takeList (i := 13) rfl (by kernel_rfl) (by kernel_rfl) (by kernel_rfl) (fun _ _ _ _ h => h) rfl rfl hC (fun K hK => ?_)
      go_big_quiet_op
      refine hK _ ?_
      clear hK K
      refine wpAnyH_done (by kernel_rfl) ?_ _
      rw [HL.out] at hi6
      have HI6 : Hid (Is w6 p6 n6 k6 l ∧ Below w.heap.size w w6) := ⟨hi6, bt HB3.out hB⟩
      clear c1 c4 hne hC hi4 hix hi6 hB
      go_wp2
      go_ret
      exact ⟨⟨_, _, _, rfl, HI6.out.1⟩, HI6.out.2⟩
    · rw [if_pos (by rfl)]
      obtain ⟨px, nx, cx, w4, hrx, hix, hkx⟩ := HCV.out W0
      go_simp
      replace hB := bt hB hkx
      refine hK.out _ _ ⟨⟨_, hB⟩, rfl⟩ (fun hC => ?_)
      try go_simp
      clear hK K hrx hC
      have hC : ∃ m : NewW w3, w4 = m.v := ⟨⟨_, hB⟩, rfl⟩
      refine callList (i := 6) rfl (by kernel_rfl) rfl (fun K hK => ?_)
      go_simp
      refine (rnumw_at p3 n3 k3 l3 l4 n _ (HI3.out.below hB) HF.out.2.2.2 (by have := HLN.out; omega) HL4.out).mono ?_
      rintro e w5 ⟨⟨p4, n4, k4, rfl, hi4⟩, hk⟩
      replace hix := hix.below hk
      replace hB := bt hB hk
      refine hK.out _ _ ⟨⟨_, hB⟩, rfl⟩ ?_
      try go_simp
      clear hK K hk hC
      have hC : ∃ m : NewW w3, w5 = m.v := ⟨⟨_, hB⟩, rfl⟩
      refine callList (i := 12) rfl (by kernel_rfl) rfl (fun K hK => ?_)
      go_simp
      refine (rbytesw_at p4 n4 k4 l4 px nx cx x.data.toList _ hi4 hix (by have := HLN.out; omega) (by have := HX.out; omega)).mono ?_
      rintro e w6 ⟨⟨p6, n6, k6, rfl, hi6⟩, hk⟩
      replace hB := bt hB hk
      refine hK.out _ _ ⟨⟨_, hB⟩, rfl⟩ ?_
      try go_simp
      clear hK K hC hk
      have hC : ∃ m : NewW w3, w6 = m.v := ⟨⟨_, hB⟩, rfl⟩
      refine takeList (i := 13) rfl (by kernel_rfl) (by kernel_rfl) (by kernel_rfl) (fun _ _ _ _ h => h) rfl rfl hC (fun K hK => ?_)
      go_big_quiet_op
      refine hK _ ?_
      clear hK K
      refine wpAnyH_done (by kernel_rfl) ?_ _
      rw [HL.out] at hi6
      have HI6 : Hid (Is w6 p6 n6 k6 l ∧ Below w.heap.size w w6) := ⟨hi6, bt HB3.out hB⟩
      clear c1 c4 hne hC hi4 hix hi6 hB
      go_wp2
      go_ret
      exact ⟨⟨_, _, _, rfl, HI6.out.1⟩, HI6.out.2⟩
end Go.Proofs.Ytebfhomopdnkkaa
