/-
  OrsetCopy: a copy is alike, and what is done to it does nothing to the set.
-/
import Derived.Test.YtoglhhoniojbaaaOAct
import Derived.Test.YtoglhhoniojbaaaZ5
namespace Go.Proofs.Ytoglhhoniojbaaa
open Go.RowKit Go.Lib Go.Sort Go.Shelf
set_option linter.unusedVariables false

set_option maxRecDepth 100000 in
set_option maxHeartbeats 8000000 in
theorem copy_walk (pa : Option Addr) (l : List ActO) (ca : Nat) (a : ActO) (w : World) (ha : ArgO w pa l) (hla : l.length ≤ maxLen) (hxl : ∀ x ∈ l, x.x.size ≤ maxLen) (hax : a.x.size ≤ maxLen) :
    Calls Try.prog 8 #[.slice pa l.length ca, .agg a.cells.toArray] w fun e w' => e = .returned (.bool true) ∧ Below w.heap.size w w' := by
  have HA : Hid (ArgO w pa l) := ha
  have HXL : Hid (∀ x ∈ l, x.x.size ≤ maxLen) := hxl
  have HAX : Hid (a.x.size ≤ maxLen) := hax
  clear ha hxl hax
  unfold maxLen at hla
  obtain ⟨n, hn⟩ : ∃ n, n = l.length := ⟨_, rfl⟩
  have HN : Hid (n = l.length) := hn
  rw [← hn] at hla ⊢
  clear hn
  have HK : Hid (∀ n, n ≤ 1000 → n + 2 < maxLen) := fun n hn => by unfold maxLen; omega
  obtain ⟨aa, haa⟩ : ∃ aa, aa = a := ⟨_, rfl⟩
  have HAA : Hid (aa = a) := haa
  clear haa
  obtain ⟨op, ⟨d1, d2⟩, x, ⟨v0, v1, v2, v3, v4, v5, v6⟩⟩ := a
  simp only [ActO.cells]
  have HQ0 : Hid ((w.alloc (.cells #[.int .i64 op, .int .i64 d1, .int .i64 d2, .string x, .int .i64 v0, .int .i64 v1, .int .i64 v2, .int .i64 v3, .int .i64 v4, .int .i64 v5, .int .i64 v6] 42)).heap[w.heap.size]? = some (.cells #[.int .i64 op, .int .i64 d1, .int .i64 d2, .string x, .int .i64 v0, .int .i64 v1, .int .i64 v2, .int .i64 v3, .int .i64 v4, .int .i64 v5, .int .i64 v6] 42)) := heap_alloc_new _ _
  have HB0 : Hid (Below w.heap.size w (w.alloc (.cells #[.int .i64 op, .int .i64 d1, .int .i64 d2, .string x, .int .i64 v0, .int .i64 v1, .int .i64 v2, .int .i64 v3, .int .i64 v4, .int .i64 v5, .int .i64 v6] 42))) := below_new _ _
  go_enter Try.func8, Try.ntmps8
  go_wp2_with fail
  generalize World.alloc w _ = w1 at *
  obtain ⟨gb, hgb⟩ : ∃ gb, gb = w.heap.size := ⟨_, rfl⟩
  rw [← hgb] at HQ0 ⊢
  clear hgb
  refine (awake9_any w1).mono ?_
  rintro e w2 ⟨rfl, hb2⟩
  have HB2 : Hid (Below w.heap.size w w2) := bt HB0.out hb2
  have HAB : Hid (AtO ⟨op, (d1, d2), x, ⟨v0, v1, v2, v3, v4, v5, v6⟩⟩ gb 0 w2) := AtO.boxed (keep_on hb2 HQ0.out)
  clear hb2 HB0 HQ0
  by_cases hbig : 30 < n
  · go_wp2
    go_ret
    exact ⟨rfl, HB2.out⟩
  · have HSM : Hid (n ≤ 30) := Nat.le_of_not_lt hbig
    go_wp2_with fail
    refine (s_new (OObjs.nil (Below.refl _ w2))).mono ?_
    rintro e w3 ⟨g, L3, rfl, h3, -⟩
    have H3 : Hid (OObjs w2 w3 ([] ++ ⟨g, 0, L3, C.Os.zero⟩ :: [])) := h3
    clear h3
    go_wp2_with fail
    go_loopw [6] (fun s6 wr => ∃ (k m : Nat) (L : OLay) (S : C.Os), s6 = .int .i64 k ∧ k ≤ n ∧ m ≤ 2 * k ∧ Hid (OObjs w2 wr ([] ++ ⟨g, m, L, S⟩ :: [])) ∧ Hid (C.Tidy S k)) (fun s6 _ => n - (intOf s6).toNat)
    case atStart => exact ⟨0, 0, L3, _, rfl, Nat.zero_le _, Nat.le_refl _, H3.out, C.zero_tidy⟩
    case round =>
      clear H3
      obtain ⟨k, m, L, S, rfl, hkn, hmk, HO, HT⟩ := hrel
      by_cases hlt : k < n
      · obtain ⟨a, hak⟩ : ∃ a, l[k]? = some a := ⟨_, List.getElem?_eq_getElem (by have := HN.out; omega)⟩
        obtain ⟨b, o, rfl, hat⟩ := HA.out.at hak
        have HXS : Hid (a.x.size ≤ maxLen) := HXL.out a (List.mem_of_getElem? hak)
        have HTS : Hid (C.Tidy (C.stepO S a) (k + 1)) := C.stepO_tidy HT.out a
        have HFW : Hid (C.Few S 100000) := C.few_mono HT.out.few (by have := HSM.out; omega)
        have HM : Hid (m ≤ 1000) := by have := HSM.out; show m ≤ _; omega
        have HAT2 : Hid (∀ W, Below w2.heap.size w2 W → AtO a b (o + k * 11) W) := fun W hW => hat.below (bt HB2.out hW)
        clear hak hat HT
        obtain ⟨qp, ⟨e1, e2⟩, y, ⟨u0, u1, u2, u3, u4, u5, u6⟩⟩ := a
        have HAT : Hid (∀ W, Below wr.heap.size wr W → AtO ⟨qp, (e1, e2), y, ⟨u0, u1, u2, u3, u4, u5, u6⟩⟩ b (o + k * 11) W) := fun W hW => HAT2.out W (bt HO.out.bel hW)
        obtain ⟨c0, c1, c2, c3, c4, c5, c6, c7, c8, c9, c10⟩ := (HAT.out wr (Below.refl _ _)).cells
        clear c1 c2 c3 c4 c5 c6 c7 c8 c9 c10
        have hF : ∀ t : HeldW (AtO ⟨qp, (e1, e2), y, ⟨u0, u1, u2, u3, u4, u5, u6⟩⟩ b (o + k * 11)), _ := fun t => t.h.cells
        have z1 := fun t => (hF t).2.1
        have z2 := fun t => (hF t).2.2.1
        have z3 := fun t => (hF t).2.2.2.1
        have z4 := fun t => (hF t).2.2.2.2.1
        have z5 := fun t => (hF t).2.2.2.2.2.1
        have z6 := fun t => (hF t).2.2.2.2.2.2.1
        have z7 := fun t => (hF t).2.2.2.2.2.2.2.1
        have z8 := fun t => (hF t).2.2.2.2.2.2.2.2.1
        have z9 := fun t => (hF t).2.2.2.2.2.2.2.2.2.1
        have z10 := fun t => (hF t).2.2.2.2.2.2.2.2.2.2
        clear hF
        have hne : Nonempty (HeldW (AtO ⟨qp, (e1, e2), y, ⟨u0, u1, u2, u3, u4, u5, u6⟩⟩ b (o + k * 11))) := ⟨⟨wr, HAT.out _ (Below.refl _ _)⟩⟩
        by_cases hop : qp = 0
        · subst hop
          go_wp2_with fail
          clear c0
          have hC : ∃ m : HeldW (AtO ⟨0, (e1, e2), y, ⟨u0, u1, u2, u3, u4, u5, u6⟩⟩ b (o + k * 11)), wr.drew = m.v := ⟨⟨wr.drew, HAT.out _ ((Below.refl _ wr).drew)⟩, rfl⟩
          refine wp_region_held_drew (S := fun w' => ∃ m : HeldW (AtO ⟨0, (e1, e2), y, ⟨u0, u1, u2, u3, u4, u5, u6⟩⟩ b (o + k * 11)), w' = m.v) (by kernel_rfl) hC (fun _ => ?_)
          have HO0 := HO.out.below ((Below.refl _ wr).drew)
          generalize wr.drew = W0 at *
          refine takeList (i := 0) rfl (by kernel_rfl) (by kernel_rfl) (by kernel_rfl) (fun _ _ _ _ h => h) rfl rfl hC (fun K hK => ?_)
          go_big_quiet_op
          refine hK _ ?_
          clear hK K
          refine takeList (i := 1) rfl (by kernel_rfl) (by kernel_rfl) (by kernel_rfl) (fun _ _ _ _ h => h) rfl rfl hC (fun K hK => ?_)
          go_big_quiet_op
          refine hK _ ?_
          clear hK K
          refine takeList (i := 2) rfl (by kernel_rfl) (by kernel_rfl) (by kernel_rfl) (fun _ _ _ _ h => h) rfl rfl hC (fun K hK => ?_)
          go_big_quiet_op
          refine hK _ ?_
          clear hK K
          refine takeList (i := 3) rfl (by kernel_rfl) (by kernel_rfl) (by kernel_rfl) (fun _ _ _ _ h => h) rfl rfl hC (fun K hK => ?_)
          go_big_quiet_op
          refine hK _ ?_
          clear hK K
          refine takeList (i := 4) rfl (by kernel_rfl) (by kernel_rfl) (by kernel_rfl) (fun _ _ _ _ h => h) rfl rfl hC (fun K hK => ?_)
          go_big_quiet_op
          refine hK _ ?_
          clear hK K
          refine takeList (i := 5) rfl (by kernel_rfl) (by kernel_rfl) (by kernel_rfl) (fun _ _ _ _ h => h) rfl rfl hC (fun K hK => ?_)
          go_big_quiet_op
          refine hK _ ?_
          clear hK K
          refine takeList (i := 6) rfl (by kernel_rfl) (by kernel_rfl) (by kernel_rfl) (fun _ _ _ _ h => h) rfl rfl hC (fun K hK => ?_)
          go_big_quiet_op
          refine hK _ ?_
          clear hK K
          refine takeList (i := 7) rfl (by kernel_rfl) (by kernel_rfl) (by kernel_rfl) (fun _ _ _ _ h => h) rfl rfl hC (fun K hK => ?_)
          go_big_quiet_op
          refine hK _ ?_
          clear hK K
          refine takeList (i := 8) rfl (by kernel_rfl) (by kernel_rfl) (by kernel_rfl) (fun _ _ _ _ h => h) rfl rfl hC (fun K hK => ?_)
          go_big_quiet_op
          refine hK _ ?_
          clear hK K
          refine takeList (i := 9) rfl (by kernel_rfl) (by kernel_rfl) (by kernel_rfl) (fun _ _ _ _ h => h) rfl rfl hC (fun K hK => ?_)
          go_big_quiet_op
          refine hK _ ?_
          clear hK K
          refine takeList (i := 10) rfl (by kernel_rfl) (by kernel_rfl) (by kernel_rfl) (fun _ _ _ _ h => h) rfl rfl hC (fun K hK => ?_)
          go_big_quiet_op
          refine hK _ ?_
          clear hK K
          refine callList (i := 11) rfl (by kernel_rfl) rfl (fun K hK => ?_)
          go_simp
          refine (s_add [] [] g m L S (C.addO S (e1, e2) y) y e1 e2 _ HO0 (HK.out _ HM.out) HXS.out HFW.out rfl rfl).mono ?_
          rintro e w5 ⟨rfl, L5, h5⟩
          have H5 : Hid (OObjs w2 w5 ([] ++ ⟨g, m + 2, L5, C.addO S (e1, e2) y⟩ :: [])) := h5
          refine hK.out _ _ ⟨⟨_, HAT2.out _ h5.bel⟩, rfl⟩ ?_
          try go_simp
          clear hK K hC h5 HO0
          refine wpAnyH_done (by kernel_rfl) ?_ _
          clear z1 z2 z3 z4 z5 z6 z7 z8 z9 z10 hne
          go_wp2
          go_roundw
          case rel => exact ⟨k + 1, m + 2, L5, _, by go_num, by omega, by omega, H5.out, HTS.out⟩
          case measure => simp [intOf]; omega
        · have hopb : (qp == 0) = false := by simpa using hop
          go_wp2_with fail
          clear c0
          have hC : ∃ m : HeldW (AtO ⟨qp, (e1, e2), y, ⟨u0, u1, u2, u3, u4, u5, u6⟩⟩ b (o + k * 11)), wr.drew = m.v := ⟨⟨wr.drew, HAT.out _ ((Below.refl _ wr).drew)⟩, rfl⟩
          refine wp_region_held_drew (S := fun w' => ∃ m : HeldW (AtO ⟨qp, (e1, e2), y, ⟨u0, u1, u2, u3, u4, u5, u6⟩⟩ b (o + k * 11)), w' = m.v) (by kernel_rfl) hC (fun _ => ?_)
          have HO0 := HO.out.below ((Below.refl _ wr).drew)
          generalize wr.drew = W0 at *
          refine takeList (i := 0) rfl (by kernel_rfl) (by kernel_rfl) (by kernel_rfl) (fun _ _ _ _ h => h) rfl rfl hC (fun K hK => ?_)
          go_big_quiet_op
          refine hK _ ?_
          clear hK K
          refine takeList (i := 1) rfl (by kernel_rfl) (by kernel_rfl) (by kernel_rfl) (fun _ _ _ _ h => h) rfl rfl hC (fun K hK => ?_)
          go_big_quiet_op
          refine hK _ ?_
          clear hK K
          refine takeList (i := 2) rfl (by kernel_rfl) (by kernel_rfl) (by kernel_rfl) (fun _ _ _ _ h => h) rfl rfl hC (fun K hK => ?_)
          go_big_quiet_op
          refine hK _ ?_
          clear hK K
          refine takeList (i := 3) rfl (by kernel_rfl) (by kernel_rfl) (by kernel_rfl) (fun _ _ _ _ h => h) rfl rfl hC (fun K hK => ?_)
          go_big_quiet_op
          refine hK _ ?_
          clear hK K
          refine takeList (i := 4) rfl (by kernel_rfl) (by kernel_rfl) (by kernel_rfl) (fun _ _ _ _ h => h) rfl rfl hC (fun K hK => ?_)
          go_big_quiet_op
          refine hK _ ?_
          clear hK K
          refine takeList (i := 5) rfl (by kernel_rfl) (by kernel_rfl) (by kernel_rfl) (fun _ _ _ _ h => h) rfl rfl hC (fun K hK => ?_)
          go_big_quiet_op
          refine hK _ ?_
          clear hK K
          refine takeList (i := 6) rfl (by kernel_rfl) (by kernel_rfl) (by kernel_rfl) (fun _ _ _ _ h => h) rfl rfl hC (fun K hK => ?_)
          go_big_quiet_op
          refine hK _ ?_
          clear hK K
          refine takeList (i := 7) rfl (by kernel_rfl) (by kernel_rfl) (by kernel_rfl) (fun _ _ _ _ h => h) rfl rfl hC (fun K hK => ?_)
          go_big_quiet_op
          refine hK _ ?_
          clear hK K
          refine takeList (i := 8) rfl (by kernel_rfl) (by kernel_rfl) (by kernel_rfl) (fun _ _ _ _ h => h) rfl rfl hC (fun K hK => ?_)
          go_big_quiet_op
          refine hK _ ?_
          clear hK K
          refine takeList (i := 9) rfl (by kernel_rfl) (by kernel_rfl) (by kernel_rfl) (fun _ _ _ _ h => h) rfl rfl hC (fun K hK => ?_)
          go_big_quiet_op
          refine hK _ ?_
          clear hK K
          refine takeList (i := 10) rfl (by kernel_rfl) (by kernel_rfl) (by kernel_rfl) (fun _ _ _ _ h => h) rfl rfl hC (fun K hK => ?_)
          go_big_quiet_op
          refine hK _ ?_
          clear hK K
          refine callList (i := 11) rfl (by kernel_rfl) rfl (fun K hK => ?_)
          go_simp
          refine (s_rem [] [] g m L S (C.remO S y ⟨u0, u1, u2, u3, u4, u5, u6⟩) y ⟨u0, u1, u2, u3, u4, u5, u6⟩ _ HO0 (HK.out _ HM.out) HXS.out HFW.out rfl rfl).mono ?_
          rintro e w5 ⟨rfl, L5, h5⟩
          have hst : C.stepO S ⟨qp, (e1, e2), y, ⟨u0, u1, u2, u3, u4, u5, u6⟩⟩ = C.remO S y ⟨u0, u1, u2, u3, u4, u5, u6⟩ := if_neg hop
          rw [hst] at HTS
          have H5 : Hid (OObjs w2 w5 ([] ++ ⟨g, m + 2, L5, C.remO S y ⟨u0, u1, u2, u3, u4, u5, u6⟩⟩ :: [])) := h5
          refine hK.out _ _ ⟨⟨_, HAT2.out _ h5.bel⟩, rfl⟩ ?_
          try go_simp
          clear hK K hC h5 HO0 hst
          refine wpAnyH_done (by kernel_rfl) ?_ _
          clear z1 z2 z3 z4 z5 z6 z7 z8 z9 z10 hne
          go_wp2
          go_roundw
          case rel => exact ⟨k + 1, m + 2, L5, _, by go_num, by omega, by omega, H5.out, HTS.out⟩
          case measure => simp [intOf]; omega
      · obtain rfl : k = n := by omega
        have hm60 : m ≤ 60 := by have := HSM.out; omega
        have HMS : Hid (m ≤ 60) := hm60
        have HFW : Hid (C.Few S 100) := C.few_mono HT.out.few (by have := HSM.out; omega)
        have HK30 : Hid (k ≤ 30) := HSM.out
        clear hm60
        go_wp2_with fail
        refine (s_put [] [] g m k L S HO.out HT.out (by have := HK30.out; omega) (by have := HMS.out; omega)).mono ?_
        rintro e w4 ⟨⟨p4, n4, k4, ks4, rfl, hk4, hcv4, -⟩, hb4⟩
        have H4 : Hid (OObjs w2 w4 ([] ++ ⟨g, m, L, S⟩ :: [])) := HO.out.below hb4
        have HKS : Hid (IsAll S ks4) := hk4
        obtain ⟨st, hst⟩ : ∃ st : ByteArray, st = ⟨(C.putB S ks4).toArray⟩ := ⟨_, rfl⟩
        rw [← hst] at hcv4
        have HST : Hid (st = ⟨(C.putB S ks4).toArray⟩) := hst
        clear hk4 hst hb4 HO
        go_wp2_with fail
        clear hcv4
        refine (s_copy [] [] g m L S H4.out (Nat.lt_of_le_of_lt (Nat.le_add_right _ 2) (HK.out _ (by have := HMS.out; omega))) (C.few_mono HFW.out (by omega))).mono ?_
        rintro e w5 ⟨gk, Lk, rfl, h5, -⟩
        have HO : Hid (OObjs w2 w5 ([] ++ ⟨g, m, L, S⟩ :: [⟨gk, m, Lk, S⟩])) := h5
        have HAT2 : Hid (∀ W, Below w2.heap.size w2 W → AtO ⟨op, (d1, d2), x, ⟨v0, v1, v2, v3, v4, v5, v6⟩⟩ gb 0 W) := fun W hW => HAB.out.below hW
        have HAT : Hid (∀ W, Below w5.heap.size w5 W → AtO ⟨op, (d1, d2), x, ⟨v0, v1, v2, v3, v4, v5, v6⟩⟩ gb 0 W) := fun W hW => HAT2.out W (bt HO.out.bel hW)
        clear h5 H4
        have hF : ∀ t : HeldW (AtO ⟨op, (d1, d2), x, ⟨v0, v1, v2, v3, v4, v5, v6⟩⟩ gb 0), _ := fun t => t.h.cells
        have z1 : ∀ t : HeldW (AtO ⟨op, (d1, d2), x, ⟨v0, v1, v2, v3, v4, v5, v6⟩⟩ gb 0), t.v.cell? ⟨gb, 1, none⟩ = _ := fun t => (hF t).2.1
        have z2 : ∀ t : HeldW (AtO ⟨op, (d1, d2), x, ⟨v0, v1, v2, v3, v4, v5, v6⟩⟩ gb 0), t.v.cell? ⟨gb, 2, none⟩ = _ := fun t => (hF t).2.2.1
        have z3 : ∀ t : HeldW (AtO ⟨op, (d1, d2), x, ⟨v0, v1, v2, v3, v4, v5, v6⟩⟩ gb 0), t.v.cell? ⟨gb, 3, none⟩ = _ := fun t => (hF t).2.2.2.1
        have hne : Nonempty (HeldW (AtO ⟨op, (d1, d2), x, ⟨v0, v1, v2, v3, v4, v5, v6⟩⟩ gb 0)) := ⟨⟨w5, HAT.out _ (Below.refl _ _)⟩⟩
        clear hF
        obtain ⟨er, her⟩ : ∃ er, C.errO S (d1, d2) x = er := ⟨_, rfl⟩
        have HER : Hid (C.errO S (d1, d2) x = er) := her
        have HAX2 : Hid (x.size ≤ maxLen) := by have := HAX.out; exact this
        clear her
        go_wp2_with fail
        have hC : ∃ m : HeldW (AtO ⟨op, (d1, d2), x, ⟨v0, v1, v2, v3, v4, v5, v6⟩⟩ gb 0), w5.drew = m.v := ⟨⟨w5.drew, HAT.out _ ((Below.refl _ w5).drew)⟩, rfl⟩
        refine wp_region_held_drew (S := fun w' => ∃ m : HeldW (AtO ⟨op, (d1, d2), x, ⟨v0, v1, v2, v3, v4, v5, v6⟩⟩ gb 0), w' = m.v) (by kernel_rfl) hC (fun _ => ?_)
        have HO0 := HO.out.below ((Below.refl _ w5).drew)
        generalize w5.drew = W0 at *
        refine takeList (i := 0) rfl (by kernel_rfl) (by kernel_rfl) (by kernel_rfl) (fun _ _ _ _ h => h) rfl rfl hC (fun K hK => ?_)
        go_big_quiet_op
        refine hK _ ?_
        clear hK K
        refine takeList (i := 1) rfl (by kernel_rfl) (by kernel_rfl) (by kernel_rfl) (fun _ _ _ _ h => h) rfl rfl hC (fun K hK => ?_)
        go_big_quiet_op
        refine hK _ ?_
        clear hK K
        refine callList (i := 2) rfl (by kernel_rfl) rfl (fun K hK => ?_)
        go_simp
        refine (s_same ⟨g, m, L, S⟩ ⟨gk, m, Lk, S⟩ true HO0 (by simp) (by simp) ⟨fun _ _ _ => rfl, fun _ => rfl⟩).mono ?_
        rintro e W1 ⟨rfl, h1⟩
        refine hK.out _ _ ⟨⟨_, HAT2.out _ h1.bel⟩, rfl⟩ ?_
        try go_simp
        clear hK K hC
        have hC : ∃ t : HeldW (AtO ⟨op, (d1, d2), x, ⟨v0, v1, v2, v3, v4, v5, v6⟩⟩ gb 0), W1 = t.v := ⟨⟨_, HAT2.out _ h1.bel⟩, rfl⟩
        refine takeList (i := 3) rfl (by kernel_rfl) (by kernel_rfl) (by kernel_rfl) (fun _ _ _ _ h => h) rfl rfl hC (fun K hK => ?_)
        go_big_quiet_op
        refine hK _ ?_
        clear hK K
        refine takeList (i := 4) rfl (by kernel_rfl) (by kernel_rfl) (by kernel_rfl) (fun _ _ _ _ h => h) rfl rfl hC (fun K hK => ?_)
        go_big_quiet_op
        refine hK _ ?_
        clear hK K
        refine takeList (i := 5) rfl (by kernel_rfl) (by kernel_rfl) (by kernel_rfl) (fun _ _ _ _ h => h) rfl rfl hC (fun K hK => ?_)
        go_big_quiet_op
        refine hK _ ?_
        clear hK K
        refine takeList (i := 6) rfl (by kernel_rfl) (by kernel_rfl) (by kernel_rfl) (fun _ _ _ _ h => h) rfl rfl hC (fun K hK => ?_)
        go_big_quiet_op
        refine hK _ ?_
        clear hK K
        refine takeList (i := 7) rfl (by kernel_rfl) (by kernel_rfl) (by kernel_rfl) (fun _ _ _ _ h => h) rfl rfl hC (fun K hK => ?_)
        go_big_quiet_op
        refine hK _ ?_
        clear hK K
        refine takeList (i := 8) rfl (by kernel_rfl) (by kernel_rfl) (by kernel_rfl) (fun _ _ _ _ h => h) rfl rfl hC (fun K hK => ?_)
        go_big_quiet_op
        refine hK _ ?_
        clear hK K
        refine takeList (i := 9) rfl (by kernel_rfl) (by kernel_rfl) (by kernel_rfl) (fun _ _ _ _ h => h) rfl rfl hC (fun K hK => ?_)
        go_big_quiet_op
        refine hK _ ?_
        clear hK K
        refine takeList (i := 11) rfl (by kernel_rfl) (by kernel_rfl) (by kernel_rfl) (fun _ _ _ _ h => h) rfl rfl hC (fun K hK => ?_)
        go_big_quiet_op
        refine hK _ ?_
        clear hK K
        refine takeList (i := 13) rfl (by kernel_rfl) (by kernel_rfl) (by kernel_rfl) (fun _ _ _ _ h => h) rfl rfl hC (fun K hK => ?_)
        go_big_quiet_op
        refine hK _ ?_
        clear hK K
        refine takeList (i := 14) rfl (by kernel_rfl) (by kernel_rfl) (by kernel_rfl) (fun _ _ _ _ h => h) rfl rfl hC (fun K hK => ?_)
        go_big_quiet_op
        refine hK _ ?_
        clear hK K
        refine takeList (i := 15) rfl (by kernel_rfl) (by kernel_rfl) (by kernel_rfl) (fun _ _ _ _ h => h) rfl rfl hC (fun K hK => ?_)
        go_big_quiet_op
        refine hK _ ?_
        clear hK K
        refine takeList (i := 16) rfl (by kernel_rfl) (by kernel_rfl) (by kernel_rfl) (fun _ _ _ _ h => h) rfl rfl hC (fun K hK => ?_)
        go_big_quiet_op
        refine hK _ ?_
        clear hK K
        refine callList (i := 10) rfl (by kernel_rfl) rfl (fun K hK => ?_)
        go_simp
        refine (s_add [⟨g, m, L, S⟩] [] gk m Lk S (C.addO S (d1, d2) x) x d1 d2 er h1 (HK.out _ (by have := HMS.out; omega)) HAX2.out (C.few_mono HFW.out (by omega)) HER.out rfl).mono ?_
        rintro e W2 ⟨rfl, L6, h2⟩
        refine hK.out _ _ ⟨⟨_, HAT2.out _ h2.bel⟩, rfl⟩ ?_
        try go_simp
        clear hK K hC
        have hC : ∃ t : HeldW (AtO ⟨op, (d1, d2), x, ⟨v0, v1, v2, v3, v4, v5, v6⟩⟩ gb 0), W2 = t.v := ⟨⟨_, HAT2.out _ h2.bel⟩, rfl⟩
        refine callList (i := 12) rfl (by kernel_rfl) rfl (fun K hK => ?_)
        go_simp
        refine (s_copy [] [⟨gk, m + 2, L6, C.addO S (d1, d2) x⟩] g m L S h2 (Nat.lt_of_le_of_lt (Nat.le_add_right _ 2) (HK.out _ (by have := HMS.out; omega))) (C.few_mono HFW.out (by omega))).mono ?_
        rintro e W3 ⟨gm, Lm, rfl, h3, -⟩
        refine hK.out _ _ ⟨⟨_, HAT2.out _ h3.bel⟩, rfl⟩ ?_
        try go_simp
        clear hK K hC
        have hC : ∃ t : HeldW (AtO ⟨op, (d1, d2), x, ⟨v0, v1, v2, v3, v4, v5, v6⟩⟩ gb 0), W3 = t.v := ⟨⟨_, HAT2.out _ h3.bel⟩, rfl⟩
        refine callList (i := 17) rfl (by kernel_rfl) rfl (fun K hK => ?_)
        go_simp
        refine (s_add [⟨g, m, L, S⟩, ⟨gk, m + 2, L6, C.addO S (d1, d2) x⟩] [] gm m Lm S (C.addO S (d1, d2) x) x d1 d2 er h3 (HK.out _ (by have := HMS.out; omega)) HAX2.out (C.few_mono HFW.out (by omega)) HER.out rfl).mono ?_
        rintro e W4 ⟨rfl, L7, h4⟩
        refine hK.out _ _ ⟨⟨_, HAT2.out _ h4.bel⟩, rfl⟩ ?_
        try go_simp
        clear hK K hC
        have hC : ∃ t : HeldW (AtO ⟨op, (d1, d2), x, ⟨v0, v1, v2, v3, v4, v5, v6⟩⟩ gb 0), W4 = t.v := ⟨⟨_, HAT2.out _ h4.bel⟩, rfl⟩
        refine takeList (i := 18) rfl (by kernel_rfl) (by kernel_rfl) (by kernel_rfl) (fun _ _ _ _ h => h) rfl rfl hC (fun K hK => ?_)
        go_big_quiet_op
        refine hK _ ?_
        clear hK K
        refine takeList (i := 19) rfl (by kernel_rfl) (by kernel_rfl) (by kernel_rfl) (fun _ _ _ _ h => h) rfl rfl hC (fun K hK => ?_)
        go_big_quiet_op
        refine hK _ ?_
        clear hK K
        refine wpAnyH_done (by kernel_rfl) ?_ _
        have H9 : Hid (OObjs w2 W4 ([⟨g, m, L, S⟩] ++ ⟨gk, m + 2, L6, C.addO S (d1, d2) x⟩ :: [⟨gm, m + 2, L7, C.addO S (d1, d2) x⟩])) := h4
        clear z1 z2 z3 hne hC h1 h2 h3 h4 HO HO0
        obtain ⟨-, -, -, c3, c4, c5, c6, c7, c8, c9, c10⟩ := (HAT2.out W4 H9.out.bel).cells
        simp only [Nat.zero_add] at c3 c4 c5 c6 c7 c8 c9 c10
        go_wp2_with fail
        refine (s_rem [⟨g, m, L, S⟩] [⟨gm, m + 2, L7, C.addO S (d1, d2) x⟩] gk (m + 2) L6 _ _ x ⟨v0, v1, v2, v3, v4, v5, v6⟩ _ H9.out (HK.out _ (by have := HMS.out; omega)) HAX2.out (C.few_mono (C.addO_few HFW.out _ _) (by omega)) rfl rfl).mono ?_
        rintro e w10 ⟨rfl, L8, h10⟩
        have H10 : Hid (OObjs w2 w10 ([] ++ ⟨g, m, L, S⟩ :: [⟨gk, m + 2 + 2, L8, C.remO (C.addO S (d1, d2) x) x ⟨v0, v1, v2, v3, v4, v5, v6⟩⟩, ⟨gm, m + 2, L7, C.addO S (d1, d2) x⟩])) := h10
        clear h10 H9 c3 c4 c5 c6 c7 c8 c9 c10
        go_wp2_with fail
        refine (s_put [] _ g m k L S H10.out HT.out (by have := HK30.out; omega) (by have := HMS.out; omega)).mono ?_
        rintro e w11 ⟨⟨p11, n11, k11, ks11, rfl, hk11, hcv11, -⟩, hb11⟩
        rw [hk11.uniq HKS.out, ← HST.out] at hcv11
        have HB : Hid (Below w.heap.size w w11) := bt HB2.out (bt H10.out.bel hb11)
        clear hk11 hb11 H10
        go_wp2
        go_ret
        exact ⟨by simp, HB.out⟩
theorem copy_all (pa : Option Addr) (l : List ActO) (ca : Nat) (a : ActO) (hax : a.x.size ≤ maxLen) (w : World) (ha : ArgO w pa l) (hxl : ∀ x ∈ l, x.x.size ≤ maxLen) (h1 : l.length ≤ ca) (h2 : ca ≤ maxLen) :
    Calls Try.prog 8 #[.slice pa l.length ca, .agg a.cells.toArray] w fun e w' => e = .returned (.bool true) ∧ Below w.heap.size w w' :=
  copy_walk pa l ca a w ha (Nat.le_trans h1 h2) hxl hax
end Go.Proofs.Ytoglhhoniojbaaa
