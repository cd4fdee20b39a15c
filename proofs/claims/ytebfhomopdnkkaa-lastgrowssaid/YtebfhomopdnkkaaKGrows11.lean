/-
  LastGrows: the time of what is there never falls; what is there was written.
-/
import Derived.Test.YtebfhomopdnkkaaEAwake
import Derived.Test.YtebfhomopdnkkaaEArg
import Derived.Deep.RegionHeldLaw
namespace Go.Proofs.Ytebfhomopdnkkaa
open Go.RowKit Go.Lib
set_option linter.unusedVariables false

namespace C
theorem wrL_mono (S a : La) : S.t ≤ (wrL S a).t := by
  unfold wrL
  split
  · rename_i hc
    have := (ltL_is S a).1 hc.2
    omega
  · exact Int.le_refl _
theorem didL_true {S a : La} (h : didL S a = true) : wrL S a = a ∧ errL S a = 0 ∧ isL a = true := by
  unfold didL at h
  simp only [Bool.and_eq_true, Bool.not_eq_true'] at h
  refine ⟨?_, ?_, ?_⟩
  · unfold wrL; rw [if_pos h]
  · unfold errL
    rw [if_neg (by rw [h.1]; decide), if_neg (fun e => ltL_ne h.2 e.1)]
  · have := (badL_iff a).1 h.1
    unfold isL
    simp only [bne_iff_ne]
    omega
end C
set_option maxRecDepth 100000 in
set_option maxHeartbeats 8000000 in
theorem grows_all (pa : Option Addr) (l : List C.La) (ca : Nat) (w : World) (ha : ArgL w pa l) (hxl : ∀ x ∈ l, x.x.size ≤ maxLen) (hla : l.length ≤ ca) (hca : ca ≤ maxLen) :
    Calls Try.prog 6 #[.slice pa l.length ca] w fun e w' => e = .returned (.bool true) ∧ Below w.heap.size w w' := by
  have HA : Hid (ArgL w pa l) := ha
  have HXL : Hid (∀ x ∈ l, x.x.size ≤ maxLen) := hxl
  unfold maxLen at hca
  obtain ⟨n, hn⟩ : ∃ n, n = l.length := ⟨_, rfl⟩
  have HN : Hid (n = l.length) := hn
  rw [← hn] at hla ⊢
  clear hn ha hxl
  have hnb : n ≤ 9223372036854775807 := by omega
  clear hla hca
  go_enter Try.func6, Try.ntmps6
  go_wp2_with fail
  refine (awake11_any _).mono ?_
  rintro e w1 ⟨rfl, hb1⟩
  have HB1 : Hid (Below w.heap.size w w1) := hb1
  clear hb1
  by_cases hbig : 40 < n
  · go_wp2
    go_ret
    exact ⟨rfl, HB1.out⟩
  go_wp2_with fail
  refine (e_new (Els.nil HB1.out)).mono ?_
  rintro e w2 ⟨g, rfl, h2, -⟩
  have H2 : Hid (Els w w2 ([] ++ ⟨g, C.La.zero, false⟩ :: [])) := h2
  clear h2
  go_wp2_with fail
  go_loopw [4, 5] (fun s4 s5 wr => ∃ (k : Nat) (S : C.La) (was : Int), s4 = .int .i64 was ∧ s5 = .int .i64 k ∧ k ≤ n ∧ was ≤ S.t ∧ Hid (Els w wr ([] ++ ⟨g, S, false⟩ :: []))) (fun _ s5 _ => n - (RowKit.intOf s5).toNat)
  case atStart => exact ⟨0, C.La.zero, -1, rfl, rfl, Nat.zero_le _, by decide, H2.out⟩
  case round =>
    clear H2
    obtain ⟨k, S, was, rfl, rfl, hkn, hwas, HO⟩ := hrel
    by_cases hlt : k < n
    · obtain ⟨a, hak⟩ : ∃ a, l[k]? = some a := ⟨_, List.getElem?_eq_getElem (by have := HN.out; omega)⟩
      obtain ⟨b, oo, hpa, hat⟩ := HA.out.at hak
      subst hpa
      have HXS : Hid (a.x.size ≤ maxLen) := HXL.out a (List.mem_of_getElem? hak)
      have hlz : (k : Int) < (n : Int) := by omega
      obtain ⟨S', hS'⟩ : ∃ S', C.wrL S a = S' := ⟨_, rfl⟩
      obtain ⟨z, hz⟩ : ∃ z, C.didL S a = z := ⟨_, rfl⟩
      obtain ⟨er, her⟩ : ∃ er, C.errL S a = er := ⟨_, rfl⟩
      have HS' : Hid _ := hS'
      have HZ' : Hid _ := hz
      have HER : Hid _ := her
      have HMO : Hid (was ≤ S'.t) := by have := C.wrL_mono S a; rw [hS'] at this; show _ ≤ _; omega
      have HTR : Hid (z = true → S' = a ∧ er = 0 ∧ C.isL S' = true) := fun e => by
        obtain ⟨q1, q2, q3⟩ := C.didL_true (hz.trans e)
        rw [hS'] at q1
        rw [her] at q2
        exact ⟨q1, q2, by rw [q1]; exact q3⟩
      have HAT : Hid (∀ W, Below w.heap.size w W → AtL a b (oo + k * 4) W) := fun W hW => hat.below hW
      clear hak hat hS' hz her hwas
      obtain ⟨x, t, r, m⟩ := a
      simp only at HXS
      go_wp2_with fail
      obtain ⟨z0, z1, z2, z3⟩ := AtL.all (x := x) (t := t) (r := r) (n := m) (b := b) (o := oo + k * 4)
      have hne : Nonempty (HeldL (AtL ⟨x, t, r, m⟩ b (oo + k * 4))) := ⟨⟨wr, HAT.out wr HO.out.bel⟩⟩
      have hC : ∃ T : HeldL (AtL ⟨x, t, r, m⟩ b (oo + k * 4)), wr.drew = T.v := ⟨⟨wr.drew, (HAT.out wr HO.out.bel).drew⟩, rfl⟩
      refine wp_region_held_drew (S := fun w' => ∃ T : HeldL (AtL ⟨x, t, r, m⟩ b (oo + k * 4)), w' = T.v) (by kernel_rfl) hC (fun _ => ?_)
      refine takeList (i := 0) rfl (by kernel_rfl) (by kernel_rfl) (by kernel_rfl) (fun _ _ _ _ h => h) rfl rfl hC (fun K hK => ?_)
      go_big_quiet_op
      refine hK _ ?_
      clear hK K
      refine takeList (i := 1) rfl (by kernel_rfl) (by kernel_rfl) (by kernel_rfl) (fun _ _ _ _ h => h) rfl rfl hC (fun K hK => ?_)
      go_big_quiet_op
      refine hK _ ?_
      clear hK K
      refine takeList (i := 2) rfl (by kernel_rfl) (by kernel_rfl) (by kernel_rfl) (fun _ _ _ _ h => h) rfl rfl hC (fun K hK => ?_)
      go_big_quiet_op
      refine hK _ ?_
      clear hK K
      refine takeList (i := 3) rfl (by kernel_rfl) (by kernel_rfl) (by kernel_rfl) (fun _ _ _ _ h => h) rfl rfl hC (fun K hK => ?_)
      go_big_quiet_op
      refine hK _ ?_
      clear hK K
      refine takeList (i := 4) rfl (by kernel_rfl) (by kernel_rfl) (by kernel_rfl) (fun _ _ _ _ h => h) rfl rfl hC (fun K hK => ?_)
      go_big_quiet_op
      refine hK _ ?_
      clear hK K
      refine takeList (i := 5) rfl (by kernel_rfl) (by kernel_rfl) (by kernel_rfl) (fun _ _ _ _ h => h) rfl rfl hC (fun K hK => ?_)
      go_big_quiet_op
      refine hK _ ?_
      clear hK K
      refine takeList (i := 6) rfl (by kernel_rfl) (by kernel_rfl) (by kernel_rfl) (fun _ _ _ _ h => h) rfl rfl hC (fun K hK => ?_)
      go_big_quiet_op
      refine hK _ ?_
      clear hK K
      refine takeList (i := 7) rfl (by kernel_rfl) (by kernel_rfl) (by kernel_rfl) (fun _ _ _ _ h => h) rfl rfl hC (fun K hK => ?_)
      go_big_quiet_op
      refine hK _ ?_
      clear hK K
      refine takeList (i := 8) rfl (by kernel_rfl) (by kernel_rfl) (by kernel_rfl) (fun _ _ _ _ h => h) rfl rfl hC (fun K hK => ?_)
      go_big_quiet_op
      refine hK _ ?_
      clear hK K
      refine takeList (i := 9) rfl (by kernel_rfl) (by kernel_rfl) (by kernel_rfl) (fun _ _ _ _ h => h) rfl rfl hC (fun K hK => ?_)
      go_big_quiet_op
      refine hK _ ?_
      clear hK K
      refine takeList (i := 10) rfl (by kernel_rfl) (by kernel_rfl) (by kernel_rfl) (fun _ _ _ _ h => h) rfl rfl hC (fun K hK => ?_)
      go_big_quiet_op
      refine hK _ ?_
      clear hK K
      refine takeList (i := 11) rfl (by kernel_rfl) (by kernel_rfl) (by kernel_rfl) (fun _ _ _ _ h => h) rfl rfl hC (fun K hK => ?_)
      go_big_quiet_op
      refine hK _ ?_
      clear hK K
      refine takeList (i := 12) rfl (by kernel_rfl) (by kernel_rfl) (by kernel_rfl) (fun _ _ _ _ h => h) rfl rfl hC (fun K hK => ?_)
      go_big_quiet_op
      refine hK _ ?_
      clear hK K
      refine takeList (i := 13) rfl (by kernel_rfl) (by kernel_rfl) (by kernel_rfl) (fun _ _ _ _ h => h) rfl rfl hC (fun K hK => ?_)
      go_big_quiet_op
      refine hK _ ?_
      clear hK K
      refine takeList (i := 14) rfl (by kernel_rfl) (by kernel_rfl) (by kernel_rfl) (fun _ _ _ _ h => h) rfl rfl hC (fun K hK => ?_)
      go_big_quiet_op
      refine hK _ ?_
      clear hK K
      refine takeList (i := 15) rfl (by kernel_rfl) (by kernel_rfl) (by kernel_rfl) (fun _ _ _ _ h => h) rfl rfl hC (fun K hK => ?_)
      go_big_quiet_op
      refine hK _ ?_
      clear hK K
      refine callList (i := 16) rfl (by kernel_rfl) rfl (fun K hK => ?_)
      go_simp
      refine (e_wr [] [] g S S' x t r m z er (HO.out.below ((Below.refl _ wr).drew)) HXS.out HZ'.out HER.out HS'.out).mono ?_
      rintro e w5 ⟨rfl, h5, -⟩
      have hatn := HAT.out w5 h5.bel
      refine hK.out _ _ ⟨⟨_, hatn⟩, rfl⟩ ?_
      try go_simp
      clear hK K hC
      have hC : ∃ T : HeldL (AtL ⟨x, t, r, m⟩ b (oo + k * 4)), w5 = T.v := ⟨⟨_, hatn⟩, rfl⟩
      refine takeList (i := 17) rfl (by kernel_rfl) (by kernel_rfl) (by kernel_rfl) (fun _ _ _ _ h => h) rfl rfl hC (fun K hK => ?_)
      go_big_quiet_op
      refine hK _ ?_
      clear hK K
      refine takeList (i := 18) rfl (by kernel_rfl) (by kernel_rfl) (by kernel_rfl) (fun _ _ _ _ h => h) rfl rfl hC (fun K hK => ?_)
      go_big_quiet_op
      refine hK _ ?_
      clear hK K
      refine takeList (i := 19) rfl (by kernel_rfl) (by kernel_rfl) (by kernel_rfl) (fun _ _ _ _ h => h) rfl rfl hC (fun K hK => ?_)
      go_big_quiet_op
      refine hK _ ?_
      clear hK K
      refine takeList (i := 20) rfl (by kernel_rfl) (by kernel_rfl) (by kernel_rfl) (fun _ _ _ _ h => h) rfl rfl hC (fun K hK => ?_)
      go_big_quiet_op
      refine hK _ ?_
      clear hK K
      refine takeList (i := 21) rfl (by kernel_rfl) (by kernel_rfl) (by kernel_rfl) (fun _ _ _ _ h => h) rfl rfl hC (fun K hK => ?_)
      go_big_quiet_op
      refine hK _ ?_
      clear hK K
      refine wpAnyH_done (by kernel_rfl) ?_ _
      clear z0 z1 z2 z3 hne hC hatn
      have H5 : Hid (Els w w5 ([] ++ ⟨g, S', false⟩ :: [])) := h5
      clear h5 HO
      obtain ⟨y, u, q, p⟩ := S'
      obtain ⟨zl, hzl⟩ : ∃ zl, C.isL ⟨y, u, q, p⟩ = zl := ⟨_, rfl⟩
      have HZL : Hid _ := hzl
      have HNE2 : Hid (C.isL ⟨y, u, q, p⟩ = zl) := hzl
      clear hzl
      go_wp2_with fail
      refine (e_value [] [] g ⟨y, u, q, p⟩ y zl H5.out rfl HZL.out).mono ?_
      rintro e w6 ⟨rfl, hb6⟩
      have H6 : Hid (Els w w6 ([] ++ ⟨g, ⟨y, u, q, p⟩, false⟩ :: [])) := H5.out.below hb6
      clear hb6 H5
      go_wp2_with fail
      refine (e_when [] [] g ⟨y, u, q, p⟩ H6.out).mono ?_
      rintro e w7 ⟨rfl, hb7⟩
      have H7 : Hid (Els w w7 ([] ++ ⟨g, ⟨y, u, q, p⟩, false⟩ :: [])) := H6.out.below hb7
      clear hb7 H6
      simp only
      go_wp2_with fail
      have hq8 := heap_alloc_new w7 (.cells #[.int .i64 q, .int .i64 p] 31)
      have HB8 : Hid (Below w7.heap.size w7 (w7.alloc (.cells #[.int .i64 q, .int .i64 p] 31))) := below_new _ _
      obtain ⟨gd, hgd⟩ : ∃ gd, gd = w7.heap.size := ⟨_, rfl⟩
      rw [← hgd] at hq8 ⊢
      generalize w7.alloc (.cells #[.int .i64 q, .int .i64 p] 31) = w8 at *
      have H8 : Hid (Els w w8 ([] ++ ⟨g, ⟨y, u, q, p⟩, false⟩ :: [])) := H7.out.below HB8.out
      obtain ⟨d0, d1⟩ := box2_all hq8
      have hF : ∀ T : NewW w8, _ := fun T => (HAT.out T.v (bt H8.out.bel T.h)).cells
      have z0 : ∀ T : NewW w8, T.v.cell? ⟨b, oo + k * 4, none⟩ = some (.string x) := fun T => (hF T).1
      have z1 : ∀ T : NewW w8, T.v.cell? ⟨b, oo + k * 4 + 1, none⟩ = some (.int .i64 t) := fun T => (hF T).2.1
      have z2 : ∀ T : NewW w8, T.v.cell? ⟨b, oo + k * 4 + 2, none⟩ = some (.int .i64 r) := fun T => (hF T).2.2.1
      have z3 : ∀ T : NewW w8, T.v.cell? ⟨b, oo + k * 4 + 3, none⟩ = some (.int .i64 m) := fun T => (hF T).2.2.2
      have hne : Nonempty (NewW w8) := ⟨NewW.start w8⟩
      have HEND : Hid (∀ T : NewW w8, Els w T.v ([] ++ ⟨g, ⟨y, u, q, p⟩, false⟩ :: [])) := fun T => H8.out.below T.h
      have hwz : decide (u < was) = false := by have h : was ≤ u := HMO.out; exact decide_eq_false (by omega)
      have HWU : Hid (was ≤ u) := HMO.out
      clear hF hq8 hgd H7 H8 HB8
      cases z with
      | true =>
        obtain ⟨e1, e2, e3⟩ := HTR.out rfl
        have e4 : zl = true := HZL.out.symm.trans e3
        obtain ⟨rfl, rfl, rfl, rfl⟩ : y = x ∧ u = t ∧ q = r ∧ p = m := by simpa using e1
        subst e2 e4
        clear e1 e3
        have k1 : (y.toList == y.toList) = true := beq_self_eq_true _
        have k2 : (y.toList != y.toList) = false := bne_self_eq_false _
        have k3 : (u == u) = true := beq_self_eq_true _
        have k4 : (u != u) = false := bne_self_eq_false _
        have k5 := fun W => eq_dot q p q p W
        simp only [BEq.rfl, Bool.and_self] at k5
        refine wp_region_new (by kernel_rfl) (by kernel_rfl) ?_
        repeat (go_big_quiet_step (fail))
        refine wpQuiet_nil ?_
        rintro _ ⟨w9, rfl⟩
        have H9 : Hid _ := HEND.out w9
        clear k1 k2 k3 k4 k5 z0 z1 z2 z3 d0 d1 hne hwz HEND
        go_wp2
        go_roundw
        case rel => exact ⟨k + 1, ⟨y, u, q, p⟩, u, rfl, by go_num, by omega, Int.le_refl _, H9.out⟩
        case measure => simp [RowKit.intOf]; omega
      | false =>
        clear HTR HZL
        by_cases her : er = 0
        · have k1 : (er != 0) = false := by simp [her]
          cases zl
          all_goals
            refine wp_region_new (by kernel_rfl) (by kernel_rfl) ?_
            repeat (go_big_quiet_step (fail))
            refine wpQuiet_nil ?_
            rintro _ ⟨w9, rfl⟩
            have H9 : Hid _ := HEND.out w9
            clear k1 z0 z1 z2 z3 d0 d1 hne hwz HEND
            go_wp2
            go_roundw
            case rel => first | exact ⟨k + 1, ⟨y, u, q, p⟩, u, rfl, by go_num, by omega, Int.le_refl _, H9.out⟩ | exact ⟨k + 1, ⟨y, u, q, p⟩, was, rfl, by go_num, by omega, HWU.out, H9.out⟩
            case measure => simp [RowKit.intOf]; omega
        · have k1 : (er != 0) = true := by simp [her]
          cases zl
          all_goals
            refine wp_region_new (by kernel_rfl) (by kernel_rfl) ?_
            repeat (go_big_quiet_step (fail))
            refine wpQuiet_nil ?_
            rintro _ ⟨w9, rfl⟩
            have H9 : Hid _ := HEND.out w9
            clear k1 z0 z1 z2 z3 d0 d1 hne hwz HEND
            go_wp2
            go_roundw
            case rel => first | exact ⟨k + 1, ⟨y, u, q, p⟩, u, rfl, by go_num, by omega, Int.le_refl _, H9.out⟩ | exact ⟨k + 1, ⟨y, u, q, p⟩, was, rfl, by go_num, by omega, HWU.out, H9.out⟩
            case measure => simp [RowKit.intOf]; omega
    · obtain rfl : k = n := by omega
      have HBE : Hid (Below w.heap.size w wr) := HO.out.bel
      clear HO
      go_wp2
      go_ret
      exact ⟨rfl, HBE.out⟩
end Go.Proofs.Ytebfhomopdnkkaa
