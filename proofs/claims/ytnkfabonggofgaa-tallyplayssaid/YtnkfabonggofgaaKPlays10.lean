/-
  TallyPlays: any numbers added, merged, in bytes, are as the document says.
-/
import Derived.Test.YtnkfabonggofgaaYObjs2
import Derived.Test.YtnkfabonggofgaaBVec
import Derived.Test.YtnkfabonggofgaaBTake3
import Derived.Test.YtnkfabonggofgaaBStructs
namespace Go.Proofs.Ytnkfabonggofgaa
open Go.RowKit Go.Lib
set_option linter.unusedVariables false

theorem kU (a : V7) (w : World) : (Op.equalIn 10000 35 a.v a.v).run Try.prog w = .ok true w := eq7_arrs (C.same_self a) w
theorem u_new10 {w0 w : World} {L : List TO} (h : Tas w0 w L) : Tas w0 (w.alloc (.cells #[.int .i64 0, .int .i64 0, .int .i64 0, .int .i64 0, .int .i64 0, .int .i64 0, .int .i64 0, .int .i64 0, .int .i64 0, .int .i64 0, .int .i64 0, .int .i64 0, .int .i64 0, .int .i64 0] 37)) (L ++ [⟨w.heap.size, C.zeroT, true⟩]) := u_new h
theorem Tas.front {w0 w : World} {L L' : List TO} (h : Tas w0 w (L ++ L')) : Tas w0 w L :=
  ⟨fun o ho => h.at_ o (List.mem_append_left _ ho), (List.pairwise_append.1 h.apart).1, h.bel⟩
set_option maxRecDepth 100000 in
set_option maxHeartbeats 0 in
theorem plays_walk (pa : Option Addr) (l : List Int) (ca : Nat) (pb : Option Addr) (m : List Int) (cb : Nat) (pd : Option Addr) (o : List Int) (cd : Nat) (pe : Option Addr) (lb : List UInt8) (ce : Nat) (w : World) (hcm : l.length ≤ maxLen) (ha : IAt w pa l) (hcm1 : m.length ≤ maxLen) (hb : IAt w pb m) (hcm2 : o.length ≤ maxLen) (hd : IAt w pd o) (hx : (Part.mk pe lb ce).ok w) (hlc3 : lb.length ≤ ce) (hcm3 : ce ≤ maxLen) (hat : 0 < ce → ∃ b o, pe = some ⟨b, o, none⟩) :
    Calls Try.prog 4 #[.slice pa l.length ca, .slice pb m.length cb, .slice pd o.length cd, .slice pe lb.length ce] w fun e w' => e = .returned (.bool true) ∧ Below w.heap.size w w' := by
  have HA : Hid (IAt w pa l) := ha
  have HB : Hid (IAt w pb m) := hb
  have HD : Hid (IAt w pd o) := hd
  unfold maxLen at hcm hcm1 hcm2
  obtain ⟨n, hn⟩ : ∃ n, n = l.length := ⟨_, rfl⟩
  have HN : Hid (n = l.length) := hn
  obtain ⟨q, hq⟩ : ∃ q, q = m.length := ⟨_, rfl⟩
  have HQ : Hid (q = m.length) := hq
  obtain ⟨u, hu⟩ : ∃ u, u = o.length := ⟨_, rfl⟩
  have HU : Hid (u = o.length) := hu
  obtain ⟨v, hv⟩ : ∃ v, v = lb.length := ⟨_, rfl⟩
  have HX : Hid (Is w pe v ce lb) := ⟨hv, hx⟩
  have HCM : Hid (v ≤ ce ∧ ce ≤ maxLen ∧ (0 < ce → ∃ b o, pe = some ⟨b, o, none⟩)) := ⟨by omega, hcm3, hat⟩
  have HVL : Hid (v = lb.length) := hv
  have hvb : v ≤ 9223372036854775807 := by unfold maxLen at hcm3; omega
  rw [← hn] at hcm ⊢
  rw [← hq] at hcm1 ⊢
  rw [← hu] at hcm2 ⊢
  rw [← hv]
  clear hn hq hu hv ha hb hd hx hlc3 hcm3 hat
  by_cases hout : 60 < n ∨ ¬ q = n ∨ 7 < u ∨ 300 < v
  · have hqn : ((q : Int) == (n : Int)) = decide (q = n) := by rw [Bool.eq_iff_iff]; simp; omega
    by_cases h1 : 60 < n
    · clear hout hqn
      go_enter Try.func4, Try.ntmps4
      go_wp2_with fail
      refine (awake10_any _).mono ?_
      rintro e w1 ⟨rfl, hb1⟩
      go_wp2
      go_ret
      exact ⟨rfl, hb1⟩
    · by_cases h2 : q = n
      · subst h2
        by_cases h3 : 7 < u
        · clear hout hqn
          have hqq : ((q : Int) == (q : Int)) = true := beq_self_eq_true _
          go_enter Try.func4, Try.ntmps4
          go_wp2_with fail
          refine (awake10_any _).mono ?_
          rintro e w1 ⟨rfl, hb1⟩
          go_wp2
          go_ret
          exact ⟨rfl, hb1⟩
        · have h4 : 300 < v := by omega
          clear hout hqn
          have hqq : ((q : Int) == (q : Int)) = true := beq_self_eq_true _
          go_enter Try.func4, Try.ntmps4
          go_wp2_with fail
          refine (awake10_any _).mono ?_
          rintro e w1 ⟨rfl, hb1⟩
          go_wp2
          go_ret
          exact ⟨rfl, hb1⟩
      · clear hout
        have hqq : ((q : Int) == (n : Int)) = false := by rw [hqn]; simpa using h2
        clear hqn
        go_enter Try.func4, Try.ntmps4
        go_wp2_with fail
        refine (awake10_any _).mono ?_
        rintro e w1 ⟨rfl, hb1⟩
        go_wp2
        go_ret
        exact ⟨rfl, hb1⟩
  obtain ⟨h1, h2, h3, h4⟩ : n ≤ 60 ∧ q = n ∧ u ≤ 7 ∧ v ≤ 300 := by omega
  subst h2
  clear hout
  have hqq : ((q : Int) == (q : Int)) = true := beq_self_eq_true _
  go_enter Try.func4, Try.ntmps4
  go_wp2_with fail
  refine (awake10_any _).mono ?_
  rintro e w1 ⟨rfl, hb1⟩
  have HB1 : Hid (Below w.heap.size w w1) := hb1
  clear hb1
  go_wp2_with fail
  refine (t_new (Tas.nil HB1.out)).mono ?_
  rintro e w2 ⟨gs, rfl, h2, -⟩
  have h3' := u_new10 h2
  go_wp2_with fail
  obtain ⟨gw, hgw⟩ : ∃ gw, w2.heap.size = gw := ⟨_, rfl⟩
  rw [hgw] at h3' ⊢
  generalize World.alloc w2 _ = W3 at h3' ⊢
  have H3 : Hid (Tas w W3 [⟨gs, C.zeroT, false⟩, ⟨gw, C.zeroT, true⟩]) := h3'
  clear h2 h3' hgw hqq
  go_loopw [11] (fun s11 wr => ∃ (k : Nat) (S : C.Ta), s11 = .int .i64 k ∧ k ≤ q ∧ Hid (Tas w wr [⟨gs, S, false⟩, ⟨gw, S, true⟩])) (fun s11 _ => q - (intOf s11).toNat)
  case atStart => exact ⟨0, _, rfl, Nat.zero_le _, H3.out⟩
  case round =>
    clear H3
    obtain ⟨k, S, rfl, hkn, HO⟩ := hrel
    by_cases hlt : k < q
    · obtain ⟨b1, o1, r, rfl, hr, hc1⟩ := HA.out.at_ (Below.refl _ w) (k := k) (by have := HN.out; omega)
      obtain ⟨b2, o2, x, rfl, hx, hc2⟩ := HB.out.at_ (Below.refl _ w) (k := k) (by have := HQ.out; omega)
      have a1 : ∀ m : NewW w, m.v.cell? ⟨b1, o1 + k, none⟩ = some (.int .i64 r) := fun m => (m.h.cell (p := ⟨b1, o1 + k, none⟩) (World.block_lt_of_cell? _ _ hc1)).trans hc1
      have a2 : ∀ m : NewW w, m.v.cell? ⟨b2, o2 + k, none⟩ = some (.int .i64 x) := fun m => (m.h.cell (p := ⟨b2, o2 + k, none⟩) (World.block_lt_of_cell? _ _ hc2)).trans hc2
      clear hr hx hc1 hc2
      obtain ⟨S', hS'⟩ : ∃ S', C.addT S r x = S' := ⟨_, rfl⟩
      obtain ⟨er, her⟩ : ∃ er, C.errT S r x = er := ⟨_, rfl⟩
      obtain ⟨zv, hzv⟩ : ∃ zv, C.valT S' = zv := ⟨_, rfl⟩
      have HS' : Hid _ := hS'
      have HER : Hid _ := her
      have HZV : Hid _ := hzv
      have hee : (er == er) = true := beq_self_eq_true er
      have hzz : (zv == zv) = true := beq_self_eq_true zv
      clear hS' her hzv
      have hne : Nonempty (NewW w) := ⟨NewW.start w⟩
      go_wp2_with fail
      have hC : ∃ m : NewW w, wr.drew = m.v := ⟨⟨wr.drew, HO.out.bel.drew⟩, rfl⟩
      have HO0 : Hid (Tas w wr.drew ([] ++ ⟨gs, S, false⟩ :: [⟨gw, S, true⟩])) := HO.out.below (Below.refl _ wr).drew
      refine wp_region_held_drew (S := fun w' => ∃ m : NewW w, w' = m.v) (by kernel_rfl) hC (fun _ => ?_)
      generalize wr.drew = W0 at *
      clear HO
      refine takeList (i := 0) rfl (by kernel_rfl) (by kernel_rfl) (by kernel_rfl) (fun _ _ _ _ h => h) rfl rfl hC (fun K hK => ?_)
      go_big_quiet_op
      refine hK _ ?_
      clear hK K
      refine takeList (i := 1) rfl (by kernel_rfl) (by kernel_rfl) (by kernel_rfl) (fun _ _ _ _ h => h) rfl rfl hC (fun K hK => ?_)
      go_big_quiet_op
      refine hK _ ?_
      clear hK K
      refine takeList (i := 2) rfl (by kernel_rfl) (by kernel_rfl) (by kernel_rfl) (fun _ _ _ _ h => h) rfl rfl hC (fun K hK => ?_)
      go_big_quiet_op
      refine hK _ ?_
      clear hK K
      refine takeList (i := 3) rfl (by kernel_rfl) (by kernel_rfl) (by kernel_rfl) (fun _ _ _ _ h => h) rfl rfl hC (fun K hK => ?_)
      go_big_quiet_op
      refine hK _ ?_
      clear hK K
      refine takeList (i := 4) rfl (by kernel_rfl) (by kernel_rfl) (by kernel_rfl) (fun _ _ _ _ h => h) rfl rfl hC (fun K hK => ?_)
      go_big_quiet_op
      refine hK _ ?_
      clear hK K
      refine takeList (i := 5) rfl (by kernel_rfl) (by kernel_rfl) (by kernel_rfl) (fun _ _ _ _ h => h) rfl rfl hC (fun K hK => ?_)
      go_big_quiet_op
      refine hK _ ?_
      clear hK K
      refine takeList (i := 6) rfl (by kernel_rfl) (by kernel_rfl) (by kernel_rfl) (fun _ _ _ _ h => h) rfl rfl hC (fun K hK => ?_)
      go_big_quiet_op
      refine hK _ ?_
      clear hK K
      refine takeList (i := 7) rfl (by kernel_rfl) (by kernel_rfl) (by kernel_rfl) (fun _ _ _ _ h => h) rfl rfl hC (fun K hK => ?_)
      go_big_quiet_op
      refine hK _ ?_
      clear hK K
      refine takeList (i := 8) rfl (by kernel_rfl) (by kernel_rfl) (by kernel_rfl) (fun _ _ _ _ h => h) rfl rfl hC (fun K hK => ?_)
      go_big_quiet_op
      refine hK _ ?_
      clear hK K
      refine takeList (i := 10) rfl (by kernel_rfl) (by kernel_rfl) (by kernel_rfl) (fun _ _ _ _ h => h) rfl rfl hC (fun K hK => ?_)
      go_big_quiet_op
      refine hK _ ?_
      clear hK K
      refine takeList (i := 11) rfl (by kernel_rfl) (by kernel_rfl) (by kernel_rfl) (fun _ _ _ _ h => h) rfl rfl hC (fun K hK => ?_)
      go_big_quiet_op
      refine hK _ ?_
      clear hK K
      refine takeList (i := 12) rfl (by kernel_rfl) (by kernel_rfl) (by kernel_rfl) (fun _ _ _ _ h => h) rfl rfl hC (fun K hK => ?_)
      go_big_quiet_op
      refine hK _ ?_
      clear hK K
      refine takeList (i := 13) rfl (by kernel_rfl) (by kernel_rfl) (by kernel_rfl) (fun _ _ _ _ h => h) rfl rfl hC (fun K hK => ?_)
      go_big_quiet_op
      refine hK _ ?_
      clear hK K
      refine takeList (i := 14) rfl (by kernel_rfl) (by kernel_rfl) (by kernel_rfl) (fun _ _ _ _ h => h) rfl rfl hC (fun K hK => ?_)
      go_big_quiet_op
      refine hK _ ?_
      clear hK K
      refine takeList (i := 15) rfl (by kernel_rfl) (by kernel_rfl) (by kernel_rfl) (fun _ _ _ _ h => h) rfl rfl hC (fun K hK => ?_)
      go_big_quiet_op
      refine hK _ ?_
      clear hK K
      refine takeList (i := 16) rfl (by kernel_rfl) (by kernel_rfl) (by kernel_rfl) (fun _ _ _ _ h => h) rfl rfl hC (fun K hK => ?_)
      go_big_quiet_op
      refine hK _ ?_
      clear hK K
      refine takeList (i := 17) rfl (by kernel_rfl) (by kernel_rfl) (by kernel_rfl) (fun _ _ _ _ h => h) rfl rfl hC (fun K hK => ?_)
      go_big_quiet_op
      refine hK _ ?_
      clear hK K
      refine takeList (i := 18) rfl (by kernel_rfl) (by kernel_rfl) (by kernel_rfl) (fun _ _ _ _ h => h) rfl rfl hC (fun K hK => ?_)
      go_big_quiet_op
      refine hK _ ?_
      clear hK K
      refine callList (i := 9) rfl (by kernel_rfl) rfl (fun K hK => ?_)
      go_simp
      refine (t_add [] _ gs S S' r x er HO0.out HER.out HS'.out).mono ?_
      rintro e w6 ⟨rfl, h6, -⟩
      have H6 : Hid (Tas w w6 ([⟨gs, S', false⟩] ++ ⟨gw, S, true⟩ :: [])) := h6
      refine hK.out _ _ ⟨⟨w6, h6.bel⟩, rfl⟩ ?_
      try go_simp
      clear hK K hC HO0 h6
      have hC : ∃ m : NewW w, w6 = m.v := ⟨⟨_, H6.out.bel⟩, rfl⟩
      refine callList (i := 19) rfl (by kernel_rfl) rfl (fun K hK => ?_)
      go_simp
      refine (u_add _ [] gw S S' r x er H6.out HER.out HS'.out).mono ?_
      rintro e w7 ⟨rfl, h7, -⟩
      have H7 : Hid (Tas w w7 [⟨gs, S', false⟩, ⟨gw, S', true⟩]) := h7
      refine hK.out _ _ ⟨⟨w7, h7.bel⟩, rfl⟩ ?_
      try go_simp
      clear hK K hC H6 h7 hne a1 a2
      refine wpAnyH_strengthen (S' := fun w' => ∃ m : NewW w7, w' = m.v) (fun w' ⟨m, hm⟩ => ⟨⟨m.v, bt H7.out.bel m.h⟩, hm⟩) _ _ _ _ ?_
      have hC : ∃ m : NewW w7, w7 = m.v := ⟨⟨_, Below.refl _ _⟩, rfl⟩
      have hB : Below w7.heap.size w7 w7 := Below.refl _ _
      have hne : Nonempty (NewW w7) := ⟨NewW.start w7⟩
      have HV1 : Hid (∀ W, Below w7.heap.size w7 W → Calls Try.prog 10 #[.pointer (some ⟨gs, 0, none⟩)] W fun e w' => e = .returned (.int .i64 zv) ∧ w' = W) := fun W hW => t_value [] [⟨gw, S', true⟩] gs S' zv (H7.out.below hW) HZV.out
      have HV2 : Hid (∀ W, Below w7.heap.size w7 W → Calls Try.prog 14 #[.pointer (some ⟨gw, 0, none⟩)] W fun e w' => e = .returned (.int .i64 zv) ∧ Below W.heap.size W w') := fun W hW => u_value [⟨gs, S', false⟩] [] gw S' zv (H7.out.below hW) HZV.out
      have HUP : Hid (∀ W, Below w7.heap.size w7 W → Calls Try.prog 15 #[.pointer (some ⟨gs, 0, none⟩)] W fun e w' => e = .returned S'.u.v ∧ Below W.heap.size W w') := fun W hW => t_up [] [⟨gw, S', true⟩] gs S' (H7.out.below hW)
      have HDN : Hid (∀ W, Below w7.heap.size w7 W → Calls Try.prog 16 #[.pointer (some ⟨gs, 0, none⟩)] W fun e w' => e = .returned S'.d.v ∧ Below W.heap.size W w') := fun W hW => t_down [] [⟨gw, S', true⟩] gs S' (H7.out.below hW)
      have hg7 : TaAt w7 gw 37 S' := (H7.out.at_ ⟨gw, S', true⟩ (by simp)).1
      have kU1 := kU S'.u
      have kU2 := kU S'.d
      obtain ⟨⟨u0, u1, u2, u3, u4, u5, u6⟩, ⟨d0, d1, d2, d3, d4, d5, d6⟩⟩ := S'
      simp only [V7.v] at HUP HDN kU1 kU2
      obtain ⟨z0, z1, z2, z3, z4, z5, z6, z7, z8, z9, z10, z11, z12, z13⟩ := cells14_all hg7
      clear hg7
      refine takeList (i := 20) rfl (by kernel_rfl) (by kernel_rfl) (by kernel_rfl) (fun _ _ _ _ h => h) rfl rfl hC (fun K hK => ?_)
      go_big_quiet_op
      refine hK _ ?_
      clear hK K
      refine takeList (i := 21) rfl (by kernel_rfl) (by kernel_rfl) (by kernel_rfl) (fun _ _ _ _ h => h) rfl rfl hC (fun K hK => ?_)
      go_big_quiet_op
      refine hK _ ?_
      clear hK K
      refine takeList (i := 22) rfl (by kernel_rfl) (by kernel_rfl) (by kernel_rfl) (fun _ _ _ _ h => h) rfl rfl hC (fun K hK => ?_)
      go_big_quiet_op
      refine hK _ ?_
      clear hK K
      refine takeList (i := 24) rfl (by kernel_rfl) (by kernel_rfl) (by kernel_rfl) (fun _ _ _ _ h => h) rfl rfl hC (fun K hK => ?_)
      go_big_quiet_op
      refine hK _ ?_
      clear hK K
      refine callList (i := 23) rfl (by kernel_rfl) rfl (fun K hK => ?_)
      go_simp
      refine (HV1.out _ hB).mono ?_
      rintro e wk ⟨rfl, hk⟩
      rw [hk]
      clear hk wk
      refine hK.out _ _ hC ?_
      try go_simp
      clear hK K
      refine callList (i := 25) rfl (by kernel_rfl) rfl (fun K hK => ?_)
      go_simp
      refine (HV2.out _ hB).mono ?_
      rintro e w8 ⟨rfl, hk⟩
      replace hB := bt hB hk
      refine hK.out _ _ ⟨⟨_, hB⟩, rfl⟩ ?_
      try go_simp
      clear hK K hC hk
      have hC : ∃ m : NewW w7, w8 = m.v := ⟨⟨_, hB⟩, rfl⟩
      refine takeList (i := 26) rfl (by kernel_rfl) (by kernel_rfl) (by kernel_rfl) (fun _ _ _ _ h => h) rfl rfl hC (fun K hK => ?_)
      go_big_quiet_op
      refine hK _ ?_
      clear hK K
      refine takeList (i := 27) rfl (by kernel_rfl) (by kernel_rfl) (by kernel_rfl) (fun _ _ _ _ h => h) rfl rfl hC (fun K hK => ?_)
      go_big_quiet_op
      refine hK _ ?_
      clear hK K
      refine takeList (i := 28) rfl (by kernel_rfl) (by kernel_rfl) (by kernel_rfl) (fun _ _ _ _ h => h) rfl rfl hC (fun K hK => ?_)
      go_big_quiet_op
      refine hK _ ?_
      clear hK K
      refine takeList (i := 29) rfl (by kernel_rfl) (by kernel_rfl) (by kernel_rfl) (fun _ _ _ _ h => h) rfl rfl hC (fun K hK => ?_)
      go_big_quiet_op
      refine hK _ ?_
      clear hK K
      refine takeList (i := 31) rfl (by kernel_rfl) (by kernel_rfl) (by kernel_rfl) (fun _ _ _ _ h => h) rfl rfl hC (fun K hK => ?_)
      go_big_quiet_op
      refine hK _ ?_
      clear hK K
      refine takeNil (i := 32) rfl rfl rfl (by kernel_rfl) (by kernel_rfl) (by kernel_rfl) (fun _ _ _ _ h => h) rfl hC ?_
      go_simp
      refine takeList (i := 33) rfl (by kernel_rfl) (by kernel_rfl) (by kernel_rfl) (fun _ _ _ _ h => h) rfl rfl hC (fun K hK => ?_)
      go_big_quiet_op
      refine hK _ ?_
      clear hK K
      refine takeList (i := 34) rfl (by kernel_rfl) (by kernel_rfl) (by kernel_rfl) (fun _ _ _ _ h => h) rfl rfl hC (fun K hK => ?_)
      go_big_quiet_op
      refine hK _ ?_
      clear hK K
      refine callList (i := 30) rfl (by kernel_rfl) rfl (fun K hK => ?_)
      go_simp
      refine (HUP.out _ hB).mono ?_
      rintro e w9 ⟨rfl, hk⟩
      replace hB := bt hB hk
      refine hK.out _ _ ⟨⟨_, hB⟩, rfl⟩ ?_
      try go_simp
      clear hK K hC hk
      have hC : ∃ m : NewW w7, w9 = m.v := ⟨⟨_, hB⟩, rfl⟩
      refine takeList (i := 35) rfl (by kernel_rfl) (by kernel_rfl) (by kernel_rfl) (fun _ _ _ _ h => h) rfl rfl hC (fun K hK => ?_)
      go_big_quiet_op
      refine hK _ ?_
      clear hK K
      refine takeList (i := 36) rfl (by kernel_rfl) (by kernel_rfl) (by kernel_rfl) (fun _ _ _ _ h => h) rfl rfl hC (fun K hK => ?_)
      go_big_quiet_op
      refine hK _ ?_
      clear hK K
      refine takeList (i := 37) rfl (by kernel_rfl) (by kernel_rfl) (by kernel_rfl) (fun _ _ _ _ h => h) rfl rfl hC (fun K hK => ?_)
      go_big_quiet_op
      refine hK _ ?_
      clear hK K
      refine takeList (i := 38) rfl (by kernel_rfl) (by kernel_rfl) (by kernel_rfl) (fun _ _ _ _ h => h) rfl rfl hC (fun K hK => ?_)
      go_big_quiet_op
      refine hK _ ?_
      clear hK K
      refine takeList (i := 40) rfl (by kernel_rfl) (by kernel_rfl) (by kernel_rfl) (fun _ _ _ _ h => h) rfl rfl hC (fun K hK => ?_)
      go_big_quiet_op
      refine hK _ ?_
      clear hK K
      refine takeNil (i := 41) rfl rfl rfl (by kernel_rfl) (by kernel_rfl) (by kernel_rfl) (fun _ _ _ _ h => h) rfl hC ?_
      go_simp
      refine takeList (i := 42) rfl (by kernel_rfl) (by kernel_rfl) (by kernel_rfl) (fun _ _ _ _ h => h) rfl rfl hC (fun K hK => ?_)
      go_big_quiet_op
      refine hK _ ?_
      clear hK K
      refine takeList (i := 43) rfl (by kernel_rfl) (by kernel_rfl) (by kernel_rfl) (fun _ _ _ _ h => h) rfl rfl hC (fun K hK => ?_)
      go_big_quiet_op
      refine hK _ ?_
      clear hK K
      refine callList (i := 39) rfl (by kernel_rfl) rfl (fun K hK => ?_)
      go_simp
      refine (HDN.out _ hB).mono ?_
      rintro e w10 ⟨rfl, hk⟩
      replace hB := bt hB hk
      refine hK.out _ _ ⟨⟨_, hB⟩, rfl⟩ ?_
      try go_simp
      clear hK K hC hk
      have hC : ∃ m : NewW w7, w10 = m.v := ⟨⟨_, hB⟩, rfl⟩
      refine takeList (i := 44) rfl (by kernel_rfl) (by kernel_rfl) (by kernel_rfl) (fun _ _ _ _ h => h) rfl rfl hC (fun K hK => ?_)
      go_big_quiet_op
      refine hK _ ?_
      clear hK K
      refine takeList (i := 45) rfl (by kernel_rfl) (by kernel_rfl) (by kernel_rfl) (fun _ _ _ _ h => h) rfl rfl hC (fun K hK => ?_)
      go_big_quiet_op
      refine hK _ ?_
      clear hK K
      refine wpAnyH_done (by kernel_rfl) ?_ _
      have H10 : Hid (Tas w w10 [⟨gs, ⟨⟨u0, u1, u2, u3, u4, u5, u6⟩, ⟨d0, d1, d2, d3, d4, d5, d6⟩⟩, false⟩, ⟨gw, ⟨⟨u0, u1, u2, u3, u4, u5, u6⟩, ⟨d0, d1, d2, d3, d4, d5, d6⟩⟩, true⟩]) := H7.out.below hB
      clear z0 z1 z2 z3 z4 z5 z6 z7 z8 z9 z10 z11 z12 z13 kU1 kU2 hB hC H7 HV1 HV2 HUP HDN
      go_wp2
      go_roundw
      case rel => exact ⟨k + 1, _, by go_num, by omega, H10.out⟩
      case measure => simp [intOf]; omega
    · obtain rfl : k = q := by omega
      go_wp2_with fail
      refine (t_new HO.out).mono ?_
      rintro e w4 ⟨go, rfl, h4, -⟩
      have h5' := u_new10 h4
      go_wp2_with fail
      obtain ⟨gu, hgu⟩ : ∃ gu, w4.heap.size = gu := ⟨_, rfl⟩
      rw [hgu] at h5' ⊢
      generalize World.alloc w4 _ = W5 at h5' ⊢
      have H5 : Hid (Tas w W5 [⟨gs, S, false⟩, ⟨gw, S, true⟩, ⟨go, C.zeroT, false⟩, ⟨gu, C.zeroT, true⟩]) := h5'
      clear h4 h5' hgu HO
      go_loopw [14] (fun s14 wr => ∃ (j : Nat) (O : C.Ta), s14 = .int .i64 j ∧ j ≤ u ∧ Hid (Tas w wr [⟨gs, S, false⟩, ⟨gw, S, true⟩, ⟨go, O, false⟩, ⟨gu, O, true⟩])) (fun s14 _ => u - (intOf s14).toNat)
      case atStart => exact ⟨0, _, rfl, Nat.zero_le _, H5.out⟩
      case round =>
        clear H5
        obtain ⟨j, O, rfl, hju, HO⟩ := hrel
        by_cases hlt2 : j < u
        · obtain ⟨b3, o3, x, rfl, hx, hc3⟩ := HD.out.at_ (Below.refl _ w) (k := j) (by have := HU.out; omega)
          have HC3 : Hid (∀ W, Below w.heap.size w W → W.cell? ⟨b3, o3 + j, none⟩ = some (.int .i64 x)) := fun W hW => (hW.cell (p := ⟨b3, o3 + j, none⟩) (World.block_lt_of_cell? _ _ hc3)).trans hc3
          clear hx hc3
          have c1 := HC3.out _ HO.out.bel
          obtain ⟨O', hO'⟩ : ∃ O', C.addT O (j : Int) x = O' := ⟨_, rfl⟩
          have HO' : Hid _ := hO'
          clear hO'
          go_wp2_with fail
          refine (t_add [⟨gs, S, false⟩, ⟨gw, S, true⟩] [⟨gu, O, true⟩] go O O' j x _ HO.out rfl HO'.out).mono ?_
          rintro e w6 ⟨rfl, h6, -⟩
          have H6 : Hid (Tas w w6 ([⟨gs, S, false⟩, ⟨gw, S, true⟩, ⟨go, O', false⟩] ++ ⟨gu, O, true⟩ :: [])) := h6
          clear h6 HO c1
          have c1 := HC3.out _ H6.out.bel
          go_wp2_with fail
          refine (u_add _ [] gu O O' j x _ H6.out rfl HO'.out).mono ?_
          rintro e w7 ⟨rfl, h7, -⟩
          have H7 : Hid (Tas w w7 [⟨gs, S, false⟩, ⟨gw, S, true⟩, ⟨go, O', false⟩, ⟨gu, O', true⟩]) := h7
          clear h7 H6 c1 HC3 HO'
          go_wp2
          go_roundw
          case rel => exact ⟨j + 1, O', by go_num, by omega, H7.out⟩
          case measure => simp [intOf]; omega
        · obtain rfl : j = u := by omega
          obtain ⟨M, hM⟩ : ∃ M, C.mrgT S O = M := ⟨_, rfl⟩
          have HM : Hid _ := hM
          clear hM
          go_wp2_with fail
          refine (t_merge [] [⟨gw, S, true⟩, ⟨go, O, false⟩, ⟨gu, O, true⟩] gs go S O M HO.out (by simp) HM.out).mono ?_
          rintro e w6 ⟨rfl, h6, -⟩
          have H6 : Hid (Tas w w6 ([⟨gs, M, false⟩] ++ ⟨gw, S, true⟩ :: [⟨go, O, false⟩, ⟨gu, O, true⟩])) := h6
          clear h6 HO
          go_wp2_with fail
          refine (u_merge [⟨gs, M, false⟩] [⟨go, O, false⟩, ⟨gu, O, true⟩] gw gu S O M H6.out (by simp) HM.out).mono ?_
          rintro e w7 ⟨rfl, h7, -⟩
          have H7 : Hid (Tas w w7 [⟨gs, M, false⟩, ⟨gw, M, true⟩, ⟨go, O, false⟩, ⟨gu, O, true⟩]) := h7
          clear h7 H6
          have HLB : Hid (lb.length ≤ 300) := by have := HVL.out; show _ ≤ _; omega
          go_wp2_with fail
          refine (read_at w7 pe v ce lb (HX.out.below H7.out.bel) (Nat.le_trans HLB.out (by decide))).mono ?_
          rintro e w8 ⟨⟨gr, p8, n8, c8, rfl, hlo, hlt8, hr8⟩, hb8⟩
          have HR8 : Hid (Rd w8 gr (some lb) p8 n8 c8) := hr8
          have HG8 : Hid (w.heap.size ≤ gr) := Nat.le_trans H7.out.bel.size hlo
          have H8 : Hid (Tas w w8 [⟨gs, M, false⟩, ⟨gw, M, true⟩, ⟨go, O, false⟩, ⟨gu, O, true⟩]) := H7.out.below hb8
          clear hr8 hlo hlt8 hb8 H7
          go_wp2_with fail
          have hX : Rd (w8.alloc (.cells #[.slice pe v ce, .int .i64 0, .bool false] 43)) gr (some lb) p8 n8 c8 ∧ Rs (w8.alloc (.cells #[.slice pe v ce, .int .i64 0, .bool false] 43)) w8.heap.size pe v ce lb (some lb) ∧ Tas w (w8.alloc (.cells #[.slice pe v ce, .int .i64 0, .bool false] 43)) [⟨gs, M, false⟩, ⟨gw, M, true⟩, ⟨go, O, false⟩, ⟨gu, O, true⟩] ∧ w8.heap.size < (w8.alloc (.cells #[.slice pe v ce, .int .i64 0, .bool false] 43)).heap.size := ⟨HR8.out.below (below_new _ _), ⟨0, ⟨heap_alloc_new _ _, Is.below HX.out (bt H8.out.bel (below_new _ _)), HCM.out.1, HCM.out.2.1, Nat.zero_le _, HCM.out.2.2⟩, fun r hr => by cases hr; rfl⟩, H8.out.below (below_new _ _), by simp⟩
          generalize World.alloc w8 _ = w9 at hX ⊢
          obtain ⟨hr9, hs9, h9, -⟩ := hX
          have HNE : Hid (gr ≠ w8.heap.size) := by have := HR8.out.lt; show _ ≠ _; omega
          have HGS : Hid (w.heap.size ≤ w8.heap.size) := H8.out.bel.size
          have HR9 : Hid _ := hr9
          have HS9 : Hid (Rs w9 w8.heap.size pe v ce lb (some lb)) := hs9
          have H9 : Hid _ := h9
          clear hr9 hs9 h9 HR8 H8
          generalize w8.heap.size = gq at *
          obtain ⟨G, sG, hG⟩ : ∃ G sG, C.getT (some lb) = (G, sG) := ⟨_, _, rfl⟩
          have HGT : Hid (C.getT (some lb) = (G, sG)) := hG
          have HGO : Hid G.Ok := by have := C.getT_ok (some lb); rw [hG] at this; exact this
          clear hG
          refine (tget_any w9 gr (some lb) sG p8 n8 c8 G HR9.out (Nat.le_trans HLB.out (by decide)) HGT.out).mono ?_
          rintro e w10 ⟨ht10, -, hg10⟩
          have HS10 : Hid (Rs w10 gq pe v ce lb (some lb)) := HS9.out.kept hg10 HR9.out.nb HNE.out.symm
          have H10 : Hid (Tas w w10 [⟨gs, M, false⟩, ⟨gw, M, true⟩, ⟨go, O, false⟩, ⟨gu, O, true⟩]) := H9.out.grown HR9.out HG8.out hg10
          have HN10 : Hid (w9.heap.size ≤ w10.heap.size) := hg10.size
          cases sG with
          | none =>
            obtain rfl : e = .returned (.pointer none) := by
              rcases ht10 with ⟨-, h⟩ | ⟨r, k, h, -⟩
              · exact h
              · cases h
            clear ht10 hg10 HR9 HS9 H9
            go_wp2_with fail
            refine (rtget_any w10 gq pe v ce lb (some lb) none G HS10.out (Nat.le_trans HLB.out (by decide)) HGT.out).mono ?_
            rintro e w11 ⟨ht11, -, hg11⟩
            obtain rfl : e = .returned (.pointer none) := by
              rcases ht11 with ⟨-, h⟩ | ⟨r, k, h, -⟩
              · exact h
              · cases h
            have H11 : Hid (Tas w w11 [⟨gs, M, false⟩, ⟨gw, M, true⟩, ⟨go, O, false⟩, ⟨gu, O, true⟩]) := H10.out.grown_rs HS10.out HGS.out hg11
            clear ht11 hg11 H10 HS10
            have H11' : Hid (Tas w w11 [⟨gs, M, false⟩, ⟨gw, M, true⟩]) := Tas.front (L := [⟨gs, M, false⟩, ⟨gw, M, true⟩]) H11.out
            have hne11 : Nonempty (NewW w11) := ⟨NewW.start w11⟩
            clear H11
            go_wp2_with fail
            refine wp_region_new (by kernel_rfl) (by kernel_rfl) ?_
            repeat (go_big_quiet_step (fail))
            refine wpQuiet_nil ?_
            rintro _ ⟨w12, rfl⟩
            have HZ : Hid (Tas w w12.v [⟨gs, M, false⟩, ⟨gw, M, true⟩]) := H11'.out.below w12.h
            clear H11' hne11
            go_wp2_with fail
            generalize w12.v = wZ at *
            clear w12
            have hC0 : Below wZ.heap.size wZ wZ.drew := (Below.refl _ wZ).drew
            have hne : Nonempty (NewW wZ) := ⟨NewW.start wZ⟩
            have HUP : Hid (∀ W, Below wZ.heap.size wZ W → Calls Try.prog 15 #[.pointer (some ⟨gs, 0, none⟩)] W fun e w' => e = .returned M.u.v ∧ Below W.heap.size W w') := fun W hW => t_up [] [⟨gw, M, true⟩] gs M (HZ.out.below hW)
            have HDN : Hid (∀ W, Below wZ.heap.size wZ W → Calls Try.prog 16 #[.pointer (some ⟨gs, 0, none⟩)] W fun e w' => e = .returned M.d.v ∧ Below W.heap.size W w') := fun W hW => t_down [] [⟨gw, M, true⟩] gs M (HZ.out.below hW)
            obtain ⟨lp, hlp⟩ : ∃ lp, lp = lb ++ C.tbytes M := ⟨_, rfl⟩
            have HLP : Hid (lp = lb ++ C.tbytes M) := hlp
            clear hlp
            have HP1 : Hid (∀ W, Below wZ.heap.size wZ W → Calls Try.prog 20 #[.pointer (some ⟨gs, 0, none⟩), .slice pe v ce] W fun e w' => (∃ p n k, e = .returned (.slice p n k) ∧ Is w' p n k lp) ∧ Below W.heap.size W w') := fun W hW => t_put [] [⟨gw, M, true⟩] gs M pe v ce lb lp (HZ.out.below hW) (HX.out.below (bt HZ.out.bel hW)) (Nat.le_trans HLB.out (by decide)) HLP.out
            have HP2 : Hid (∀ W, Below wZ.heap.size wZ W → Calls Try.prog 21 #[.pointer (some ⟨gw, 0, none⟩), .slice pe v ce] W fun e w' => (∃ p n k, e = .returned (.slice p n k) ∧ Is w' p n k lp) ∧ Below W.heap.size W w') := fun W hW => u_put [⟨gs, M, false⟩] [] gw M pe v ce lb lp (HZ.out.below hW) (HX.out.below (bt HZ.out.bel hW)) (Nat.le_trans HLB.out (by decide)) HLP.out
            have hll : (lp == lp) = true := beq_self_eq_true lp
            have hgZ : TaAt wZ gw 37 M := (HZ.out.at_ ⟨gw, M, true⟩ (by simp)).1
            have kU1 := kU M.u
            have kU2 := kU M.d
            have HZB : Hid (Below w.heap.size w wZ) := HZ.out.bel
            clear HZ HLP
            obtain ⟨⟨u0, u1, u2, u3, u4, u5, u6⟩, ⟨d0, d1, d2, d3, d4, d5, d6⟩⟩ := M
            simp only [V7.v] at HUP HDN kU1 kU2
            obtain ⟨z0, z1, z2, z3, z4, z5, z6, z7, z8, z9, z10, z11, z12, z13⟩ := cells14_all hgZ
            clear hgZ
            have hC : ∃ m : NewW wZ, wZ.drew = m.v := ⟨⟨wZ.drew, hC0⟩, rfl⟩
            refine wp_region_held_drew (S := fun w' => ∃ m : NewW wZ, w' = m.v) (by kernel_rfl) hC (fun _ => ?_)
            have hB : Below wZ.heap.size wZ wZ.drew := hC0
            clear hC0
            generalize wZ.drew = W0 at *
            refine takeList (i := 0) rfl (by kernel_rfl) (by kernel_rfl) (by kernel_rfl) (fun _ _ _ _ h => h) rfl rfl hC (fun K hK => ?_)
            go_big_quiet_op
            refine hK _ ?_
            clear hK K
            refine takeList (i := 2) rfl (by kernel_rfl) (by kernel_rfl) (by kernel_rfl) (fun _ _ _ _ h => h) rfl rfl hC (fun K hK => ?_)
            go_big_quiet_op
            refine hK _ ?_
            clear hK K
            refine takeNil (i := 3) rfl rfl rfl (by kernel_rfl) (by kernel_rfl) (by kernel_rfl) (fun _ _ _ _ h => h) rfl hC ?_
            go_simp
            refine takeList (i := 4) rfl (by kernel_rfl) (by kernel_rfl) (by kernel_rfl) (fun _ _ _ _ h => h) rfl rfl hC (fun K hK => ?_)
            go_big_quiet_op
            refine hK _ ?_
            clear hK K
            refine takeList (i := 5) rfl (by kernel_rfl) (by kernel_rfl) (by kernel_rfl) (fun _ _ _ _ h => h) rfl rfl hC (fun K hK => ?_)
            go_big_quiet_op
            refine hK _ ?_
            clear hK K
            refine callList (i := 1) rfl (by kernel_rfl) rfl (fun K hK => ?_)
            go_simp
            refine (HUP.out _ hB).mono ?_
            rintro e wa ⟨rfl, hk⟩
            replace hB := bt hB hk
            refine hK.out _ _ ⟨⟨_, hB⟩, rfl⟩ ?_
            try go_simp
            clear hK K hC hk
            have hC : ∃ m : NewW wZ, wa = m.v := ⟨⟨_, hB⟩, rfl⟩
            refine takeList (i := 6) rfl (by kernel_rfl) (by kernel_rfl) (by kernel_rfl) (fun _ _ _ _ h => h) rfl rfl hC (fun K hK => ?_)
            go_big_quiet_op
            refine hK _ ?_
            clear hK K
            refine takeList (i := 7) rfl (by kernel_rfl) (by kernel_rfl) (by kernel_rfl) (fun _ _ _ _ h => h) rfl rfl hC (fun K hK => ?_)
            go_big_quiet_op
            refine hK _ ?_
            clear hK K
            refine takeList (i := 8) rfl (by kernel_rfl) (by kernel_rfl) (by kernel_rfl) (fun _ _ _ _ h => h) rfl rfl hC (fun K hK => ?_)
            go_big_quiet_op
            refine hK _ ?_
            clear hK K
            refine takeList (i := 10) rfl (by kernel_rfl) (by kernel_rfl) (by kernel_rfl) (fun _ _ _ _ h => h) rfl rfl hC (fun K hK => ?_)
            go_big_quiet_op
            refine hK _ ?_
            clear hK K
            refine takeNil (i := 11) rfl rfl rfl (by kernel_rfl) (by kernel_rfl) (by kernel_rfl) (fun _ _ _ _ h => h) rfl hC ?_
            go_simp
            refine takeList (i := 12) rfl (by kernel_rfl) (by kernel_rfl) (by kernel_rfl) (fun _ _ _ _ h => h) rfl rfl hC (fun K hK => ?_)
            go_big_quiet_op
            refine hK _ ?_
            clear hK K
            refine takeList (i := 13) rfl (by kernel_rfl) (by kernel_rfl) (by kernel_rfl) (fun _ _ _ _ h => h) rfl rfl hC (fun K hK => ?_)
            go_big_quiet_op
            refine hK _ ?_
            clear hK K
            refine callList (i := 9) rfl (by kernel_rfl) rfl (fun K hK => ?_)
            go_simp
            refine (HDN.out _ hB).mono ?_
            rintro e wb ⟨rfl, hk⟩
            replace hB := bt hB hk
            refine hK.out _ _ ⟨⟨_, hB⟩, rfl⟩ ?_
            try go_simp
            clear hK K hC hk
            have hC : ∃ m : NewW wZ, wb = m.v := ⟨⟨_, hB⟩, rfl⟩
            refine takeList (i := 14) rfl (by kernel_rfl) (by kernel_rfl) (by kernel_rfl) (fun _ _ _ _ h => h) rfl rfl hC (fun K hK => ?_)
            go_big_quiet_op
            refine hK _ ?_
            clear hK K
            refine takeList (i := 15) rfl (by kernel_rfl) (by kernel_rfl) (by kernel_rfl) (fun _ _ _ _ h => h) rfl rfl hC (fun K hK => ?_)
            go_big_quiet_op
            refine hK _ ?_
            clear hK K
            refine takeList (i := 16) rfl (by kernel_rfl) (by kernel_rfl) (by kernel_rfl) (fun _ _ _ _ h => h) rfl rfl hC (fun K hK => ?_)
            go_big_quiet_op
            refine hK _ ?_
            clear hK K
            refine takeList (i := 17) rfl (by kernel_rfl) (by kernel_rfl) (by kernel_rfl) (fun _ _ _ _ h => h) rfl rfl hC (fun K hK => ?_)
            go_big_quiet_op
            refine hK _ ?_
            clear hK K
            refine takeList (i := 18) rfl (by kernel_rfl) (by kernel_rfl) (by kernel_rfl) (fun _ _ _ _ h => h) rfl rfl hC (fun K hK => ?_)
            go_big_quiet_op
            refine hK _ ?_
            clear hK K
            refine takeList (i := 21) rfl (by kernel_rfl) (by kernel_rfl) (by kernel_rfl) (fun _ _ _ _ h => h) rfl rfl hC (fun K hK => ?_)
            go_big_quiet_op
            refine hK _ ?_
            clear hK K
            refine takeList (i := 22) rfl (by kernel_rfl) (by kernel_rfl) (by kernel_rfl) (fun _ _ _ _ h => h) rfl rfl hC (fun K hK => ?_)
            go_big_quiet_op
            refine hK _ ?_
            clear hK K
            refine callList (i := 19) rfl (by kernel_rfl) rfl (fun K hK => ?_)
            go_simp
            refine (HP1.out _ hB).mono ?_
            rintro e wc ⟨⟨pc1, nc1, cc1, rfl, hic⟩, hk⟩
            replace hB := bt hB hk
            refine hK.out _ _ ⟨⟨_, hB⟩, rfl⟩ ?_
            try go_simp
            clear hK K hC hk z0 z1 z2 z3 z4 z5 z6 z7 z8 z9 z10 z11 z12 z13 hne
            refine wpAnyH_strengthen (S' := fun w' => ∃ m : NewW wc, w' = m.v) (fun w' ⟨m, hm⟩ => ⟨⟨m.v, bt hB m.h⟩, hm⟩) _ _ _ _ ?_
            have hne : Nonempty (NewW wc) := ⟨NewW.start wc⟩
            have kc : ∀ m : NewW wc, (convert 33 9 (.slice pc1 nc1 cc1)).run Try.prog m.v = .ok (.string ⟨lp.toArray⟩) m.v := fun m => conv_is (hic.below m.h)
            have hC : ∃ m : NewW wc, wc = m.v := ⟨⟨_, Below.refl _ _⟩, rfl⟩
            refine takeList (i := 20) rfl (by kernel_rfl) (by kernel_rfl) (by kernel_rfl) (fun _ _ _ _ h => h) rfl rfl hC (fun K hK => ?_)
            go_big_quiet_op
            refine hK _ ?_
            clear hK K
            refine callList (i := 23) rfl (by kernel_rfl) rfl (fun K hK => ?_)
            go_simp
            refine (HP2.out _ hB).mono ?_
            rintro e wd ⟨⟨pc2, nc2, cc2, rfl, hid⟩, hk⟩
            refine hK.out _ _ ⟨⟨_, hk⟩, rfl⟩ ?_
            try go_simp
            clear hK K hC hne kc
            refine wpAnyH_strengthen (S' := fun w' => ∃ m : NewW wd, w' = m.v) (fun w' ⟨m, hm⟩ => ⟨⟨m.v, bt hk m.h⟩, hm⟩) _ _ _ _ ?_
            have hne : Nonempty (NewW wd) := ⟨NewW.start wd⟩
            have kd : ∀ m : NewW wd, (convert 33 9 (.slice pc2 nc2 cc2)).run Try.prog m.v = .ok (.string ⟨lp.toArray⟩) m.v := fun m => conv_is (hid.below m.h)
            have hC : ∃ m : NewW wd, wd = m.v := ⟨⟨_, Below.refl _ _⟩, rfl⟩
            replace hB := bt hB hk
            clear hk
            refine takeList (i := 24) rfl (by kernel_rfl) (by kernel_rfl) (by kernel_rfl) (fun _ _ _ _ h => h) rfl rfl hC (fun K hK => ?_)
            go_big_quiet_op
            refine hK _ ?_
            clear hK K
            refine takeList (i := 25) rfl (by kernel_rfl) (by kernel_rfl) (by kernel_rfl) (fun _ _ _ _ h => h) rfl rfl hC (fun K hK => ?_)
            go_big_quiet_op
            refine hK _ ?_
            clear hK K
            refine takeList (i := 26) rfl (by kernel_rfl) (by kernel_rfl) (by kernel_rfl) (fun _ _ _ _ h => h) rfl rfl hC (fun K hK => ?_)
            go_big_quiet_op
            refine hK _ ?_
            clear hK K
            refine takeList (i := 27) rfl (by kernel_rfl) (by kernel_rfl) (by kernel_rfl) (fun _ _ _ _ h => h) rfl rfl hC (fun K hK => ?_)
            go_big_quiet_op
            refine hK _ ?_
            clear hK K
            refine wpAnyH_done (by kernel_rfl) ?_ _
            have HFB : Hid (Below w.heap.size w wd) := bt HZB.out hB
            clear hC hB hne kd HUP HDN HP1 HP2
            go_wp2
            go_ret
            exact ⟨rfl, HFB.out⟩
          | some rr =>
            obtain ⟨gx, rfl, hx1, hx2⟩ : ∃ gx, e = .returned (.pointer (some ⟨gx, 0, none⟩)) ∧ w9.heap.size ≤ gx ∧ TaAt w10 gx 51 G := by
              rcases ht10 with ⟨h, -⟩ | ⟨r, k, -, h, h1, h2⟩
              · cases h
              · exact ⟨k, h, h1, h2⟩
            have H10' : Hid (Tas w w10 ([⟨gs, M, false⟩, ⟨gw, M, true⟩, ⟨go, O, false⟩, ⟨gu, O, true⟩] ++ [⟨gx, G, false⟩])) := H10.out.add' false hx2 HGO.out (fun o ho => by have := (H9.out.at_ o (by simpa using ho)).1.lt; omega) (Nat.le_trans H9.out.bel.size hx1)
            clear ht10 hg10 HR9 HS9 H9 H10 hx1 hx2
            go_wp2_with fail
            refine (rtget_any w10 gq pe v ce lb (some lb) (some rr) G HS10.out (Nat.le_trans HLB.out (by decide)) HGT.out).mono ?_
            rintro e w11 ⟨ht11, -, hg11⟩
            obtain ⟨gy, rfl, hy1, hy2⟩ : ∃ gx, e = .returned (.pointer (some ⟨gx, 0, none⟩)) ∧ w10.heap.size ≤ gx ∧ TaAt w11 gx 37 G := by
              rcases ht11 with ⟨h, -⟩ | ⟨r, k, -, h, h1, h2⟩
              · cases h
              · exact ⟨k, h, h1, h2⟩
            have H11 : Hid (Tas w w11 ([⟨gs, M, false⟩, ⟨gw, M, true⟩, ⟨go, O, false⟩, ⟨gu, O, true⟩] ++ ⟨gx, G, false⟩ :: [⟨gy, G, true⟩])) := (H10'.out.grown_rs HS10.out HGS.out hg11).add' true hy2 HGO.out (fun o ho => by have := (H10'.out.at_ o ho).1.lt; omega) (Nat.le_trans H10'.out.bel.size hy1)
            clear ht11 hg11 H10' HS10 hy1 hy2
            obtain ⟨lg, hlg⟩ : ∃ lg, lg = [] ++ C.tbytes G := ⟨_, rfl⟩
            have HLG : Hid (lg = [] ++ C.tbytes G) := hlg
            clear hlg
            have HP1 : Hid (∀ W, Below w11.heap.size w11 W → Calls Try.prog 20 #[.pointer (some ⟨gx, 0, none⟩), .slice none 0 0] W fun e w' => (∃ p n k, e = .returned (.slice p n k) ∧ Is w' p n k lg) ∧ Below W.heap.size W w') := fun W hW => t_put [⟨gs, M, false⟩, ⟨gw, M, true⟩, ⟨go, O, false⟩, ⟨gu, O, true⟩] [⟨gy, G, true⟩] gx G none 0 0 [] lg (H11.out.below hW) (Is.nil _) (by decide) HLG.out
            have HP2 : Hid (∀ W, Below w11.heap.size w11 W → Calls Try.prog 21 #[.pointer (some ⟨gy, 0, none⟩), .slice none 0 0] W fun e w' => (∃ p n k, e = .returned (.slice p n k) ∧ Is w' p n k lg) ∧ Below W.heap.size W w') := fun W hW => u_put [⟨gs, M, false⟩, ⟨gw, M, true⟩, ⟨go, O, false⟩, ⟨gu, O, true⟩, ⟨gx, G, false⟩] [] gy G none 0 0 [] lg (H11.out.below hW) (Is.nil _) (by decide) HLG.out
            have hll0 : (lg == lg) = true := beq_self_eq_true lg
            have hne : Nonempty (NewW w11) := ⟨NewW.start w11⟩
            go_wp2_with fail
            have hC : ∃ m : NewW w11, w11.drew = m.v := ⟨⟨w11.drew, (Below.refl _ w11).drew⟩, rfl⟩
            refine wp_region_held_drew (S := fun w' => ∃ m : NewW w11, w' = m.v) (by kernel_rfl) hC (fun _ => ?_)
            have hB : Below w11.heap.size w11 w11.drew := (Below.refl _ w11).drew
            generalize w11.drew = W0 at *
            refine takeList (i := 0) rfl (by kernel_rfl) (by kernel_rfl) (by kernel_rfl) (fun _ _ _ _ h => h) rfl rfl hC (fun K hK => ?_)
            go_big_quiet_op
            refine hK _ ?_
            clear hK K
            refine takeList (i := 1) rfl (by kernel_rfl) (by kernel_rfl) (by kernel_rfl) (fun _ _ _ _ h => h) rfl rfl hC (fun K hK => ?_)
            go_big_quiet_op
            refine hK _ ?_
            clear hK K
            refine takeList (i := 2) rfl (by kernel_rfl) (by kernel_rfl) (by kernel_rfl) (fun _ _ _ _ h => h) rfl rfl hC (fun K hK => ?_)
            go_big_quiet_op
            refine hK _ ?_
            clear hK K
            refine takeList (i := 3) rfl (by kernel_rfl) (by kernel_rfl) (by kernel_rfl) (fun _ _ _ _ h => h) rfl rfl hC (fun K hK => ?_)
            go_big_quiet_op
            refine hK _ ?_
            clear hK K
            refine takeList (i := 4) rfl (by kernel_rfl) (by kernel_rfl) (by kernel_rfl) (fun _ _ _ _ h => h) rfl rfl hC (fun K hK => ?_)
            go_big_quiet_op
            refine hK _ ?_
            clear hK K
            refine takeList (i := 5) rfl (by kernel_rfl) (by kernel_rfl) (by kernel_rfl) (fun _ _ _ _ h => h) rfl rfl hC (fun K hK => ?_)
            go_big_quiet_op
            refine hK _ ?_
            clear hK K
            refine takeList (i := 6) rfl (by kernel_rfl) (by kernel_rfl) (by kernel_rfl) (fun _ _ _ _ h => h) rfl rfl hC (fun K hK => ?_)
            go_big_quiet_op
            refine hK _ ?_
            clear hK K
            refine takeList (i := 7) rfl (by kernel_rfl) (by kernel_rfl) (by kernel_rfl) (fun _ _ _ _ h => h) rfl rfl hC (fun K hK => ?_)
            go_big_quiet_op
            refine hK _ ?_
            clear hK K
            refine takeList (i := 8) rfl (by kernel_rfl) (by kernel_rfl) (by kernel_rfl) (fun _ _ _ _ h => h) rfl rfl hC (fun K hK => ?_)
            go_big_quiet_op
            refine hK _ ?_
            clear hK K
            refine takeList (i := 9) rfl (by kernel_rfl) (by kernel_rfl) (by kernel_rfl) (fun _ _ _ _ h => h) rfl rfl hC (fun K hK => ?_)
            go_big_quiet_op
            refine hK _ ?_
            clear hK K
            refine takeList (i := 12) rfl (by kernel_rfl) (by kernel_rfl) (by kernel_rfl) (fun _ _ _ _ h => h) rfl rfl hC (fun K hK => ?_)
            go_big_quiet_op
            refine hK _ ?_
            clear hK K
            refine callList (i := 10) rfl (by kernel_rfl) rfl (fun K hK => ?_)
            go_simp
            refine (HP1.out _ hB).mono ?_
            rintro e wc ⟨⟨pc1, nc1, cc1, rfl, hic⟩, hk⟩
            replace hB := bt hB hk
            refine hK.out _ _ ⟨⟨_, hB⟩, rfl⟩ ?_
            try go_simp
            clear hK K hC hk hne
            refine wpAnyH_strengthen (S' := fun w' => ∃ m : NewW wc, w' = m.v) (fun w' ⟨m, hm⟩ => ⟨⟨m.v, bt hB m.h⟩, hm⟩) _ _ _ _ ?_
            have hne : Nonempty (NewW wc) := ⟨NewW.start wc⟩
            have kc : ∀ m : NewW wc, (convert 33 9 (.slice pc1 nc1 cc1)).run Try.prog m.v = .ok (.string ⟨lg.toArray⟩) m.v := fun m => conv_is (hic.below m.h)
            have hC : ∃ m : NewW wc, wc = m.v := ⟨⟨_, Below.refl _ _⟩, rfl⟩
            refine takeList (i := 11) rfl (by kernel_rfl) (by kernel_rfl) (by kernel_rfl) (fun _ _ _ _ h => h) rfl rfl hC (fun K hK => ?_)
            go_big_quiet_op
            refine hK _ ?_
            clear hK K
            refine callList (i := 13) rfl (by kernel_rfl) rfl (fun K hK => ?_)
            go_simp
            refine (HP2.out _ hB).mono ?_
            rintro e wd ⟨⟨pc2, nc2, cc2, rfl, hid⟩, hk⟩
            refine hK.out _ _ ⟨⟨_, hk⟩, rfl⟩ ?_
            try go_simp
            clear hK K hC hne kc
            refine wpAnyH_strengthen (S' := fun w' => ∃ m : NewW wd, w' = m.v) (fun w' ⟨m, hm⟩ => ⟨⟨m.v, bt hk m.h⟩, hm⟩) _ _ _ _ ?_
            have hne : Nonempty (NewW wd) := ⟨NewW.start wd⟩
            have kd : ∀ m : NewW wd, (convert 33 9 (.slice pc2 nc2 cc2)).run Try.prog m.v = .ok (.string ⟨lg.toArray⟩) m.v := fun m => conv_is (hid.below m.h)
            have hC : ∃ m : NewW wd, wd = m.v := ⟨⟨_, Below.refl _ _⟩, rfl⟩
            replace hB := bt hB hk
            clear hk
            refine takeList (i := 14) rfl (by kernel_rfl) (by kernel_rfl) (by kernel_rfl) (fun _ _ _ _ h => h) rfl rfl hC (fun K hK => ?_)
            go_big_quiet_op
            refine hK _ ?_
            clear hK K
            refine takeList (i := 15) rfl (by kernel_rfl) (by kernel_rfl) (by kernel_rfl) (fun _ _ _ _ h => h) rfl rfl hC (fun K hK => ?_)
            go_big_quiet_op
            refine hK _ ?_
            clear hK K
            refine takeList (i := 16) rfl (by kernel_rfl) (by kernel_rfl) (by kernel_rfl) (fun _ _ _ _ h => h) rfl rfl hC (fun K hK => ?_)
            go_big_quiet_op
            refine hK _ ?_
            clear hK K
            refine takeList (i := 17) rfl (by kernel_rfl) (by kernel_rfl) (by kernel_rfl) (fun _ _ _ _ h => h) rfl rfl hC (fun K hK => ?_)
            go_big_quiet_op
            refine hK _ ?_
            clear hK K
            refine wpAnyH_done (by kernel_rfl) ?_ _
            have HZ : Hid (Tas w wd [⟨gs, M, false⟩, ⟨gw, M, true⟩]) := Tas.front (L := [⟨gs, M, false⟩, ⟨gw, M, true⟩]) (H11.out.below hB)
            clear hC hB hne kd HP1 HP2 H11 HLG
            go_wp2_with fail
            rename_i wZ0
            generalize wd = wZ at *
            have hC0 : Below wZ.heap.size wZ wZ.drew := (Below.refl _ wZ).drew
            have hne : Nonempty (NewW wZ) := ⟨NewW.start wZ⟩
            have HUP : Hid (∀ W, Below wZ.heap.size wZ W → Calls Try.prog 15 #[.pointer (some ⟨gs, 0, none⟩)] W fun e w' => e = .returned M.u.v ∧ Below W.heap.size W w') := fun W hW => t_up [] [⟨gw, M, true⟩] gs M (HZ.out.below hW)
            have HDN : Hid (∀ W, Below wZ.heap.size wZ W → Calls Try.prog 16 #[.pointer (some ⟨gs, 0, none⟩)] W fun e w' => e = .returned M.d.v ∧ Below W.heap.size W w') := fun W hW => t_down [] [⟨gw, M, true⟩] gs M (HZ.out.below hW)
            obtain ⟨lp, hlp⟩ : ∃ lp, lp = lb ++ C.tbytes M := ⟨_, rfl⟩
            have HLP : Hid (lp = lb ++ C.tbytes M) := hlp
            clear hlp
            have HP1 : Hid (∀ W, Below wZ.heap.size wZ W → Calls Try.prog 20 #[.pointer (some ⟨gs, 0, none⟩), .slice pe v ce] W fun e w' => (∃ p n k, e = .returned (.slice p n k) ∧ Is w' p n k lp) ∧ Below W.heap.size W w') := fun W hW => t_put [] [⟨gw, M, true⟩] gs M pe v ce lb lp (HZ.out.below hW) (HX.out.below (bt HZ.out.bel hW)) (Nat.le_trans HLB.out (by decide)) HLP.out
            have HP2 : Hid (∀ W, Below wZ.heap.size wZ W → Calls Try.prog 21 #[.pointer (some ⟨gw, 0, none⟩), .slice pe v ce] W fun e w' => (∃ p n k, e = .returned (.slice p n k) ∧ Is w' p n k lp) ∧ Below W.heap.size W w') := fun W hW => u_put [⟨gs, M, false⟩] [] gw M pe v ce lb lp (HZ.out.below hW) (HX.out.below (bt HZ.out.bel hW)) (Nat.le_trans HLB.out (by decide)) HLP.out
            have hll : (lp == lp) = true := beq_self_eq_true lp
            have hgZ : TaAt wZ gw 37 M := (HZ.out.at_ ⟨gw, M, true⟩ (by simp)).1
            have kU1 := kU M.u
            have kU2 := kU M.d
            have HZB : Hid (Below w.heap.size w wZ) := HZ.out.bel
            clear HZ HLP
            obtain ⟨⟨u0, u1, u2, u3, u4, u5, u6⟩, ⟨d0, d1, d2, d3, d4, d5, d6⟩⟩ := M
            simp only [V7.v] at HUP HDN kU1 kU2
            obtain ⟨z0, z1, z2, z3, z4, z5, z6, z7, z8, z9, z10, z11, z12, z13⟩ := cells14_all hgZ
            clear hgZ
            have hC : ∃ m : NewW wZ, wZ.drew = m.v := ⟨⟨wZ.drew, hC0⟩, rfl⟩
            refine wp_region_held_drew (S := fun w' => ∃ m : NewW wZ, w' = m.v) (by kernel_rfl) hC (fun _ => ?_)
            have hB : Below wZ.heap.size wZ wZ.drew := hC0
            clear hC0
            generalize wZ.drew = W0 at *
            refine takeList (i := 0) rfl (by kernel_rfl) (by kernel_rfl) (by kernel_rfl) (fun _ _ _ _ h => h) rfl rfl hC (fun K hK => ?_)
            go_big_quiet_op
            refine hK _ ?_
            clear hK K
            refine takeList (i := 2) rfl (by kernel_rfl) (by kernel_rfl) (by kernel_rfl) (fun _ _ _ _ h => h) rfl rfl hC (fun K hK => ?_)
            go_big_quiet_op
            refine hK _ ?_
            clear hK K
            refine takeNil (i := 3) rfl rfl rfl (by kernel_rfl) (by kernel_rfl) (by kernel_rfl) (fun _ _ _ _ h => h) rfl hC ?_
            go_simp
            refine takeList (i := 4) rfl (by kernel_rfl) (by kernel_rfl) (by kernel_rfl) (fun _ _ _ _ h => h) rfl rfl hC (fun K hK => ?_)
            go_big_quiet_op
            refine hK _ ?_
            clear hK K
            refine takeList (i := 5) rfl (by kernel_rfl) (by kernel_rfl) (by kernel_rfl) (fun _ _ _ _ h => h) rfl rfl hC (fun K hK => ?_)
            go_big_quiet_op
            refine hK _ ?_
            clear hK K
            refine callList (i := 1) rfl (by kernel_rfl) rfl (fun K hK => ?_)
            go_simp
            refine (HUP.out _ hB).mono ?_
            rintro e wa ⟨rfl, hk⟩
            replace hB := bt hB hk
            refine hK.out _ _ ⟨⟨_, hB⟩, rfl⟩ ?_
            try go_simp
            clear hK K hC hk
            have hC : ∃ m : NewW wZ, wa = m.v := ⟨⟨_, hB⟩, rfl⟩
            refine takeList (i := 6) rfl (by kernel_rfl) (by kernel_rfl) (by kernel_rfl) (fun _ _ _ _ h => h) rfl rfl hC (fun K hK => ?_)
            go_big_quiet_op
            refine hK _ ?_
            clear hK K
            refine takeList (i := 7) rfl (by kernel_rfl) (by kernel_rfl) (by kernel_rfl) (fun _ _ _ _ h => h) rfl rfl hC (fun K hK => ?_)
            go_big_quiet_op
            refine hK _ ?_
            clear hK K
            refine takeList (i := 8) rfl (by kernel_rfl) (by kernel_rfl) (by kernel_rfl) (fun _ _ _ _ h => h) rfl rfl hC (fun K hK => ?_)
            go_big_quiet_op
            refine hK _ ?_
            clear hK K
            refine takeList (i := 10) rfl (by kernel_rfl) (by kernel_rfl) (by kernel_rfl) (fun _ _ _ _ h => h) rfl rfl hC (fun K hK => ?_)
            go_big_quiet_op
            refine hK _ ?_
            clear hK K
            refine takeNil (i := 11) rfl rfl rfl (by kernel_rfl) (by kernel_rfl) (by kernel_rfl) (fun _ _ _ _ h => h) rfl hC ?_
            go_simp
            refine takeList (i := 12) rfl (by kernel_rfl) (by kernel_rfl) (by kernel_rfl) (fun _ _ _ _ h => h) rfl rfl hC (fun K hK => ?_)
            go_big_quiet_op
            refine hK _ ?_
            clear hK K
            refine takeList (i := 13) rfl (by kernel_rfl) (by kernel_rfl) (by kernel_rfl) (fun _ _ _ _ h => h) rfl rfl hC (fun K hK => ?_)
            go_big_quiet_op
            refine hK _ ?_
            clear hK K
            refine callList (i := 9) rfl (by kernel_rfl) rfl (fun K hK => ?_)
            go_simp
            refine (HDN.out _ hB).mono ?_
            rintro e wb ⟨rfl, hk⟩
            replace hB := bt hB hk
            refine hK.out _ _ ⟨⟨_, hB⟩, rfl⟩ ?_
            try go_simp
            clear hK K hC hk
            have hC : ∃ m : NewW wZ, wb = m.v := ⟨⟨_, hB⟩, rfl⟩
            refine takeList (i := 14) rfl (by kernel_rfl) (by kernel_rfl) (by kernel_rfl) (fun _ _ _ _ h => h) rfl rfl hC (fun K hK => ?_)
            go_big_quiet_op
            refine hK _ ?_
            clear hK K
            refine takeList (i := 15) rfl (by kernel_rfl) (by kernel_rfl) (by kernel_rfl) (fun _ _ _ _ h => h) rfl rfl hC (fun K hK => ?_)
            go_big_quiet_op
            refine hK _ ?_
            clear hK K
            refine takeList (i := 16) rfl (by kernel_rfl) (by kernel_rfl) (by kernel_rfl) (fun _ _ _ _ h => h) rfl rfl hC (fun K hK => ?_)
            go_big_quiet_op
            refine hK _ ?_
            clear hK K
            refine takeList (i := 17) rfl (by kernel_rfl) (by kernel_rfl) (by kernel_rfl) (fun _ _ _ _ h => h) rfl rfl hC (fun K hK => ?_)
            go_big_quiet_op
            refine hK _ ?_
            clear hK K
            refine takeList (i := 18) rfl (by kernel_rfl) (by kernel_rfl) (by kernel_rfl) (fun _ _ _ _ h => h) rfl rfl hC (fun K hK => ?_)
            go_big_quiet_op
            refine hK _ ?_
            clear hK K
            refine takeList (i := 21) rfl (by kernel_rfl) (by kernel_rfl) (by kernel_rfl) (fun _ _ _ _ h => h) rfl rfl hC (fun K hK => ?_)
            go_big_quiet_op
            refine hK _ ?_
            clear hK K
            refine takeList (i := 22) rfl (by kernel_rfl) (by kernel_rfl) (by kernel_rfl) (fun _ _ _ _ h => h) rfl rfl hC (fun K hK => ?_)
            go_big_quiet_op
            refine hK _ ?_
            clear hK K
            refine callList (i := 19) rfl (by kernel_rfl) rfl (fun K hK => ?_)
            go_simp
            refine (HP1.out _ hB).mono ?_
            rintro e wc ⟨⟨pc1, nc1, cc1, rfl, hic⟩, hk⟩
            replace hB := bt hB hk
            refine hK.out _ _ ⟨⟨_, hB⟩, rfl⟩ ?_
            try go_simp
            clear hK K hC hk z0 z1 z2 z3 z4 z5 z6 z7 z8 z9 z10 z11 z12 z13 hne
            refine wpAnyH_strengthen (S' := fun w' => ∃ m : NewW wc, w' = m.v) (fun w' ⟨m, hm⟩ => ⟨⟨m.v, bt hB m.h⟩, hm⟩) _ _ _ _ ?_
            have hne : Nonempty (NewW wc) := ⟨NewW.start wc⟩
            have kc : ∀ m : NewW wc, (convert 33 9 (.slice pc1 nc1 cc1)).run Try.prog m.v = .ok (.string ⟨lp.toArray⟩) m.v := fun m => conv_is (hic.below m.h)
            have hC : ∃ m : NewW wc, wc = m.v := ⟨⟨_, Below.refl _ _⟩, rfl⟩
            refine takeList (i := 20) rfl (by kernel_rfl) (by kernel_rfl) (by kernel_rfl) (fun _ _ _ _ h => h) rfl rfl hC (fun K hK => ?_)
            go_big_quiet_op
            refine hK _ ?_
            clear hK K
            refine callList (i := 23) rfl (by kernel_rfl) rfl (fun K hK => ?_)
            go_simp
            refine (HP2.out _ hB).mono ?_
            rintro e wd ⟨⟨pc2, nc2, cc2, rfl, hid⟩, hk⟩
            refine hK.out _ _ ⟨⟨_, hk⟩, rfl⟩ ?_
            try go_simp
            clear hK K hC hne kc
            refine wpAnyH_strengthen (S' := fun w' => ∃ m : NewW wd, w' = m.v) (fun w' ⟨m, hm⟩ => ⟨⟨m.v, bt hk m.h⟩, hm⟩) _ _ _ _ ?_
            have hne : Nonempty (NewW wd) := ⟨NewW.start wd⟩
            have kd : ∀ m : NewW wd, (convert 33 9 (.slice pc2 nc2 cc2)).run Try.prog m.v = .ok (.string ⟨lp.toArray⟩) m.v := fun m => conv_is (hid.below m.h)
            have hC : ∃ m : NewW wd, wd = m.v := ⟨⟨_, Below.refl _ _⟩, rfl⟩
            replace hB := bt hB hk
            clear hk
            refine takeList (i := 24) rfl (by kernel_rfl) (by kernel_rfl) (by kernel_rfl) (fun _ _ _ _ h => h) rfl rfl hC (fun K hK => ?_)
            go_big_quiet_op
            refine hK _ ?_
            clear hK K
            refine takeList (i := 25) rfl (by kernel_rfl) (by kernel_rfl) (by kernel_rfl) (fun _ _ _ _ h => h) rfl rfl hC (fun K hK => ?_)
            go_big_quiet_op
            refine hK _ ?_
            clear hK K
            refine takeList (i := 26) rfl (by kernel_rfl) (by kernel_rfl) (by kernel_rfl) (fun _ _ _ _ h => h) rfl rfl hC (fun K hK => ?_)
            go_big_quiet_op
            refine hK _ ?_
            clear hK K
            refine takeList (i := 27) rfl (by kernel_rfl) (by kernel_rfl) (by kernel_rfl) (fun _ _ _ _ h => h) rfl rfl hC (fun K hK => ?_)
            go_big_quiet_op
            refine hK _ ?_
            clear hK K
            refine wpAnyH_done (by kernel_rfl) ?_ _
            have HFB : Hid (Below w.heap.size w wd) := bt HZB.out hB
            clear hC hB hne kd HUP HDN HP1 HP2
            go_wp2
            go_ret
            exact ⟨rfl, HFB.out⟩
theorem plays_all (pa : Option Addr) (l : List Int) (ca : Nat) (pb : Option Addr) (m : List Int) (cb : Nat) (pd : Option Addr) (o : List Int) (cd : Nat) (pe : Option Addr) (lb : List UInt8) (ce : Nat) (w : World) (hlc : l.length ≤ ca) (hcm : ca ≤ maxLen) (ha : IAt w pa l) (hlc1 : m.length ≤ cb) (hcm1 : cb ≤ maxLen) (hb : IAt w pb m) (hlc2 : o.length ≤ cd) (hcm2 : cd ≤ maxLen) (hd : IAt w pd o) (hx : (Part.mk pe lb ce).ok w ∧ lb.length ≤ ce ∧ ce ≤ maxLen) (hat : 0 < ce → ∃ b o, pe = some ⟨b, o, none⟩) :
    Calls Try.prog 4 #[.slice pa l.length ca, .slice pb m.length cb, .slice pd o.length cd, .slice pe lb.length ce] w fun e w' => e = .returned (.bool true) ∧ Below w.heap.size w w' :=
  plays_walk pa l ca pb m cb pd o cd pe lb ce w (Nat.le_trans hlc hcm) ha (Nat.le_trans hlc1 hcm1) hb (Nat.le_trans hlc2 hcm2) hd hx.1 hx.2.1 hx.2.2 hat
end Go.Proofs.Ytnkfabonggofgaa
