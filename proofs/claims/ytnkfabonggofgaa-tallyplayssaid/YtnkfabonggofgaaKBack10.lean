/-
  TallyBack: what is written is read again; merged either way it is the same, merged again nothing changes.
-/
import Derived.Test.YtnkfabonggofgaaKApart10
namespace Go.Proofs.Ytnkfabonggofgaa
open Go.RowKit Go.Lib
set_option linter.unusedVariables false

/-- One more, known to be new. -/
theorem Tas.add {w0 w : World} {L : List TO} {g : Nat} {T : C.Ta} (h : Tas w0 w L) (ha : TaAt w g 51 T) (hT : T.Ok) (hn : ∀ o ∈ L, o.g ≠ g) (hg : w0.heap.size ≤ g) : Tas w0 w (L ++ [⟨g, T, false⟩]) :=
  ⟨fun o ho => by
    rcases List.mem_append.1 ho with ho | ho
    · exact h.at_ o ho
    · obtain rfl : o = ⟨g, T, false⟩ := by simpa using ho
      exact ⟨ha, hT, hg⟩, List.pairwise_append.2 ⟨h.apart, List.pairwise_singleton _ _, fun o ho p hp => by
    obtain rfl : p = ⟨g, T, false⟩ := by simpa using hp
    exact hn o ho⟩, h.bel⟩
set_option maxRecDepth 100000 in
set_option maxHeartbeats 4000000 in
theorem back_all (pa : Option Addr) (l : List Int) (ca : Nat) (pb : Option Addr) (m : List Int) (cb : Nat) (w : World) (hlc : l.length ≤ ca) (hcm : ca ≤ maxLen) (ha : IAt w pa l) (hlc1 : m.length ≤ cb) (hcm1 : cb ≤ maxLen) (hb : IAt w pb m) :
    Calls Try.prog 5 #[.slice pa l.length ca, .slice pb m.length cb] w fun e w' => e = .returned (.bool true) ∧ Below w.heap.size w w' := by
  have HA : Hid (IAt w pa l) := ha
  have HB : Hid (IAt w pb m) := hb
  unfold maxLen at hcm hcm1
  obtain ⟨n, hn⟩ : ∃ n, n = l.length := ⟨_, rfl⟩
  have HN : Hid (n = l.length) := hn
  obtain ⟨q, hq⟩ : ∃ q, q = m.length := ⟨_, rfl⟩
  have HQ : Hid (q = m.length) := hq
  rw [← hn] at hlc ⊢
  rw [← hq] at hlc1 ⊢
  clear hn hq ha hb
  have hnb : n ≤ 9223372036854775807 := by omega
  have hqb : q ≤ 9223372036854775807 := by omega
  clear hlc hlc1 hcm hcm1
  by_cases hbig : 30 < n
  · go_enter Try.func5, Try.ntmps5
    go_wp2_with fail
    refine (awake10_any _).mono ?_
    rintro e w1 ⟨rfl, hb1⟩
    go_wp2
    go_ret
    exact ⟨rfl, hb1⟩
  by_cases hbig2 : 30 < q
  · go_enter Try.func5, Try.ntmps5
    go_wp2_with fail
    refine (awake10_any _).mono ?_
    rintro e w1 ⟨rfl, hb1⟩
    go_wp2
    go_ret
    exact ⟨rfl, hb1⟩
  go_enter Try.func5, Try.ntmps5
  go_wp2_with fail
  refine (awake10_any _).mono ?_
  rintro e w1 ⟨rfl, hb1⟩
  have HB1 : Hid (Below w.heap.size w w1) := hb1
  clear hb1
  go_wp2_with fail
  refine (t_new (Tas.nil HB1.out)).mono ?_
  rintro e w2 ⟨gs, rfl, h2, -⟩
  have H2 : Hid (Tas w w2 [⟨gs, C.zeroT, false⟩]) := h2
  clear h2
  go_wp2_with fail
  refine (t_new H2.out).mono ?_
  rintro e w3 ⟨gt, rfl, h3, -⟩
  have H3 : Hid (Tas w w3 ([] ++ ⟨gs, C.zeroT, false⟩ :: [⟨gt, C.zeroT, false⟩])) := h3
  clear h3 H2
  go_wp2_with fail
  go_loopw [7] (fun s7 wr => ∃ (k : Nat) (S : C.Ta), s7 = .int .i64 k ∧ k ≤ n ∧ Hid (Tas w wr ([] ++ ⟨gs, S, false⟩ :: [⟨gt, C.zeroT, false⟩]))) (fun s7 _ => n - (intOf s7).toNat)
  case atStart => exact ⟨0, _, rfl, Nat.zero_le _, H3.out⟩
  case round =>
    clear H3
    obtain ⟨k, S, rfl, hkn, HO⟩ := hrel
    by_cases hlt : k < n
    · obtain ⟨b, o, x, rfl, hx, hc⟩ := HA.out.at_ HO.out.bel (k := k) (by have := HN.out; omega)
      clear hx
      obtain ⟨S', hS'⟩ : ∃ S', C.addT S ((k : Int) % 7) x = S' := ⟨_, rfl⟩
      have HS' : Hid _ := hS'
      clear hS'
      go_wp2_with fail
      refine (t_add [] _ gs S S' ((k : Int) % 7) x _ HO.out rfl HS'.out).mono ?_
      rintro e w6 ⟨rfl, h6, -⟩
      have H6 : Hid (Tas w w6 ([] ++ ⟨gs, S', false⟩ :: [⟨gt, C.zeroT, false⟩])) := h6
      clear h6 HO HS' hc
      go_wp2
      go_roundw
      case rel => exact ⟨k + 1, S', by go_num, by omega, H6.out⟩
      case measure => simp [intOf]; omega
    · obtain rfl : k = n := by omega
      have H7 : Hid (Tas w wr ([⟨gs, S, false⟩] ++ ⟨gt, C.zeroT, false⟩ :: [])) := HO.out
      clear HO
      go_wp2_with fail
      go_loopw [8] (fun s8 wr => ∃ (k : Nat) (T : C.Ta), s8 = .int .i64 k ∧ k ≤ q ∧ Hid (Tas w wr ([⟨gs, S, false⟩] ++ ⟨gt, T, false⟩ :: []))) (fun s8 _ => q - (intOf s8).toNat)
      case atStart => exact ⟨0, _, rfl, Nat.zero_le _, H7.out⟩
      case round =>
        clear H7
        obtain ⟨j, T, rfl, hjq, HO⟩ := hrel
        by_cases hlt2 : j < q
        · obtain ⟨b, o, x, rfl, hx, hc⟩ := HB.out.at_ HO.out.bel (k := j) (by have := HQ.out; omega)
          clear hx
          obtain ⟨T', hT'⟩ : ∃ T', C.addT T ((j : Int) % 7) x = T' := ⟨_, rfl⟩
          have HT' : Hid _ := hT'
          clear hT'
          go_wp2_with fail
          refine (t_add _ [] gt T T' ((j : Int) % 7) x _ HO.out rfl HT'.out).mono ?_
          rintro e w6 ⟨rfl, h6, -⟩
          have H6 : Hid (Tas w w6 ([⟨gs, S, false⟩] ++ ⟨gt, T', false⟩ :: [])) := h6
          clear h6 HO HT' hc
          go_wp2
          go_roundw
          case rel => exact ⟨j + 1, T', by go_num, by omega, H6.out⟩
          case measure => simp [intOf]; omega
        · obtain rfl : j = q := by omega
          obtain ⟨vs, hvs⟩ : ∃ vs, C.valT S = vs := ⟨_, rfl⟩
          obtain ⟨M, hm⟩ : ∃ M, C.mrgT S T = M := ⟨_, rfl⟩
          have hSok : S.Ok := (HO.out.at_ ⟨gs, S, false⟩ (by simp)).2.1
          have HSOK : Hid S.Ok := hSok
          have HM1 : Hid (C.mrgT S T = M) := hm
          have HM2 : Hid (C.mrgT T S = M) := by show _ = _; rw [C.mrgT_comm]; exact hm
          have HM3 : Hid (C.mrgT M M = M) := by show _ = _; rw [← hm]; exact C.mrgT_again S T
          have HVS : Hid _ := hvs
          obtain ⟨bs, hbs⟩ : ∃ bs, C.tbytes S = bs := ⟨_, rfl⟩
          have HBS : Hid (bs = [] ++ C.tbytes S) := by show _ = _; rw [hbs]; rfl
          have HGT : Hid (C.getT (some bs) = (S, some [])) := by have := C.getT_tbytes hSok []; rw [List.append_nil, hbs] at this; exact this
          have HLN : Hid (bs.length ≤ 100000) := by
            have h1 := vbytes_len7 (C.ok50_fits hSok.u)
            have h2 := vbytes_len7 (C.ok50_fits hSok.d)
            show _ ≤ _
            rw [← hbs]; unfold C.tbytes; rw [List.length_append]; omega
          clear hvs hm hSok hbs
          have HO : Hid (Tas w wr ([] ++ ⟨gs, S, false⟩ :: [⟨gt, T, false⟩])) := HO.out
          go_wp2_with fail
          refine (t_put [] _ gs S none 0 0 [] bs HO.out (Is.nil _) (by decide) HBS.out).mono ?_
          rintro e w4 ⟨⟨p4, n4, c4, rfl, hi4⟩, hb4⟩
          have HI4 : Hid (Is w4 p4 n4 c4 bs) := hi4
          have H4 : Hid (Tas w w4 ([] ++ ⟨gs, S, false⟩ :: [⟨gt, T, false⟩])) := HO.out.below hb4
          clear hi4 hb4 HO
          go_wp2_with fail
          refine (read_at w4 p4 n4 c4 bs HI4.out HLN.out).mono ?_
          rintro e w5 ⟨⟨gr, p5, n5, c5, rfl, hlo, hlt5, hr5⟩, hb5⟩
          have HR5 : Hid (Rd w5 gr (some bs) p5 n5 c5) := hr5
          have HLO : Hid (w.heap.size ≤ gr) := Nat.le_trans H4.out.bel.size hlo
          have H5 : Hid (Tas w w5 ([] ++ ⟨gs, S, false⟩ :: [⟨gt, T, false⟩])) := H4.out.below hb5
          clear hr5 hlo hlt5 hb5 H4 HI4
          go_wp2_with fail
          refine (tget_any w5 gr (some bs) (some []) p5 n5 c5 S HR5.out HLN.out HGT.out).mono ?_
          rintro e w6 ⟨ht, ⟨p6, n6, c6, hr6⟩, hg6⟩
          obtain ⟨gx, rfl, hx1, hx2⟩ : ∃ gx, e = .returned (.pointer (some ⟨gx, 0, none⟩)) ∧ w5.heap.size ≤ gx ∧ TaAt w6 gx 51 S := by
            rcases ht with ⟨h, -⟩ | ⟨r, k, -, h, h1, h2⟩
            · cases h
            · exact ⟨k, h, h1, h2⟩
          have HR6 : Hid (Rd w6 gr (some []) p6 n6 c6) := hr6
          have H6 : Hid (Tas w w6 ([] ++ ⟨gs, S, false⟩ :: [⟨gt, T, false⟩, ⟨gx, S, false⟩])) := (H5.out.grown HR5.out HLO.out hg6).add hx2 HSOK.out (fun o ho => by have := (H5.out.at_ o ho).1.lt; omega) (Nat.le_trans H5.out.bel.size hx1)
          clear ht hr6 hg6 hx1 hx2 H5 HR5
          go_wp2_with fail
          refine (t_put [] _ gs S none 0 0 [] bs H6.out (Is.nil _) (by decide) HBS.out).mono ?_
          rintro e w7 ⟨⟨p7, n7, c7, rfl, hi7⟩, hb7⟩
          have HI7 : Hid (Is w7 p7 n7 c7 bs) := hi7
          have HR7 : Hid (Rd w7 gr (some []) p6 n6 c6) := HR6.out.below hb7
          have H7 : Hid (Tas w w7 ([] ++ ⟨gs, S, false⟩ :: [⟨gt, T, false⟩, ⟨gx, S, false⟩])) := H6.out.below hb7
          clear hi7 hb7 H6 HR6
          go_wp2_with fail
          refine (read_at w7 p7 n7 c7 bs HI7.out HLN.out).mono ?_
          rintro e w8 ⟨⟨gq, p8, n8, c8, rfl, hlo, hlt8, hr8⟩, hb8⟩
          have HR8 : Hid (Rd w8 gq (some bs) p8 n8 c8) := hr8
          have HNE : Hid (gr ≠ gq) := by have := HR7.out.lt; show _ ≠ _; omega
          have HL8 : Hid (w.heap.size ≤ gq) := Nat.le_trans H7.out.bel.size hlo
          have H8 : Hid (Tas w w8 ([] ++ ⟨gs, S, false⟩ :: [⟨gt, T, false⟩, ⟨gx, S, false⟩])) := H7.out.below hb8
          have HRr8 : Hid (Rd w8 gr (some []) p6 n6 c6) := HR7.out.below hb8
          clear hr8 hlo hlt8 hb8 H7 HI7 HR7
          go_wp2_with fail
          refine (tget_any w8 gq (some bs) (some []) p8 n8 c8 S HR8.out HLN.out HGT.out).mono ?_
          rintro e w9 ⟨ht, -, hg9⟩
          obtain ⟨gy, rfl, hx1, hx2⟩ : ∃ gx, e = .returned (.pointer (some ⟨gx, 0, none⟩)) ∧ w8.heap.size ≤ gx ∧ TaAt w9 gx 51 S := by
            rcases ht with ⟨h, -⟩ | ⟨r, k, -, h, h1, h2⟩
            · cases h
            · exact ⟨k, h, h1, h2⟩
          have HR9 : Hid (Rd w9 gr (some []) p6 n6 c6) := HRr8.out.kept hg9 HR8.out.nb HNE.out
          have H9 : Hid (Tas w w9 ([] ++ ⟨gs, S, false⟩ :: [⟨gt, T, false⟩, ⟨gx, S, false⟩, ⟨gy, S, false⟩])) := (H8.out.grown HR8.out HL8.out hg9).add hx2 HSOK.out (fun o ho => by have := (H8.out.at_ o ho).1.lt; omega) (Nat.le_trans H8.out.bel.size hx1)
          clear ht hg9 hx1 hx2 H8 HR8 HRr8
          go_wp2_with fail
          refine (end_any w9 gr _ p6 n6 c6 HR9.out).mono ?_
          rintro e w10 ⟨rfl, hw⟩
          subst hw
          have hee : ((some [] : Option (List UInt8)) == some []) = true := rfl
          rw [hee]
          clear hee
          go_wp2_with fail
          refine (t_same gx gs S S true H9.out (by simp) (by simp) (C.sameT_self S)).mono ?_
          rintro e w11 ⟨rfl, hb11⟩
          have H11 : Hid (Tas w w11 ([⟨gs, S, false⟩, ⟨gt, T, false⟩] ++ ⟨gx, S, false⟩ :: [⟨gy, S, false⟩])) := H9.out.below hb11
          clear hb11 H9 HR9
          go_wp2_with fail
          refine (t_value [⟨gs, S, false⟩, ⟨gt, T, false⟩] [⟨gy, S, false⟩] gx S vs H11.out HVS.out).mono ?_
          rintro e w12 ⟨rfl, hw⟩
          subst hw
          go_wp2_with fail
          refine (t_value [] [⟨gt, T, false⟩, ⟨gx, S, false⟩, ⟨gy, S, false⟩] gs S vs H11.out HVS.out).mono ?_
          rintro e w12 ⟨rfl, hw⟩
          subst hw
          have hvv : (vs == vs) = true := beq_self_eq_true vs
          go_wp2_with fail
          refine (t_merge [⟨gs, S, false⟩, ⟨gt, T, false⟩] [⟨gy, S, false⟩] gx gt S T M H11.out (by simp) HM1.out).mono ?_
          rintro e w13 ⟨rfl, h13, -⟩
          have H13 : Hid (Tas w w13 ([⟨gs, S, false⟩] ++ ⟨gt, T, false⟩ :: [⟨gx, M, false⟩, ⟨gy, S, false⟩])) := h13
          clear h13 H11 hvv
          go_wp2_with fail
          refine (t_merge [⟨gs, S, false⟩] [⟨gx, M, false⟩, ⟨gy, S, false⟩] gt gy T S M H13.out (by simp) HM2.out).mono ?_
          rintro e w14 ⟨rfl, h14, -⟩
          have H14 : Hid (Tas w w14 ([⟨gs, S, false⟩, ⟨gt, M, false⟩] ++ ⟨gx, M, false⟩ :: [⟨gy, S, false⟩])) := h14
          clear h14 H13
          go_wp2_with fail
          refine (t_same gx gt M M true H14.out (by simp) (by simp) (C.sameT_self M)).mono ?_
          rintro e w15 ⟨rfl, hb15⟩
          have H15 : Hid (Tas w w15 ([⟨gs, S, false⟩, ⟨gt, M, false⟩] ++ ⟨gx, M, false⟩ :: [⟨gy, S, false⟩])) := H14.out.below hb15
          clear hb15 H14
          go_wp2_with fail
          refine (t_merge [⟨gs, S, false⟩, ⟨gt, M, false⟩] [⟨gy, S, false⟩] gx gt M M M H15.out (by simp) HM3.out).mono ?_
          rintro e w16 ⟨rfl, h16, -⟩
          have H16 : Hid (Tas w w16 ([⟨gs, S, false⟩, ⟨gt, M, false⟩] ++ ⟨gx, M, false⟩ :: [⟨gy, S, false⟩])) := h16
          clear h16 H15
          go_wp2_with fail
          refine (t_same gx gt M M true H16.out (by simp) (by simp) (C.sameT_self M)).mono ?_
          rintro e w17 ⟨rfl, hb17⟩
          have H17 : Hid (Below w.heap.size w w17) := bt H16.out.bel hb17
          clear hb17 H16
          go_wp2
          go_ret
          exact ⟨rfl, H17.out⟩
end Go.Proofs.Ytnkfabonggofgaa
