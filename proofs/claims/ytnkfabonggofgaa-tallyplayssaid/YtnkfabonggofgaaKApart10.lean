/-
  TallyApart: what different replicas counted, merged, is all of it.
-/
import Derived.Test.YtnkfabonggofgaaYAwake
import Derived.Test.YtnkfabonggofgaaYApart
import Derived.Test.YtnkfabonggofgaaBVec
namespace Go.Proofs.Ytnkfabonggofgaa
open Go.RowKit Go.Lib
set_option linter.unusedVariables false

theorem IAt.at_ {w W : World} {p : Option Addr} {l : List Int} (h : IAt w p l) (hb : Below w.heap.size w W) {k : Nat} (hk : k < l.length) : ∃ b o x, p = some ⟨b, o, none⟩ ∧ l.getD k 0 = x ∧ W.cell? ⟨b, o + k, none⟩ = some (.int .i64 x) := by
  obtain ⟨b, o, hp, hc⟩ := h (by omega)
  refine ⟨b, o, _, hp, rfl, ?_⟩
  rw [hb.cell (p := ⟨b, o + k, none⟩) (World.block_lt_of_cell? _ _ (hc k hk))]
  exact hc k hk
set_option maxRecDepth 100000 in
set_option maxHeartbeats 4000000 in
theorem apart_all (pa : Option Addr) (l : List Int) (ca : Nat) (pb : Option Addr) (m : List Int) (cb : Nat) (w : World) (hlc : l.length ≤ ca) (hcm : ca ≤ maxLen) (ha : IAt w pa l) (hlc1 : m.length ≤ cb) (hcm1 : cb ≤ maxLen) (hb : IAt w pb m) :
    Calls Try.prog 6 #[.slice pa l.length ca, .slice pb m.length cb] w fun e w' => e = .returned (.bool true) ∧ Below w.heap.size w w' := by
  have HA : Hid (IAt w pa l) := ha
  have HB : Hid (IAt w pb m) := hb
  unfold maxLen at hcm hcm1
  obtain ⟨n, hn⟩ : ∃ n, n = l.length := ⟨_, rfl⟩
  have HN : Hid (n = l.length) := hn
  obtain ⟨q, hq⟩ : ∃ q, q = m.length := ⟨_, rfl⟩
  have HQ : Hid (q = m.length) := hq
  rw [← hn] at hlc ⊢
  rw [← hq] at hlc1 ⊢
  clear hn hq ha hb
  have hnb : n ≤ 9223372036854775807 := by omega
  have hqb : q ≤ 9223372036854775807 := by omega
  clear hlc hlc1 hcm hcm1
  by_cases hbig : 30 < n
  · go_enter Try.func6, Try.ntmps6
    go_wp2_with fail
    refine (awake10_any _).mono ?_
    rintro e w1 ⟨rfl, hb1⟩
    go_wp2
    go_ret
    exact ⟨rfl, hb1⟩
  by_cases hbig2 : 30 < q
  · go_enter Try.func6, Try.ntmps6
    go_wp2_with fail
    refine (awake10_any _).mono ?_
    rintro e w1 ⟨rfl, hb1⟩
    go_wp2
    go_ret
    exact ⟨rfl, hb1⟩
  go_enter Try.func6, Try.ntmps6
  go_wp2_with fail
  refine (awake10_any _).mono ?_
  rintro e w1 ⟨rfl, hb1⟩
  have HB1 : Hid (Below w.heap.size w w1) := hb1
  clear hb1
  go_wp2_with fail
  refine (t_new (Tas.nil HB1.out)).mono ?_
  rintro e w2 ⟨gs, rfl, h2, -⟩
  have H2 : Hid (Tas w w2 [⟨gs, C.zeroT, false⟩]) := h2
  clear h2
  go_wp2_with fail
  refine (t_new H2.out).mono ?_
  rintro e w3 ⟨gt, rfl, h3, -⟩
  have H3 : Hid (Tas w w3 ([] ++ ⟨gs, C.zeroT, false⟩ :: [⟨gt, C.zeroT, false⟩])) := h3
  clear h3 H2
  go_wp2_with fail
  go_loopw [7] (fun s7 wr => ∃ (k : Nat) (S : C.Ta), s7 = .int .i64 k ∧ k ≤ n ∧ Hid (C.Low S) ∧ Hid (Tas w wr ([] ++ ⟨gs, S, false⟩ :: [⟨gt, C.zeroT, false⟩]))) (fun s7 _ => n - (intOf s7).toNat)
  case atStart => exact ⟨0, _, rfl, Nat.zero_le _, C.low_zero, H3.out⟩
  case round =>
    clear H3
    obtain ⟨k, S, rfl, hkn, HLS, HO⟩ := hrel
    by_cases hlt : k < n
    · obtain ⟨b, o, x, rfl, hx, hc⟩ := HA.out.at_ HO.out.bel (k := k) (by have := HN.out; omega)
      clear hx
      have HLS' : Hid (C.Low (C.addT S ((k : Int) % 3) x)) := by
        show C.Low _
        rw [show ((k : Int) % 3) = ((k % 3 : Nat) : Int) by omega]
        exact C.low_add HLS.out (by omega) x
      obtain ⟨S', hS'⟩ : ∃ S', C.addT S ((k : Int) % 3) x = S' := ⟨_, rfl⟩
      rw [hS'] at HLS'
      have HS' : Hid _ := hS'
      clear hS'
      go_wp2_with fail
      refine (t_add [] _ gs S S' ((k : Int) % 3) x _ HO.out rfl HS'.out).mono ?_
      rintro e w6 ⟨rfl, h6, -⟩
      have H6 : Hid (Tas w w6 ([] ++ ⟨gs, S', false⟩ :: [⟨gt, C.zeroT, false⟩])) := h6
      clear h6 HO HS' hc
      go_wp2
      go_roundw
      case rel => exact ⟨k + 1, S', by go_num, by omega, HLS'.out, H6.out⟩
      case measure => simp [intOf]; omega
    · obtain rfl : k = n := by omega
      have H7 : Hid (Tas w wr ([⟨gs, S, false⟩] ++ ⟨gt, C.zeroT, false⟩ :: [])) := HO.out
      clear HO
      go_wp2_with fail
      go_loopw [8] (fun s8 wr => ∃ (k : Nat) (T : C.Ta), s8 = .int .i64 k ∧ k ≤ q ∧ Hid (C.High T) ∧ Hid (Tas w wr ([⟨gs, S, false⟩] ++ ⟨gt, T, false⟩ :: []))) (fun s8 _ => q - (intOf s8).toNat)
      case atStart => exact ⟨0, _, rfl, Nat.zero_le _, C.high_zero, H7.out⟩
      case round =>
        clear H7
        obtain ⟨j, T, rfl, hjq, HHT, HO⟩ := hrel
        by_cases hlt2 : j < q
        · obtain ⟨b, o, x, rfl, hx, hc⟩ := HB.out.at_ HO.out.bel (k := j) (by have := HQ.out; omega)
          clear hx
          have HHT' : Hid (C.High (C.addT T (3 + (j : Int) % 4) x)) := by
            show C.High _
            rw [show (3 + (j : Int) % 4) = ((3 + j % 4 : Nat) : Int) by omega]
            exact C.high_add HHT.out (by omega) x
          obtain ⟨T', hT'⟩ : ∃ T', C.addT T (3 + (j : Int) % 4) x = T' := ⟨_, rfl⟩
          rw [hT'] at HHT'
          have HT' : Hid _ := hT'
          clear hT'
          go_wp2_with fail
          refine (t_add _ [] gt T T' (3 + (j : Int) % 4) x _ HO.out rfl HT'.out).mono ?_
          rintro e w6 ⟨rfl, h6, -⟩
          have H6 : Hid (Tas w w6 ([⟨gs, S, false⟩] ++ ⟨gt, T', false⟩ :: [])) := h6
          clear h6 HO HT' hc
          go_wp2
          go_roundw
          case rel => exact ⟨j + 1, T', by go_num, by omega, HHT'.out, H6.out⟩
          case measure => simp [intOf]; omega
        · obtain rfl : j = q := by omega
          obtain ⟨vs, hvs⟩ : ∃ vs, C.valT S = vs := ⟨_, rfl⟩
          obtain ⟨vt, hvt⟩ : ∃ vt, C.valT T = vt := ⟨_, rfl⟩
          have hSok : S.Ok := (HO.out.at_ ⟨gs, S, false⟩ (by simp)).2.1
          have hTok : T.Ok := (HO.out.at_ ⟨gt, T, false⟩ (by simp)).2.1
          have hb1 := C.val_small hSok
          have hb2 := C.val_small hTok
          rw [hvs] at hb1
          rw [hvt] at hb2
          have HM : Hid (C.valT (C.mrgT S T) = vs + vt) := by show _ = _; rw [C.apart_val hSok hTok HLS.out HHT.out, hvs, hvt]
          have HVS : Hid _ := hvs
          have HVT : Hid _ := hvt
          clear hvs hvt hSok hTok
          go_wp2_with fail
          refine (t_value [] [⟨gt, T, false⟩] gs S vs HO.out HVS.out).mono ?_
          rintro e w8 ⟨rfl, hw⟩
          subst hw
          go_wp2_with fail
          refine (t_value [⟨gs, S, false⟩] [] gt T vt HO.out HVT.out).mono ?_
          rintro e w8 ⟨rfl, hw⟩
          subst hw
          go_wp2_with fail
          refine (t_merge [] [⟨gt, T, false⟩] gs gt S T _ HO.out (by simp) rfl).mono ?_
          rintro e w9 ⟨rfl, h9, -⟩
          have H9 : Hid (Tas w w9 ([] ++ ⟨gs, C.mrgT S T, false⟩ :: [⟨gt, T, false⟩])) := h9
          clear h9 HO
          go_wp2_with fail
          refine (t_value [] [⟨gt, T, false⟩] gs _ (vs + vt) H9.out HM.out).mono ?_
          rintro e w10 ⟨rfl, hw⟩
          subst hw
          go_wp2_with fail
          refine (t_value [⟨gs, C.mrgT S T, false⟩] [] gt T vt H9.out HVT.out).mono ?_
          rintro e w10 ⟨rfl, hw⟩
          subst hw
          go_wp2
          go_ret
          exact ⟨rfl, H9.out.bel⟩
end Go.Proofs.Ytnkfabonggofgaa
