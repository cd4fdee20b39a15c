/-
  DotsHas: what was added is there, nothing else; all together are as many as are told.
-/
import Derived.Test.YtadafllhionhhaaTArg
import Derived.Test.YtadafllhionhhaaBTake
namespace Go.Proofs.Ytadafllhionhhaa
open Go.RowKit Go.Lib
set_option linter.unusedVariables false

namespace C
theorem cont_snoc (l : List Dt) (x d : Dt) : (l ++ [x]).contains d = (l.contains d || (x.1 == d.1 && x.2 == d.2)) := by
  rw [Bool.eq_iff_iff]
  simp only [List.contains_iff_mem, List.mem_append, List.mem_singleton, Bool.or_eq_true, Bool.and_eq_true, beq_iff_eq]
  constructor
  · rintro (h | rfl)
    · exact Or.inl h
    · exact Or.inr ⟨rfl, rfl⟩
  · rintro (h | ⟨h1, h2⟩)
    · exact Or.inl h
    · exact Or.inr (dt_eq h1.symm h2.symm)
theorem len_bound {s : Ds} (h : s.Ok) (hl : s.l.length ≤ 1000) : 0 ≤ lenS s ∧ lenS s ≤ 10000000000000 := by
  obtain ⟨h0, h1, h2, h3, h4, h5, h6⟩ := (good_iff s.c).1 h.good
  unfold lenS sum7
  omega
end C
set_option maxRecDepth 100000 in
set_option maxHeartbeats 8000000 in
theorem has_walk (pa : Option Addr) (l : List C.Dt) (ca : Nat) (d1 d2 : Int) (w : World) (ha : ArgD w pa l) (hla : l.length ≤ maxLen) :
    Calls Try.prog 7 #[.slice pa l.length ca, .agg #[.int .i64 d1, .int .i64 d2]] w fun e w' => e = .returned (.bool true) ∧ Below w.heap.size w w' := by
  have HA : Hid (ArgD w pa l) := ha
  clear ha
  unfold maxLen at hla
  by_cases hbig : 60 < l.length
  · generalize l.length = n at *
    go_enter Try.func7, Try.ntmps7
    go_wp2_with fail
    refine (awake_any _).mono ?_
    rintro e w1 ⟨rfl, hb1⟩
    have HB1 : Hid (Below w.heap.size w w1) := bt (below_new _ _) hb1
    clear hb1
    go_wp2
    go_ret
    exact ⟨rfl, HB1.out⟩
  · have HLEN : Hid (l.length ≤ 60) := by show _ ≤ _; omega
    obtain ⟨n, hn⟩ : ∃ n, n = l.length := ⟨_, rfl⟩
    have HN : Hid (n = l.length) := hn
    rw [← hn] at hla hbig ⊢
    clear hn
    go_enter Try.func7, Try.ntmps7
    go_wp2_with fail
    refine (awake_any _).mono ?_
    rintro e w1 ⟨rfl, hb1⟩
    have HB1 : Hid (Below w.heap.size w w1) := bt (below_new _ _) hb1
    have HQ : Hid (w1.heap[w.heap.size]? = some (.cells #[.int .i64 d1, .int .i64 d2] 29)) := by show _ = _; rw [hb1.block _ (by simp)]; exact heap_alloc_new _ _
    clear hb1
    go_wp2_with fail
    refine (o_new (Objs.nil (Below.refl _ w1))).mono ?_
    rintro e w2 ⟨g, rfl, h2, _⟩
    have H2 : Hid (Objs w1 w2 ([] ++ ⟨g, .slice none 0 0, C.addAll C.zeroS (l.take 0)⟩ :: [])) := h2
    clear h2
    go_wp2_with fail
    go_loopw [6, 7, 8] (fun s6 s7 s8 wr => ∃ (k : Nat) (v : Value), s8 = .int .i64 k ∧ k ≤ n ∧ s6 = .bool (C.wasB (l.take k) (d1, d2)) ∧ s7 = .int .i64 (C.lenS (C.addAll C.zeroS (l.take k))) ∧ Hid (Objs w1 wr ([] ++ ⟨g, v, C.addAll C.zeroS (l.take k)⟩ :: []))) (fun _ _ s8 _ => n - (intOf s8).toNat)
    case atStart => exact ⟨0, _, rfl, Nat.zero_le _, by simp [C.wasB], rfl, H2.out⟩
    case round =>
      clear H2
      obtain ⟨k, v, rfl, hkn, rfl, rfl, HO⟩ := hrel
      by_cases hlt : k < n
      · obtain ⟨x, hx⟩ : ∃ x, l[k]? = some x := ⟨_, List.getElem?_eq_getElem (by have := HN.out; omega)⟩
        have HX : Hid (l[k]? = some x) := hx
        obtain ⟨b, o, rfl, hc⟩ := HA.out (by have := HN.out; omega)
        obtain ⟨a0, a1⟩ := hc k x hx
        have HA0 : Hid (w.cell? ⟨b, o + k * 2, none⟩ = some (.int .i64 x.1)) := a0
        have HA1 : Hid (w.cell? ⟨b, o + k * 2 + 1, none⟩ = some (.int .i64 x.2)) := a1
        have c0 : wr.cell? ⟨b, o + k * 2, none⟩ = some (.int .i64 x.1) := ((bt HB1.out HO.out.bel).cell (p := ⟨b, o + k * 2, none⟩) (World.block_lt_of_cell? _ _ a0)).trans a0
        have c1 : wr.cell? ⟨b, o + k * 2 + 1, none⟩ = some (.int .i64 x.2) := ((bt HB1.out HO.out.bel).cell (p := ⟨b, o + k * 2 + 1, none⟩) (World.block_lt_of_cell? _ _ a1)).trans a1
        have HL9 : Hid ((C.addAll C.zeroS (l.take k)).l.length < 1000) := by
          have h1 := C.all_len (l.take k) C.zeroS
          have h2 := List.length_take_le k l
          have h3 := HLEN.out
          have h4 : C.zeroS.l.length = 0 := rfl
          show _ < _
          omega
        have HSN : Hid (C.addAll C.zeroS (l.take (k + 1)) = C.addM (C.addAll C.zeroS (l.take k)) x) := by show _ = _; rw [C.take_snoc hx, C.all_snoc]
        have HWN : Hid (C.wasB (l.take (k + 1)) (d1, d2) = (C.wasB (l.take k) (d1, d2) || (C.may x && decide (x = (d1, d2))))) := by show _ = _; rw [C.take_snoc hx, C.was_snoc]
        have HLN : Hid (C.lenS (C.addM (C.addAll C.zeroS (l.take k)) x) = C.lenS (C.addAll C.zeroS (l.take k)) + if (C.may x && !C.mem (C.addAll C.zeroS (l.take k)) x) = true then 1 else 0) := C.lenM HO.out.get.2 x
        clear a0 a1 hx hc
        obtain ⟨wk, hwk⟩ : ∃ wk, wk = C.wasB (l.take k) (d1, d2) := ⟨_, rfl⟩
        have HWK : Hid (wk = C.wasB (l.take k) (d1, d2)) := hwk
        rw [← hwk]
        clear hwk
        obtain ⟨nk, hnk⟩ : ∃ nk, nk = C.lenS (C.addAll C.zeroS (l.take k)) := ⟨_, rfl⟩
        have HNK : Hid (nk = C.lenS (C.addAll C.zeroS (l.take k))) := hnk
        have hnb := C.len_bound HO.out.get.2 (Nat.le_of_lt HL9.out)
        rw [← hnk] at hnb ⊢
        clear hnk
        obtain ⟨bb, hbb⟩ : ∃ bb, (C.may (x.1, x.2) && !C.mem (C.addAll C.zeroS (l.take k)) (x.1, x.2)) = bb := ⟨_, rfl⟩
        have HBB : Hid ((C.may x && !C.mem (C.addAll C.zeroS (l.take k)) x) = bb) := hbb
        obtain ⟨mx, hmx⟩ : ∃ mx, C.may (x.1, x.2) = mx := ⟨_, rfl⟩
        have HMX : Hid (C.may x = mx) := hmx
        obtain ⟨er, herr⟩ : ∃ er, errM (x.1, x.2) = er := ⟨_, rfl⟩
        have HER : Hid (er = if mx then 0 else 1) := by show er = _; rw [← herr]; unfold errM; rw [hmx]
        obtain ⟨qb, hqb⟩ : ∃ qb, qb = (x.1 == d1 && x.2 == d2) := ⟨_, rfl⟩
        have HQB : Hid (qb = decide (x = (d1, d2))) := by
          show qb = _
          rw [hqb, Bool.eq_iff_iff]
          simp [Prod.ext_iff]
        have kq : ∀ W, (Op.equalIn 10000 29 (.agg #[.int .i64 x.1, .int .i64 x.2]) (.agg #[.int .i64 d1, .int .i64 d2])).run Try.prog W = .ok qb W := fun W => by rw [hqb]; exact eq2_dot x.1 x.2 d1 d2 W
        clear hqb hmx
        go_wp2_with fail
        refine (o_add [] [] g v _ _ x.1 x.2 bb _ HO.out HL9.out hbb herr rfl).mono ?_
        rintro e w3 ⟨rfl, ⟨v3, h3⟩, _⟩
        have H3 : Hid (Objs w1 w3 ([] ++ ⟨g, v3, C.addM (C.addAll C.zeroS (l.take k)) x⟩ :: [])) := h3
        clear h3 hbb herr c0 c1
        have hne : Nonempty (NewW w3) := ⟨NewW.start w3⟩
        have q3 : w3.heap[w.heap.size]? = some (.cells #[.int .i64 d1, .int .i64 d2] 29) := by rw [H3.out.bel.block _ (Array.getElem?_eq_some_iff.1 HQ.out).1]; exact HQ.out
        obtain ⟨z0, z1⟩ := box2_all q3
        have e0 : ∀ m : NewW w3, m.v.cell? ⟨b, o + k * 2, none⟩ = some (.int .i64 x.1) := fun m => ((bt (bt HB1.out H3.out.bel) m.h).cell (p := ⟨b, o + k * 2, none⟩) (World.block_lt_of_cell? _ _ HA0.out)).trans HA0.out
        have e1 : ∀ m : NewW w3, m.v.cell? ⟨b, o + k * 2 + 1, none⟩ = some (.int .i64 x.2) := fun m => ((bt (bt HB1.out H3.out.bel) m.h).cell (p := ⟨b, o + k * 2 + 1, none⟩) (World.block_lt_of_cell? _ _ HA1.out)).trans HA1.out
        clear q3
        have fin : ∀ (W : World) (z : Int) (y : Bool), Below w3.heap.size w3 W → z = nk + (if bb = true then 1 else 0) → y = (wk || (mx && qb)) → ∃ (k' : Nat) (v' : Value), (Value.int .i64 ((k : Int) + 1)) = .int .i64 k' ∧ k' ≤ n ∧ Value.bool y = .bool (C.wasB (l.take k') (d1, d2)) ∧ Value.int .i64 z = .int .i64 (C.lenS (C.addAll C.zeroS (l.take k'))) ∧ Hid (Objs w1 W ([] ++ ⟨g, v', C.addAll C.zeroS (l.take k')⟩ :: [])) := fun W z y hW hz hy => by
          refine ⟨k + 1, v3, by go_num, by omega, ?_, ?_, ?_⟩
          · rw [HWN.out, hy, HMX.out, ← HQB.out, HWK.out]
          · rw [HSN.out, HLN.out, hz, HBB.out, HNK.out]
          · show Objs _ _ _
            rw [HSN.out]
            exact H3.out.below hW
        have FIN : Hid _ := fin
        clear fin
        cases wk with
        | true =>
          go_wp2_with fail
          refine wp_region_new (by kernel_rfl) (by kernel_rfl) ?_
          repeat (go_big_quiet_step (fail))
          refine wpQuiet_nil ?_
          rintro _ ⟨w4, rfl⟩
          cases bb with
          | true =>
            go_wp2
            go_roundw
            case rel => exact FIN.out w4.v _ _ w4.h (by simp) (by simp)
            case measure => simp [intOf]; omega
          | false =>
            go_wp2
            go_roundw
            case rel => exact FIN.out w4.v _ _ w4.h (by simp) (by simp)
            case measure => simp [intOf]; omega
        | false =>
          cases mx with
          | true =>
            obtain rfl : er = 0 := HER.out
            go_wp2_with fail
            refine wp_region_new (by kernel_rfl) (by kernel_rfl) ?_
            repeat (go_big_quiet_step (fail))
            refine wpQuiet_nil ?_
            rintro _ ⟨w4, rfl⟩
            cases bb with
            | true =>
              go_wp2
              go_roundw
              case rel => exact FIN.out w4.v _ _ w4.h (by simp) (by simp)
              case measure => simp [intOf]; omega
            | false =>
              go_wp2
              go_roundw
              case rel => exact FIN.out w4.v _ _ w4.h (by simp) (by simp)
              case measure => simp [intOf]; omega
          | false =>
            obtain rfl : er = 1 := HER.out
            go_wp2_with fail
            refine wp_region_new (by kernel_rfl) (by kernel_rfl) ?_
            repeat (go_big_quiet_step (fail))
            refine wpQuiet_nil ?_
            rintro _ ⟨w4, rfl⟩
            cases bb with
            | true =>
              go_wp2
              go_roundw
              case rel => exact FIN.out w4.v _ _ w4.h (by simp) (by simp)
              case measure => simp [intOf]; omega
            | false =>
              go_wp2
              go_roundw
              case rel => exact FIN.out w4.v _ _ w4.h (by simp) (by simp)
              case measure => simp [intOf]; omega
      · obtain rfl : k = n := by omega
        have htk : l.take k = l := List.take_of_length_le (by have := HN.out; omega)
        rw [htk] at HO ⊢
        have HLS0 : Hid ((C.addAll C.zeroS l).l.length ≤ 60) := by
          have h1 := C.all_len l C.zeroS
          have h3 := HLEN.out
          have h4 : C.zeroS.l.length = 0 := rfl
          show _ ≤ _
          omega
        have HMW0 : Hid (C.mem (C.addAll C.zeroS l) (d1, d2) = C.wasB l (d1, d2)) := C.mem_was l _
        obtain ⟨s, hs⟩ : ∃ s, s = C.addAll C.zeroS l := ⟨_, rfl⟩
        rw [← hs] at HO HLS0 HMW0 ⊢
        obtain ⟨wk, hwk⟩ : ∃ wk, wk = C.wasB l (d1, d2) := ⟨_, rfl⟩
        rw [← hwk] at HMW0 ⊢
        clear hs hwk htk
        obtain ⟨nk, hnk⟩ : ∃ nk, C.lenS s = nk := ⟨_, rfl⟩
        have HNK : Hid (C.lenS s = nk) := hnk
        rw [hnk]
        obtain ⟨⟨x0, x1, x2, x3, x4, x5, x6⟩, ls⟩ := s
        simp only at HLS0
        obtain ⟨m, hm⟩ : ∃ m, m = ls.length := ⟨_, rfl⟩
        have HM : Hid (m = ls.length) := hm
        have hm60 : m ≤ 60 := by rw [hm]; exact HLS0.out
        have hgd := (C.good_iff _).1 HO.out.get.2.good
        simp only at hgd
        obtain ⟨g0, g1, g2, g3, g4, g5, g6⟩ := hgd
        have hsum : nk = (m : Int) + x0 + x1 + x2 + x3 + x4 + x5 + x6 := by rw [← hnk, hm]; unfold C.lenS C.sum7; simp only; omega
        have HSUM : Hid _ := hsum
        clear hnk hsum hm
        obtain ⟨hv, hhv⟩ : ∃ hv, C.has ⟨x0, x1, x2, x3, x4, x5, x6⟩ d1 d2 = hv := ⟨_, rfl⟩
        have HHV : Hid (C.has ⟨x0, x1, x2, x3, x4, x5, x6⟩ d1 d2 = hv) := hhv
        obtain ⟨ct, hct⟩ : ∃ ct, ls.contains (d1, d2) = ct := ⟨_, rfl⟩
        have HCT : Hid (ls.contains (d1, d2) = ct) := hct
        have HWK : Hid (wk = (hv || ct)) := by show wk = _; rw [← HMW0.out, ← hhv, ← hct]; rfl
        clear hhv hct
        go_wp2_with fail
        refine (o_loose [] [] g v _ HO.out (by have := HLS0.out; show ls.length ≤ _; omega)).mono ?_
        rintro e w3 ⟨⟨v3, rfl, h3, -⟩, hb3⟩
        obtain ⟨q3, cap3, rfl⟩ := h3.len
        have H3 : Hid (Objs w1 w3 ([] ++ ⟨g, v, ⟨⟨x0, x1, x2, x3, x4, x5, x6⟩, ls⟩⟩ :: [])) := HO.out.below hb3
        clear hb3 h3 HO
        simp only [← HM.out]
        go_wp2_with fail
        refine (o_vec [] [] g v _ _ H3.out rfl).mono ?_
        rintro e w4 ⟨rfl, hb4⟩
        have H4 : Hid (Objs w1 w4 ([] ++ ⟨g, v, ⟨⟨x0, x1, x2, x3, x4, x5, x6⟩, ls⟩⟩ :: [])) := H3.out.below hb4
        clear hb4 H3
        simp only [V7.v]
        go_wp2_with fail
        have HV5 : Hid ((w4.alloc (.cells #[.int .i64 x0, .int .i64 x1, .int .i64 x2, .int .i64 x3, .int .i64 x4, .int .i64 x5, .int .i64 x6] 43)).heap[w4.heap.size]? = some (.cells #[.int .i64 x0, .int .i64 x1, .int .i64 x2, .int .i64 x3, .int .i64 x4, .int .i64 x5, .int .i64 x6] 43)) := heap_alloc_new _ _
        have HB5 : Hid (Below w4.heap.size w4 (w4.alloc (.cells #[.int .i64 x0, .int .i64 x1, .int .i64 x2, .int .i64 x3, .int .i64 x4, .int .i64 x5, .int .i64 x6] 43))) := below_new _ _
        generalize w4.alloc (.cells #[.int .i64 x0, .int .i64 x1, .int .i64 x2, .int .i64 x3, .int .i64 x4, .int .i64 x5, .int .i64 x6] 43) = w5 at *
        have H5 : Hid (Objs w1 w5 ([] ++ ⟨g, v, ⟨⟨x0, x1, x2, x3, x4, x5, x6⟩, ls⟩⟩ :: [])) := H4.out.below HB5.out
        obtain ⟨b0, b1, b2, b3, b4, b5, b6⟩ := box7 HV5.out
        generalize w4.heap.size = B at *
        clear HB5 H4
        refine wp_loop_rounds 8 ?_
        repeat (rw [rounds_succ]; go_wp2)
        clear b0 b1 b2 b3 b4 b5 b6
        rw [← HSUM.out]
        go_loopw [14, 15] (fun s14 s15 wr => ∃ (j : Nat), s15 = .int .i64 j ∧ j ≤ m ∧ s14 = .bool ((ls.take j).contains (d1, d2)) ∧ Hid (Below w5.heap.size w5 wr)) (fun _ s15 _ => m - (intOf s15).toNat)
        case atStart => exact ⟨0, rfl, Nat.zero_le _, by simp, Below.refl _ _⟩
        case round =>
          obtain ⟨j, rfl, hjm, rfl, HB6⟩ := hrel
          have H6 : Hid _ := H5.out.below HB6.out
          go_wp2_with fail
          refine (o_loose [] [] g v _ H6.out (by have := HLS0.out; show ls.length ≤ _; omega)).mono ?_
          rintro e w7 ⟨⟨v7, rfl, h7, -⟩, hb7⟩
          obtain ⟨q7, cap7, rfl⟩ := h7.len
          have HB7 : Hid (Below w5.heap.size w5 w7) := bt HB6.out hb7
          have H7 : Hid _ := H6.out.below hb7
          clear hb7 h7 H6 HB6
          simp only [← HM.out]
          by_cases hlt2 : j < m
          · obtain ⟨x, hx⟩ : ∃ x, ls[j]? = some x := ⟨_, List.getElem?_eq_getElem (by have := HM.out; omega)⟩
            have HCN : Hid ((ls.take (j + 1)).contains (d1, d2) = ((ls.take j).contains (d1, d2) || (x.1 == d1 && x.2 == d2))) := by
              show _ = _
              rw [C.take_snoc hx, C.cont_snoc]
            obtain ⟨cj, hcj⟩ : ∃ cj, (ls.take j).contains (d1, d2) = cj := ⟨_, rfl⟩
            have HX : Hid (ls[j]? = some x) := hx
            rw [hcj] at HCN ⊢
            clear hcj hx
            have hne : Nonempty (NewW w7) := ⟨NewW.start w7⟩
            cases cj with
            | true =>
              go_wp2_with fail
              refine wp_region_new (by kernel_rfl) (by kernel_rfl) ?_
              repeat (go_big_quiet_step (fail))
              refine wpQuiet_nil ?_
              rintro _ ⟨w8, rfl⟩
              go_wp2
              go_roundw
              case rel => exact ⟨j + 1, by go_num, by omega, by rw [HCN.out]; rfl, bt HB7.out w8.h⟩
              case measure => simp [intOf]; omega
            | false =>
              have q8 : w7.heap[w.heap.size]? = some (.cells #[.int .i64 d1, .int .i64 d2] 29) := by rw [H7.out.bel.block _ (Array.getElem?_eq_some_iff.1 HQ.out).1]; exact HQ.out
              obtain ⟨z0, z1⟩ := box2_all q8
              have HQ8 : Hid _ := q8
              obtain ⟨qb, hqb⟩ : ∃ qb, qb = (x.1 == d1 && x.2 == d2) := ⟨_, rfl⟩
              have kq : ∀ W, (Op.equalIn 10000 29 (.agg #[.int .i64 x.1, .int .i64 x.2]) (.agg #[.int .i64 d1, .int .i64 d2])).run Try.prog W = .ok qb W := fun W => by rw [hqb]; exact eq2_dot x.1 x.2 d1 d2 W
              have HQB : Hid (qb = (x.1 == d1 && x.2 == d2)) := hqb
              clear q8 hqb
              go_wp2_with fail
              refine wp_region_held_drew (S := fun w' => ∃ n : NewW w7, w' = n.v) (by kernel_rfl) ⟨NewW.start w7, rfl⟩ (fun hC => ?_)
              refine takeList (i := 0) rfl (by kernel_rfl) (by kernel_rfl) (by kernel_rfl) (fun _ _ _ _ h => h) rfl rfl hC (fun K hK => ?_)
              go_big_quiet_op
              refine hK _ ?_
              clear hK K
              refine takeList (i := 1) rfl (by kernel_rfl) (by kernel_rfl) (by kernel_rfl) (fun _ _ _ _ h => h) rfl rfl hC (fun K hK => ?_)
              go_big_quiet_op
              refine hK _ ?_
              clear hK K
              refine takeList (i := 2) rfl (by kernel_rfl) (by kernel_rfl) (by kernel_rfl) (fun _ _ _ _ h => h) rfl rfl hC (fun K hK => ?_)
              go_big_quiet_op
              refine hK _ ?_
              clear hK K
              refine takeList (i := 4) rfl (by kernel_rfl) (by kernel_rfl) (by kernel_rfl) (fun _ _ _ _ h => h) rfl rfl hC (fun K hK => ?_)
              go_big_quiet_op
              refine hK _ ?_
              clear hK K
              refine takeList (i := 7) rfl (by kernel_rfl) (by kernel_rfl) (by kernel_rfl) (fun _ _ _ _ h => h) rfl rfl hC (fun K hK => ?_)
              go_big_quiet_op
              refine hK _ ?_
              clear hK K
              refine callList (i := 3) rfl (by kernel_rfl) rfl (fun K hK => ?_)
              go_simp
              refine (o_loose [] [] g v _ (H7.out.below (Below.refl _ _).drew) (by have := HLS0.out; show ls.length ≤ _; omega)).mono ?_
              rintro e w9 ⟨⟨v9, rfl, h9, -⟩, hb9⟩
              obtain ⟨g9, cap9, rfl⟩ := h9.at (show 0 < ls.length by have := HM.out; omega)
              have hb79 : Below w7.heap.size w7 w9 := bt ((Below.refl _ w7).drew) hb9
              refine hK.out _ _ ⟨⟨w9, hb79⟩, rfl⟩ ?_
              clear hK K hC z0 z1
              refine wpAnyH_strengthen (S' := fun w' => ∃ n : NewW w9, w' = n.v) (fun w' ⟨n, hn⟩ => ⟨⟨n.v, bt hb79 n.h⟩, hn⟩) _ _ _ _ ?_
              have hne9 : Nonempty (NewW w9) := ⟨NewW.start w9⟩
              have y0 : ∀ m : NewW w9, m.v.cell? ⟨g9, j * 2, none⟩ = some (.int .i64 x.1) := fun m => ((h9.below m.h).cell j x HX.out).1
              have y1 : ∀ m : NewW w9, m.v.cell? ⟨g9, j * 2 + 1, none⟩ = some (.int .i64 x.2) := fun m => ((h9.below m.h).cell j x HX.out).2
              have HB9 : Hid (Below w5.heap.size w5 w9) := bt HB7.out hb79
              have hC : ∃ n : NewW w9, w9 = n.v := ⟨⟨w9, Below.refl _ _⟩, rfl⟩
              simp only [← HM.out]
              clear hb9 hb79 h9 hne
              refine takeList (i := 5) rfl (by kernel_rfl) (by kernel_rfl) (by kernel_rfl) (fun _ _ _ _ h => h) rfl rfl hC (fun K hK => ?_)
              go_big_quiet_op
              refine hK _ ?_
              clear hK K
              refine takeList (i := 6) rfl (by kernel_rfl) (by kernel_rfl) (by kernel_rfl) (fun _ _ _ _ h => h) rfl rfl hC (fun K hK => ?_)
              go_big_quiet_op
              refine hK _ ?_
              clear hK K
              refine takeList (i := 8) rfl (by kernel_rfl) (by kernel_rfl) (by kernel_rfl) (fun _ _ _ _ h => h) rfl rfl hC (fun K hK => ?_)
              go_big_quiet_op
              refine hK _ ?_
              clear hK K
              refine takeList (i := 9) rfl (by kernel_rfl) (by kernel_rfl) (by kernel_rfl) (fun _ _ _ _ h => h) rfl rfl hC (fun K hK => ?_)
              go_big_quiet_op
              refine hK _ ?_
              clear hK K
              refine takeList (i := 10) rfl (by kernel_rfl) (by kernel_rfl) (by kernel_rfl) (fun _ _ _ _ h => h) rfl rfl hC (fun K hK => ?_)
              go_big_quiet_op
              refine hK _ ?_
              clear hK K
              refine wpAnyH_done (by kernel_rfl) ?_ _
              clear y0 y1 hC hne9
              go_wp2
              go_roundw
              case rel => exact ⟨j + 1, by go_num, by omega, by rw [HCN.out, HQB.out]; rfl, HB9.out⟩
              case measure => simp [intOf]; omega
          · obtain rfl : j = m := by omega
            have hcm : (ls.take j).contains (d1, d2) = ct := by rw [List.take_of_length_le (by have := HM.out; omega)]; exact HCT.out
            rw [hcm]
            clear hcm
            have HQ7 : Hid (w7.heap[w.heap.size]? = some (.cells #[.int .i64 d1, .int .i64 d2] 29)) := by show _ = _; rw [H7.out.bel.block _ (Array.getElem?_eq_some_iff.1 HQ.out).1]; exact HQ.out
            obtain ⟨z0, z1⟩ := box2 HQ7.out
            go_wp2_with fail
            refine (o_has [] [] g v _ d1 d2 _ H7.out (by have := HLS0.out; show ls.length ≤ _; omega) HMW0.out).mono ?_
            rintro e w8 ⟨rfl, hb8⟩
            have HB8 : Hid (Below w5.heap.size w5 w8) := bt HB7.out hb8
            have H8 : Hid _ := H7.out.below hb8
            have q8 := keep_on hb8 HQ7.out
            obtain ⟨y0, y1, y2, y3, y4, y5, y6⟩ := box7 (keep_on HB8.out HV5.out)
            clear z0 z1 hb8
            obtain ⟨z0, z1⟩ := box2 q8
            have hww : (wk == wk) = true := beq_self_eq_true wk
            have hnn : (nk == nk) = true := beq_self_eq_true nk
            clear q8
            go_wp2_with fail
            refine (has_at HHV.out _).mono ?_
            rintro e w9 ⟨rfl, hb9⟩
            have H9 : Hid _ := H8.out.below hb9
            have HBF : Hid (Below w.heap.size w w9) := bt HB1.out H9.out.bel
            clear hb9 y0 y1 y2 y3 y4 y5 y6 z0 z1
            cases hv with
            | true =>
              obtain rfl : wk = true := HWK.out
              go_wp2_with fail
              refine (o_len [] [] g v _ _ H9.out (by have := HLS0.out; show ls.length ≤ _; omega) HNK.out).mono ?_
              rintro e w10 ⟨rfl, hw⟩
              subst hw
              go_wp2
              go_ret
              exact ⟨rfl, HBF.out⟩
            | false =>
              obtain rfl : wk = ct := HWK.out
              go_wp2_with fail
              refine (o_len [] [] g v _ _ H9.out (by have := HLS0.out; show ls.length ≤ _; omega) HNK.out).mono ?_
              rintro e w10 ⟨rfl, hw⟩
              subst hw
              go_wp2
              go_ret
              exact ⟨rfl, HBF.out⟩
theorem has_any8 (pa : Option Addr) (len ca : Nat) (d1 d2 : Int) (h1 : C.fits d1) (h2 : C.fits d2) (w : World) (hla : len ≤ ca) (hca : ca ≤ maxLen)
    (V : Nat → Nat → Value) (hV : 0 < len → ∃ b o, pa = some ⟨b, o, none⟩ ∧ ∀ i j, i < len → j < 2 → w.cell? ⟨b, o + i * 2 + j, none⟩ = some (V i j)) (hI : ∀ i j, i < len → j < 2 → ∃ z, V i j = .int .i64 z ∧ (Lit.int .i64 z).wf = true) :
    Calls Try.prog 7 #[.slice pa len ca, .agg #[.int .i64 d1, .int .i64 d2]] w fun e w' => e = .returned (.bool true) ∧ Below w.heap.size w w' := by
  obtain ⟨l, rfl, ha⟩ := argD_of w pa len V hV hI
  exact has_walk pa l ca d1 d2 w ha (Nat.le_trans hla hca)
end Go.Proofs.Ytadafllhionhhaa
