/-
  The document's own: Write, where it is not refused at once.
-/
import Derived.Test.YtebfhomopdnkkaaEDWrite
namespace Go.Proofs.Ytebfhomopdnkkaa
open Go.RowKit Go.Lib
set_option linter.unusedVariables false

theorem lt_dlt {S a : C.La} (h : S.t = a.t) : C.ltL S a = C.dlt (S.r, S.n) (a.r, a.n) := by
  rw [Bool.eq_iff_iff, C.ltL_is, C.dlt_iff]
  simp only
  omega
set_option maxRecDepth 100000 in
set_option maxHeartbeats 16000000 in
theorem dwrite_ok (w : World) (g : Nat) (S a : C.La) (h : EAt w g true S) (hS : S.Ok) (hb : C.badL a = false) :
    Calls Try.prog 17 #[.pointer (some ⟨g, 0, none⟩), .string a.x, .int .i64 a.t, .agg #[.int .i64 a.r, .int .i64 a.n]] w (DPost w g S a) := by
  have HD : Hid (C.didL S a = C.ltL S a ∧ C.errL S a = (if C.eqL S a = true ∧ S.x ≠ a.x then 5 else 0) ∧ C.wrL S a = (if C.ltL S a = true then a else S)) := by
    refine ⟨?_, ?_, ?_⟩
    · simp [C.didL, hb]
    · simp [C.errL, hb]
    · simp [C.wrL, hb]
  have hgood := (C.badL_iff a).1 hb
  have HN : Hid (∀ W, _) := fun W => rmay_any a.r a.n W
  rw [may_is, noneL_false hb] at HN
  simp only [Bool.not_false] at HN
  have HIS : Hid (C.isL a = true) := good_isL hb
  obtain ⟨zd, hzd⟩ : ∃ zd, C.dlt (S.r, S.n) (a.r, a.n) = zd := ⟨_, rfl⟩
  have HLS : Hid (∀ W, _) := fun W => rless_any S.r S.n a.r a.n W
  rw [hzd] at HLS
  have HDL : Hid (S.t = a.t → C.ltL S a = zd) := fun e => (lt_dlt e).trans hzd
  have HLT : Hid (C.isL S = false → C.ltL S a = true) := fun e => by
    have : S.n = 0 := by simpa [C.isL] using e
    rw [hS.z this]; exact C.zero_lt hb
  have H : Hid (EAt w g true S) := h
  have HG : Hid (g < w.heap.size) := h.lt
  obtain ⟨zi, hzi⟩ : ∃ zi, C.isL S = zi := ⟨_, rfl⟩
  have HZI : Hid (C.isL S = zi) := hzi
  rw [hzi] at HLT
  clear h hb hzd hzi
  obtain ⟨x, t, r, n⟩ := a
  obtain ⟨u, tt, rr, nn⟩ := S
  have HTT : Hid (0 ≤ tt ∧ tt ≤ 1099511627776) := hS.t
  simp only at *
  have h1' : ¬ 100 < x.size := by omega
  have h2' : ¬ t < 0 := by omega
  have h3' : ¬ 1099511627776 < t := by omega
  have hxm : x.size ≤ 9223372036854775807 := by omega
  clear hgood hS
  obtain ⟨w1, hw1⟩ : ∃ w1, w1 = w.alloc (.cells #[.int .i64 r, .int .i64 n] 31) := ⟨_, rfl⟩
  have HB1 : Hid (Below w.heap.size w w1) := by show Below _ _ _; rw [hw1]; exact below_new _ _
  have HQ1 : Hid (w1.heap[w.heap.size]? = some (.cells #[.int .i64 r, .int .i64 n] 31)) := by show _ = _; rw [hw1]; exact heap_alloc_new _ _
  obtain ⟨gb, hgb⟩ : ∃ gb, gb = w.heap.size := ⟨_, rfl⟩
  rw [← hgb] at HQ1
  have HW1 : Hid (w1 = w.alloc (.cells #[.int .i64 r, .int .i64 n] 31)) := hw1
  have HGE : Hid (gb = w.heap.size) := hgb
  clear hw1 hgb
  go_enter Try.func17, Try.ntmps17
  obtain ⟨y0, y1⟩ := box2 (heap_alloc_new w (.cells #[.int .i64 r, .int .i64 n] 31))
  go_wp2_with fail
  refine (HN.out _).mono ?_
  rintro e w2 ⟨rfl, hb2⟩
  rw [← HW1.out] at hb2
  rw [← HGE.out]
  have HB2 : Hid (Below w1.heap.size w1 w2) := hb2
  have HQ2 : Hid (w2.heap[gb]? = some (.cells #[.int .i64 r, .int .i64 n] 31)) := keep_on hb2 HQ1.out
  have HE2 : Hid (EAt w2 g true ⟨u, tt, rr, nn⟩) := H.out.below (bt HB1.out hb2)
  have HBW : Hid (Below w.heap.size w w2) := bt HB1.out hb2
  clear hb2 y0 y1 HN H HB1 HB2 HQ1 HW1
  obtain ⟨D1, D2, D3⟩ := HD.out
  -- the worlds of the two regions that only read
  have hF : ∀ T : NewW w2, _ := fun T => (HE2.out.below T.h)
  have c0 : ∀ T : NewW w2, T.v.cell? ⟨g, 0, none⟩ = some (.bool zi) := fun T => by rw [← HZI.out]; exact (hF T).cell 0
  have c1 : ∀ T : NewW w2, T.v.cell? ⟨g, 1, none⟩ = some (.string u) := fun T => (hF T).cell 1
  have c2 : ∀ T : NewW w2, T.v.cell? ⟨g, 2, none⟩ = some (.int .i64 tt) := fun T => (hF T).cell 2
  have c3 : ∀ T : NewW w2, T.v.cell? ⟨g, 3, none⟩ = some (.int .i64 rr) := fun T => (hF T).cell 3
  have c4 : ∀ T : NewW w2, T.v.cell? ⟨g, 4, none⟩ = some (.int .i64 nn) := fun T => (hF T).cell 4
  obtain ⟨d0, d1⟩ := box2_all HQ2.out
  have hne : Nonempty (NewW w2) := ⟨NewW.start w2⟩
  have HSW : Hid (∀ W, Below w2.heap.size w2 W → EAt W g true ⟨u, tt, rr, nn⟩ ∧ (W.cell? ⟨gb, 0, none⟩ = some (.int .i64 r) ∧ W.cell? ⟨gb, 1, none⟩ = some (.int .i64 n)) ∧ Turn w W (fun b => b = g)) := fun W hW => ⟨HE2.out.below hW, box2 (keep_on hW HQ2.out), Turn.of_below (bt HBW.out hW)⟩
  have HWR : Hid (C.ltL ⟨u, tt, rr, nn⟩ ⟨x, t, r, n⟩ = true → ∀ W, Below w2.heap.size w2 W → DPost w g ⟨u, tt, rr, nn⟩ ⟨x, t, r, n⟩ (.returned (.tuple #[.bool true, .int .i64 0])) (((((W.setCell ⟨g, 0, none⟩ (.bool true)).setCell ⟨g, 1, none⟩ (.string x)).setCell ⟨g, 2, none⟩ (.int .i64 t)).setCell ⟨g, 3, none⟩ (.int .i64 r)).setCell ⟨g, 4, none⟩ (.int .i64 n))) := fun hlt W hW => by
    rw [hlt] at D1
    rw [if_neg (fun e => C.ltL_ne hlt e.1)] at D2
    rw [if_pos hlt] at D3
    refine ⟨by rw [D1, D2], ?_, (HSW.out W hW).2.2.trans (turn5 W g 0 1 2 3 4 _ _ _ _ _) fun _ h => Or.inl h⟩
    rw [D3]
    exact (HSW.out W hW).1.set5 ⟨x, t, r, n⟩ HIS.out
  have HNO : Hid (C.ltL ⟨u, tt, rr, nn⟩ ⟨x, t, r, n⟩ = false → ∀ er, C.errL ⟨u, tt, rr, nn⟩ ⟨x, t, r, n⟩ = er → ∀ W, Below w2.heap.size w2 W → DPost w g ⟨u, tt, rr, nn⟩ ⟨x, t, r, n⟩ (.returned (.tuple #[.bool false, .int .i64 er])) W) := fun hnl er he W hW => by
    rw [hnl] at D1 D3
    rw [if_neg (by decide)] at D3
    refine ⟨by rw [D1, he], ?_, (HSW.out W hW).2.2⟩
    rw [D3]; exact (HSW.out W hW).1
  have HE0 : Hid ((¬ C.eqL ⟨u, tt, rr, nn⟩ ⟨x, t, r, n⟩ = true ∨ u = x) → C.errL ⟨u, tt, rr, nn⟩ ⟨x, t, r, n⟩ = 0) := fun hh => by
    rw [D2, if_neg]
    rintro ⟨e1, e2⟩
    rcases hh with hh | hh
    · exact hh e1
    · exact e2 hh
  have HE5 : Hid (C.eqL ⟨u, tt, rr, nn⟩ ⟨x, t, r, n⟩ = true → ¬ u = x → C.errL ⟨u, tt, rr, nn⟩ ⟨x, t, r, n⟩ = 5) := fun e1 e2 => by rw [D2, if_pos ⟨e1, e2⟩]
  clear D1 D2 D3 hF HQ2 HE2 HBW HD HIS
  cases zi with
  | false =>
    have HW : Hid _ := HWR.out (HLT.out rfl)
    clear HWR HNO HE0 HE5 HLT
    go_wp2_with fail
    refine wp_region_new (by kernel_rfl) (by kernel_rfl) ?_
    repeat (go_big_quiet_step (fail))
    refine wpQuiet_nil ?_
    rintro _ ⟨w3, rfl⟩
    go_wp2_with fail
    refine wp_region_more (n := w3) (by kernel_rfl) (by kernel_rfl) ?_
    repeat (go_big_quiet_step (fail))
    refine wpQuiet_nil ?_
    rintro _ ⟨w4, rfl⟩
    clear c0 c1 c2 c3 c4 d0 d1 hne 
    have HF : Hid _ := HW.out w4.v w4.h
    obtain ⟨he4, ⟨d0, d1⟩, -⟩ := HSW.out w4.v w4.h
    obtain ⟨q0, q1, q2, q3, q4⟩ := cells5_at he4
    have f0 := he4.fz 0
    have f1 := he4.fz 1
    have f2 := he4.fz 2
    have f3 := he4.fz 3
    have f4 := he4.fz 4
    clear he4
    go_wp2
    exact bodyPost_ret (v := .tuple #[.bool true, .int .i64 0]) (by simp [results, Try.results17, go_sem]) rfl HF.out
  | true =>
    obtain ⟨qb, hqb⟩ : ∃ qb, qb = (rr == r && nn == n) := ⟨_, rfl⟩
    have kq : ∀ W, (Op.equalIn 10000 31 (.agg #[.int .i64 rr, .int .i64 nn]) (.agg #[.int .i64 r, .int .i64 n])).run Try.prog W = .ok qb W := fun W => by rw [hqb]; exact eq_dot rr nn r n W
    have HQB : Hid (qb = true ↔ rr = r ∧ nn = n) := by show _ ↔ _; rw [hqb]; simp
    clear hqb HLT
    by_cases htt : tt = t
    · subst htt
      have k1 : (tt == tt) = true := beq_self_eq_true _
      have k2 : decide (tt < tt) = false := decide_eq_false (by omega)
      have hdl := HDL.out rfl
      cases qb with
      | true =>
        obtain ⟨rfl, rfl⟩ := HQB.out.1 rfl
        have heq : C.eqL ⟨u, tt, rr, nn⟩ ⟨x, tt, rr, nn⟩ = true := (C.eqL_is _ _).2 ⟨rfl, rfl, rfl⟩
        have hnl : C.ltL ⟨u, tt, rr, nn⟩ ⟨x, tt, rr, nn⟩ = false := by
          cases hq : C.ltL ⟨u, tt, rr, nn⟩ ⟨x, tt, rr, nn⟩ with
          | false => rfl
          | true => exact absurd heq (C.ltL_ne hq)
        rw [hnl] at hdl
        subst hdl
        by_cases hx : u = x
        · have HW : Hid _ := HNO.out hnl 0 (HE0.out (Or.inr hx))
          clear HWR HNO HE0 HE5 heq hnl HDL
          subst hx
          have k3 : (u.toList == u.toList) = true := beq_self_eq_true _
          go_wp2_with fail
          refine wp_region_new (by kernel_rfl) (by kernel_rfl) ?_
          repeat (go_big_quiet_step (fail))
          refine wpQuiet_nil ?_
          rintro _ ⟨w3, rfl⟩
          go_wp2_with fail
          refine wp_region_more (n := w3) (by kernel_rfl) (by kernel_rfl) ?_
          repeat (go_big_quiet_step (first | (with_reducible exact new_of (HLS.out _))))
          refine wpQuiet_nil ?_
          rintro _ ⟨w4, rfl⟩
          clear c0 c1 c2 c3 c4 d0 d1 hne k1 k2 k3 kq
          have HF : Hid _ := HW.out w4.v w4.h
          go_wp2
          exact bodyPost_ret (v := .tuple #[.bool false, .int .i64 0]) (by simp [results, Try.results17, go_sem]) rfl HF.out
        · have HW : Hid _ := HNO.out hnl 5 (HE5.out heq hx)
          clear HWR HNO HE0 HE5 heq hnl HDL
          have k3 : (u.toList == x.toList) = false := by rw [txt_eq]; exact decide_eq_false hx
          go_wp2_with fail
          refine wp_region_new (by kernel_rfl) (by kernel_rfl) ?_
          repeat (go_big_quiet_step (fail))
          refine wpQuiet_nil ?_
          rintro _ ⟨w3, rfl⟩
          clear c0 c1 c2 c3 c4 d0 d1 hne k1 k2 k3 kq
          have HF : Hid _ := HW.out w3.v w3.h
          go_wp2
          exact bodyPost_ret (v := .tuple #[.bool false, .int .i64 5]) (by simp [results, Try.results17, go_sem]) rfl HF.out
      | false =>
        have hne5 : ¬ C.eqL ⟨u, tt, rr, nn⟩ ⟨x, tt, r, n⟩ = true := fun e => by
          have := HQB.out.2 ((C.eqL_is _ _).1 e).2
          cases this
        cases zd with
        | true =>
          have HW : Hid _ := HWR.out hdl
          clear HWR HNO HE0 HE5 hne5 HDL hdl
          go_wp2_with fail
          refine wp_region_new (by kernel_rfl) (by kernel_rfl) ?_
          repeat (go_big_quiet_step (fail))
          refine wpQuiet_nil ?_
          rintro _ ⟨w3, rfl⟩
          go_wp2_with fail
          refine wp_region_more (n := w3) (by kernel_rfl) (by kernel_rfl) ?_
          repeat (go_big_quiet_step (first | (with_reducible exact new_of (HLS.out _))))
          refine wpQuiet_nil ?_
          rintro _ ⟨w4, rfl⟩
          clear c0 c1 c2 c3 c4 d0 d1 hne k1 k2 kq
          have HF : Hid _ := HW.out w4.v w4.h
          obtain ⟨he4, ⟨d0, d1⟩, -⟩ := HSW.out w4.v w4.h
          obtain ⟨q0, q1, q2, q3, q4⟩ := cells5_at he4
          have f0 := he4.fz 0
          have f1 := he4.fz 1
          have f2 := he4.fz 2
          have f3 := he4.fz 3
          have f4 := he4.fz 4
          clear he4
          go_wp2
          exact bodyPost_ret (v := .tuple #[.bool true, .int .i64 0]) (by simp [results, Try.results17, go_sem]) rfl HF.out
        | false =>
          have HW : Hid _ := HNO.out hdl 0 (HE0.out (Or.inl hne5))
          clear HWR HNO HE0 HE5 hne5 HDL hdl
          go_wp2_with fail
          refine wp_region_new (by kernel_rfl) (by kernel_rfl) ?_
          repeat (go_big_quiet_step (fail))
          refine wpQuiet_nil ?_
          rintro _ ⟨w3, rfl⟩
          go_wp2_with fail
          refine wp_region_more (n := w3) (by kernel_rfl) (by kernel_rfl) ?_
          repeat (go_big_quiet_step (first | (with_reducible exact new_of (HLS.out _))))
          refine wpQuiet_nil ?_
          rintro _ ⟨w4, rfl⟩
          clear c0 c1 c2 c3 c4 d0 d1 hne k1 k2 kq
          have HF : Hid _ := HW.out w4.v w4.h
          go_wp2
          exact bodyPost_ret (v := .tuple #[.bool false, .int .i64 0]) (by simp [results, Try.results17, go_sem]) rfl HF.out
    · have k1 : (tt == t) = false := by simpa using htt
      have k1b : (t == tt) = false := by simpa using fun e => htt (Eq.symm e)
      have hne5 : ¬ C.eqL ⟨u, tt, rr, nn⟩ ⟨x, t, r, n⟩ = true := fun e => htt ((C.eqL_is _ _).1 e).1
      by_cases hlt : t < tt
      · have k2 : decide (t < tt) = true := decide_eq_true hlt
        have hnl : C.ltL ⟨u, tt, rr, nn⟩ ⟨x, t, r, n⟩ = false := by
          cases hq : C.ltL ⟨u, tt, rr, nn⟩ ⟨x, t, r, n⟩ with
          | false => rfl
          | true => have := (C.ltL_is _ _).1 hq; simp only at this; omega
        have HW : Hid _ := HNO.out hnl 0 (HE0.out (Or.inl hne5))
        clear HWR HNO HE0 HE5 hne5 HDL hnl
        go_wp2_with fail
        refine wp_region_new (by kernel_rfl) (by kernel_rfl) ?_
        repeat (go_big_quiet_step (fail))
        refine wpQuiet_nil ?_
        rintro _ ⟨w3, rfl⟩
        go_wp2_with fail
        refine wp_region_more (n := w3) (by kernel_rfl) (by kernel_rfl) ?_
        repeat (go_big_quiet_step (fail))
        refine wpQuiet_nil ?_
        rintro _ ⟨w4, rfl⟩
        clear c0 c1 c2 c3 c4 d0 d1 hne k1 k1b k2 kq
        have HF : Hid _ := HW.out w4.v w4.h
        go_wp2
        exact bodyPost_ret (v := .tuple #[.bool false, .int .i64 0]) (by simp [results, Try.results17, go_sem]) rfl HF.out
      · have k2 : decide (t < tt) = false := decide_eq_false hlt
        have HW : Hid _ := HWR.out ((C.ltL_is _ _).2 (by simp only; omega))
        clear HWR HNO HE0 HE5 hne5 HDL
        go_wp2_with fail
        refine wp_region_new (by kernel_rfl) (by kernel_rfl) ?_
        repeat (go_big_quiet_step (fail))
        refine wpQuiet_nil ?_
        rintro _ ⟨w3, rfl⟩
        go_wp2_with fail
        refine wp_region_more (n := w3) (by kernel_rfl) (by kernel_rfl) ?_
        repeat (go_big_quiet_step (fail))
        refine wpQuiet_nil ?_
        rintro _ ⟨w4, rfl⟩
        clear c0 c1 c2 c3 c4 d0 d1 hne k1 k1b k2 kq
        have HF : Hid _ := HW.out w4.v w4.h
        obtain ⟨he4, ⟨d0, d1⟩, -⟩ := HSW.out w4.v w4.h
        obtain ⟨q0, q1, q2, q3, q4⟩ := cells5_at he4
        have f0 := he4.fz 0
        have f1 := he4.fz 1
        have f2 := he4.fz 2
        have f3 := he4.fz 3
        have f4 := he4.fz 4
        clear he4
        go_wp2
        exact bodyPost_ret (v := .tuple #[.bool true, .int .i64 0]) (by simp [results, Try.results17, go_sem]) rfl HF.out
theorem dwrite_any (w : World) (g : Nat) (S a : C.La) (h : EAt w g true S) (hS : S.Ok) (hx : a.x.size ≤ maxLen) :
    Calls Try.prog 17 #[.pointer (some ⟨g, 0, none⟩), .string a.x, .int .i64 a.t, .agg #[.int .i64 a.r, .int .i64 a.n]] w (DPost w g S a) := by
  cases hb : C.badL a with
  | false => exact dwrite_ok w g S a h hS hb
  | true =>
    refine (dwrite_bad w g a hb hx).mono ?_
    rintro e w' ⟨rfl, hw⟩
    refine ⟨?_, ?_, Turn.of_below hw⟩
    · simp [C.didL, C.errL, hb]
    · have : C.wrL S a = S := by simp [C.wrL, hb]
      rw [this]; exact h.below hw
end Go.Proofs.Ytebfhomopdnkkaa
