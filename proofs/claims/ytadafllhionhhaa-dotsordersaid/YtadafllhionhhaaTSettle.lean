/-
  slices.Compact at any row; dots.settle.
-/
import Derived.Test.YtadafllhionhhaaTComp2
namespace Go.Proofs.Ytadafllhionhhaa
open Go.RowKit Go.Lib
set_option linter.unusedVariables false

theorem compact_any (v : Value) (l : List C.Dt) (w : World) (h : OwnD w v l) (hl : l.length ≤ 1000000) :
    Calls Try.prog 53 #[v] w fun e w' => ∃ v', e = .returned v' ∧ OwnD w' v' (C.dd l) ∧ v'.ownBlock = v.ownBlock ∧ Turn w w' (fun b => v.ownBlock = some b) := by
  by_cases h2 : 2 ≤ l.length
  · rcases h.shape with ⟨rfl, rfl⟩ | ⟨g, cap, cur, rfl, _⟩
    · simp at h2
    · refine (compact_some g cap l w h hl h2).mono ?_
      rintro e w' ⟨m, rfl, _, h3, h4⟩
      exact ⟨_, rfl, h3, rfl, h4.mono fun b hb => by rw [hb]; rfl⟩
  · have e : C.dd l = l := C.dd_one l (by omega)
    obtain ⟨q, c, hv⟩ := h.len
    rw [e]
    have HO : Hid (OwnD w v l) := h
    subst hv
    clear h e
    generalize l.length = n at *
    go_enter Try.func53, Try.ntmps53
    go_wp2
    go_ret
    exact ⟨_, rfl, HO.out, rfl, Turn.refl _ _⟩
def cells7 (c : V7) : Array Value := #[.int .i64 c.x0, .int .i64 c.x1, .int .i64 c.x2, .int .i64 c.x3, .int .i64 c.x4, .int .i64 c.x5, .int .i64 c.x6]
theorem get_cells7 (c : V7) {k : Nat} (h : k < 7) : (cells7 c)[k]? = some (.int .i64 (C.at7 c k)) := by
  rcases C.seven h with rfl | rfl | rfl | rfl | rfl | rfl | rfl <;> rfl
theorem set_cells7 (c : V7) {k : Nat} (h : k < 7) : (cells7 c).setIfInBounds k (.int .i64 (C.at7 c k + 1)) = cells7 (C.inc c k) := by
  rcases C.seven h with rfl | rfl | rfl | rfl | rfl | rfl | rfl <;> rfl
namespace C
theorem settle_has {c : V7} {l : List Dt} {k : Nat} {x : Dt} (hx : l[k]? = some x) (h : hasd c x = true) : settleL c (l.drop k) = settleL c (l.drop (k + 1)) := by
  obtain ⟨hk, rfl⟩ := List.getElem?_eq_some_iff.1 hx
  rw [List.drop_eq_getElem_cons hk, settleL, if_pos h]
theorem settle_next {c : V7} {l : List Dt} {k : Nat} {x : Dt} (hx : l[k]? = some x) (h : hasd c x = false) (h2 : nextd c x = true) : settleL c (l.drop k) = settleL (inc c x.1.toNat) (l.drop (k + 1)) := by
  obtain ⟨hk, rfl⟩ := List.getElem?_eq_some_iff.1 hx
  rw [List.drop_eq_getElem_cons hk, settleL, if_neg (by rw [h]; simp), if_pos h2]
theorem settle_loose {c : V7} {l : List Dt} {k : Nat} {x : Dt} (hx : l[k]? = some x) (h : hasd c x = false) (h2 : nextd c x = false) : settleL c (l.drop k) = ((settleL c (l.drop (k + 1))).1, x :: (settleL c (l.drop (k + 1))).2) := by
  obtain ⟨hk, rfl⟩ := List.getElem?_eq_some_iff.1 hx
  rw [List.drop_eq_getElem_cons hk, settleL, if_neg (by rw [h]; simp), if_neg (by rw [h2]; simp)]
end C
set_option maxRecDepth 100000 in
set_option maxHeartbeats 8000000 in
theorem settle_any (c : V7) (v : Value) (l : List C.Dt) (w : World) (h : OwnD w v l) (hl : l.length ≤ 1000000) (hg : C.good c = true) (hm : ∀ d ∈ l, C.may d = true) :
    Calls Try.prog 51 #[c.v, v] w fun e w' => (∃ v', e = .returned (.tuple #[(C.settleL c l).1.v, v']) ∧ OwnD w' v' (C.settleL c l).2 ∧ Fresh w v') ∧ Below w.heap.size w w' := by
  obtain ⟨q, cp, hv⟩ := h.len
  subst hv
  obtain ⟨n, hn⟩ : ∃ n, n = l.length := ⟨_, rfl⟩
  have HN : Hid (n = l.length) := hn
  have HO : Hid (OwnD w (.slice q n cp) l) := by show OwnD _ _ _; rw [hn]; exact h
  have HM : Hid (∀ d ∈ l, C.may d = true) := hm
  have HG : Hid (C.good c = true) := hg
  rw [← hn] at hl ⊢
  obtain ⟨R, hR⟩ : ∃ R, R = C.settleL c l := ⟨_, rfl⟩
  have HR : Hid (R = C.settleL c (l.drop 0)) := hR
  rw [← hR]
  have HB0 : Hid (Below w.heap.size w ((w.alloc (.cells (cells7 c) 43)).alloc (.cells (cells7 ⟨0, 0, 0, 0, 0, 0, 0⟩) 43))) := bt (below_new _ _) (below_new _ _)
  have HQ0 : Hid (((w.alloc (.cells (cells7 c) 43)).alloc (.cells (cells7 ⟨0, 0, 0, 0, 0, 0, 0⟩) 43)).heap[w.heap.size]? = some (.cells (cells7 c) 43)) := (two_boxes w _ _ (Below.refl _ _)).1
  have HQ1 : Hid (((w.alloc (.cells (cells7 c) 43)).alloc (.cells (cells7 ⟨0, 0, 0, 0, 0, 0, 0⟩) 43)).heap[w.heap.size + 1]? = some (.cells (cells7 ⟨0, 0, 0, 0, 0, 0, 0⟩) 43)) := (two_boxes w _ _ (Below.refl _ _)).2
  clear h hm hg hn hR
  have hcv : c.v = .agg (cells7 c) := rfl
  obtain ⟨x0, x1, x2, x3, x4, x5, x6⟩ := c
  simp only [cells7] at HB0 HQ0 HQ1
  rw [hcv]
  clear hcv
  simp only [cells7]
  go_enter Try.func51, Try.ntmps51
  go_wp2_with fail
  have hsz0 : ((w.alloc (.cells #[.int .i64 x0, .int .i64 x1, .int .i64 x2, .int .i64 x3, .int .i64 x4, .int .i64 x5, .int .i64 x6] 43)).alloc (.cells #[.int .i64 0, .int .i64 0, .int .i64 0, .int .i64 0, .int .i64 0, .int .i64 0, .int .i64 0] 43)).heap.size = w.heap.size + 2 := by simp
  have HSZ : Hid _ := hsz0
  clear hsz0
  generalize (w.alloc (.cells #[.int .i64 x0, .int .i64 x1, .int .i64 x2, .int .i64 x3, .int .i64 x4, .int .i64 x5, .int .i64 x6] 43)).alloc (.cells #[.int .i64 0, .int .i64 0, .int .i64 0, .int .i64 0, .int .i64 0, .int .i64 0, .int .i64 0] 43) = W0 at *
  go_loopw [6, 11] (fun s6 s11 wr => ∃ (k : Nat) (ck : V7) (lk : List C.Dt), s11 = .int .i64 k ∧ k ≤ n ∧ Hid (R = ((C.settleL ck (l.drop k)).1, lk ++ (C.settleL ck (l.drop k)).2)) ∧ Hid (C.good ck = true) ∧ Hid (lk.length ≤ k) ∧ Hid (OwnD wr s6 lk) ∧ Hid (Fresh W0 s6) ∧ Hid (wr.heap[w.heap.size]? = some (.cells (cells7 ck) 43)) ∧ Hid (Turn W0 wr (fun b => b = w.heap.size))) (fun _ s11 _ => n - (intOf s11).toNat)
  case atStart => exact ⟨0, _, [], rfl, Nat.zero_le _, by show R = _; rw [HR.out]; rfl, HG.out, Nat.le_refl _, OwnD.nil _, fun b hb => (by cases hb), HQ0.out, Turn.refl _ _⟩
  case round =>
    clear HR HG HQ0
    obtain ⟨k, ck, lk, rfl, hkn, HK, HC, HLK, HOK, HFK, HQ, HT⟩ := hrel
    have HOW : Hid (OwnD wr (.slice q n cp) l) := (HO.out.below HB0.out).same fun b hb => HT.out.block b (row_lt (HO.out.below HB0.out) hb) fun e => by have := row_lt HO.out hb; omega
    by_cases hlt : k < n
    · obtain ⟨x, hx⟩ : ∃ x, l[k]? = some x := ⟨_, List.getElem?_eq_getElem (by have := HN.out; omega)⟩
      have hmx := (C.may_iff x).1 (HM.out x (List.mem_of_getElem? hx))
      obtain ⟨gb, cap, hvs⟩ := OwnD.at HOW.out (by have := HN.out; omega)
      cases hvs
      obtain ⟨a0, a1⟩ := OwnD.cell HOW.out k x hx
      have HX : Hid (l[k]? = some x) := hx
      clear hx
      have hga := C.good_at7 HC.out x.1.toNat
      obtain ⟨hs, hhs⟩ : ∃ hs, C.hasd ck x = hs := ⟨_, rfl⟩
      obtain ⟨nx, hnx⟩ : ∃ nx, C.nextd ck x = nx := ⟨_, rfl⟩
      have HHS : Hid (C.hasd ck x = hs) := hhs
      have HNX : Hid (C.nextd ck x = nx) := hnx
      obtain ⟨d1, d2⟩ := x
      simp only at a0 a1 hmx hga
      have HH : Hid (∀ W, Calls Try.prog 29 #[ck.v, .agg #[.int .i64 d1, .int .i64 d2]] W fun e w' => e = .returned (.bool hs) ∧ Below W.heap.size W w') := fun W => has_at hhs W
      have HI : Hid (∀ W, Calls Try.prog 31 #[ck.v, .agg #[.int .i64 d1, .int .i64 d2]] W fun e w' => e = .returned (.bool nx) ∧ Below W.heap.size W w') := fun W => isnext_any ck d1 d2 nx W hmx.1 hmx.2.1 (by omega) hnx
      clear hhs hnx
      obtain ⟨W1, hW1⟩ : ∃ W1, W1 = wr.alloc (.cells #[.int .i64 d1, .int .i64 d2] 29) := ⟨_, rfl⟩
      have HB1 : Hid (Below wr.heap.size wr W1) := by show Below _ _ _; rw [hW1]; exact below_new _ _
      have HD1 : Hid (W1.heap[wr.heap.size]? = some (.cells #[.int .i64 d1, .int .i64 d2] 29)) := by show _ = _; rw [hW1]; exact heap_alloc_new _ _
      have q1 := keep_on HB1.out HQ.out
      obtain ⟨y0, y1, y2, y3, y4, y5, y6⟩ := ck
      obtain ⟨b0, b1, b2, b3, b4, b5, b6⟩ := box7 q1
      obtain ⟨z0, z1⟩ := box2 HD1.out
      have HQ1' : Hid _ := q1
      clear q1
      rw [hW1] at b0 b1 b2 b3 b4 b5 b6 z0 z1
      simp only [V7.v] at HH HI
      go_wp2_with fail
      rw [← hW1]
      clear a0 a1
      refine (HH.out _).mono ?_
      rintro e w2 ⟨rfl, hb2⟩
      have HB2 : Hid (Below wr.heap.size wr w2) := bt HB1.out hb2
      have HD2 : Hid (w2.heap[wr.heap.size]? = some (.cells #[.int .i64 d1, .int .i64 d2] 29)) := keep_on hb2 HD1.out
      have HQ2 : Hid _ := keep_on HB2.out HQ.out
      clear hb2 b0 b1 b2 b3 b4 b5 b6 z0 z1 HB1 HD1 HQ1' hW1
      cases hs with
      | true =>
        go_wp2
        go_roundw
        case rel =>
          exact ⟨k + 1, _, lk, by go_num, by omega, by show R = _; rw [HK.out, C.settle_has HX.out HHS.out], HC.out, Nat.le_succ_of_le HLK.out, HOK.out.below HB2.out, HFK.out, HQ2.out, HT.out.trans (Turn.of_below HB2.out) fun x hx => Or.inl hx⟩
        case measure => simp [intOf]; omega
      | false =>
        obtain ⟨b0, b1, b2, b3, b4, b5, b6⟩ := box7 HQ2.out
        obtain ⟨z0, z1⟩ := box2 HD2.out
        go_wp2_with fail
        refine (HI.out _).mono ?_
        rintro e w3 ⟨rfl, hb3⟩
        have HB3 : Hid (Below wr.heap.size wr w3) := bt HB2.out hb3
        have HD3 : Hid (w3.heap[wr.heap.size]? = some (.cells #[.int .i64 d1, .int .i64 d2] 29)) := keep_on hb3 HD2.out
        have HQ3 : Hid (w3.heap[w.heap.size]? = some (.cells (cells7 ⟨y0, y1, y2, y3, y4, y5, y6⟩) 43)) := keep_on HB3.out HQ.out
        clear hb3 b0 b1 b2 b3 b4 b5 b6 z0 z1 HB2 HD2 HQ2
        obtain ⟨z0, z1⟩ := box2 HD3.out
        cases nx with
        | true =>
          have hr7 : d1.toNat < 7 := by omega
          have hrx : d1 = (d1.toNat : Nat) := by omega
          have HX2 : Hid (C.settleL ⟨y0, y1, y2, y3, y4, y5, y6⟩ (l.drop k) = C.settleL (C.inc ⟨y0, y1, y2, y3, y4, y5, y6⟩ d1.toNat) (l.drop (k + 1))) := C.settle_next HX.out HHS.out HNX.out
          have HC2 : Hid (C.good (C.inc ⟨y0, y1, y2, y3, y4, y5, y6⟩ d1.toNat) = true) := C.good_inc HC.out hr7 (by have h1 := (C.nextd_iff _ _).1 HNX.out; have h2 := hmx.2.2.2; simp only at h1; omega)
          clear HX HHS HNX HH HI
          generalize d1.toNat = r at *
          subst hrx
          obtain ⟨y, hy⟩ : ∃ y, C.at7 ⟨y0, y1, y2, y3, y4, y5, y6⟩ r = y := ⟨_, rfl⟩
          rw [hy] at hga
          have cr : w3.cell? ⟨w.heap.size, r, none⟩ = some (.int .i64 y) := by rw [box_cells HQ3.out r, get_cells7 _ hr7, hy]
          have fr : w3.frozen? ⟨w.heap.size, r, none⟩ = false := by simp [World.frozen?, HQ3.out]
          have hr7' : (r : Int) < 7 := by omega
          have HY : Hid (C.at7 ⟨y0, y1, y2, y3, y4, y5, y6⟩ r = y) := hy
          clear hy
          go_wp2
          go_roundw
          case rel =>
            refine ⟨k + 1, _, lk, by go_num, by omega, by show R = _; rw [HK.out, HX2.out], HC2.out, Nat.le_succ_of_le HLK.out, ?_, HFK.out, ?_, ?_⟩
            · exact (HOK.out.below HB3.out).same fun b hb => set_other fun e => by have h1 := HFK.out b hb; have h2 := HSZ.out; omega
            · show _ = _
              rw [← HY.out, ← set_cells7 _ hr7]; exact set_block HQ3.out
            · exact (HT.out.trans (Turn.of_below HB3.out) fun x hx => Or.inl hx).setCell rfl _
          case measure => simp [intOf]; omega
        | false =>
          have HX2 : Hid (C.settleL ⟨y0, y1, y2, y3, y4, y5, y6⟩ (l.drop k) = ((C.settleL ⟨y0, y1, y2, y3, y4, y5, y6⟩ (l.drop (k + 1))).1, (d1, d2) :: (C.settleL ⟨y0, y1, y2, y3, y4, y5, y6⟩ (l.drop (k + 1))).2)) := C.settle_loose HX.out HHS.out HNX.out
          clear HX HHS HNX HH HI
          go_wp2_with (at_builtin; go_must (refine wpList_append_src u_dots info_dot rfl (by decide) rfl _ _ rfl rfl ((HOK.out.below HB3.out).below (below_new w3 _)) rfl (two_src (heap_alloc_new w3 (.cells #[.int .i64 d1, .int .i64 d2] 29))) two_mem (by have := HLK.out; unfold maxLen; omega) (by have := HLK.out; omega) ?_); intro v4 w4 ho4 hg4 hb4)
          have HO4 : Hid (OwnD w4 v4 (lk ++ [(d1, d2)])) := by show OwnD _ _ _; unfold OwnD; rw [← rowD_append]; simpa using ho4
          have hB3 := HB3.out.size
          have hTS := HT.out.size
          have HF4 : Hid (Fresh W0 v4) := fun b hb => by
            rcases hb4 with h | h
            · exact HFK.out b (h.symm.trans hb)
            · rw [h] at hb; cases hb; simp only [World.size_alloc]; omega
          have HT4 : Hid (Turn W0 w4 (fun b => b = w.heap.size)) := by
            have t1 := HT.out.trans (Turn.of_below (S := fun b => b = w.heap.size) HB3.out) fun x hx => Or.inl hx
            have t2 := t1.alloc (.cells #[.int .i64 d1, .int .i64 d2] 29)
            exact t2.trans (Turn.of_grown (S := fun b => u6.ownBlock = some b) hg4 fun b hb => hb) fun x hx => Or.inr (HFK.out x hx)
          have HQ4 : Hid (w4.heap[w.heap.size]? = some (.cells (cells7 ⟨y0, y1, y2, y3, y4, y5, y6⟩) 43)) := by
            show _ = _
            have h1 := keep_on (below_new w3 (.cells #[.int .i64 d1, .int .i64 d2] 29)) HQ3.out
            rw [hg4.block _ (Array.getElem?_eq_some_iff.1 h1).1 (fun e => by have h2 := HFK.out w.heap.size e.symm; have h3 := HSZ.out; omega)]
            exact h1
          clear ho4 hg4 hb4 hB3 hTS
          go_wp2
          go_roundw
          case rel =>
            refine ⟨k + 1, _, lk ++ [(d1, d2)], by go_num, by omega, ?_, HC.out, by have := HLK.out; show _ ≤ _; simp; omega, HO4.out, HF4.out, HQ4.out, HT4.out⟩
            show R = _
            rw [HK.out, HX2.out]; simp
          case measure => simp [intOf]; omega
    · obtain rfl : k = n := by omega
      have HE : Hid (R = (ck, lk)) := by
        show R = _
        rw [HK.out, List.drop_eq_nil_of_le (by rw [← HN.out]; exact Nat.le_refl _)]
        simp [C.settleL]
      have HQz : Hid (wr.heap[w.heap.size + 1]? = some (.cells (cells7 ⟨0, 0, 0, 0, 0, 0, 0⟩) 43)) := by
        show _ = _
        rw [HT.out.block _ (Array.getElem?_eq_some_iff.1 HQ1.out).1 (by omega)]; exact HQ1.out
      obtain ⟨y0, y1, y2, y3, y4, y5, y6⟩ := ck
      obtain ⟨b0, b1, b2, b3, b4, b5, b6⟩ := box7 HQ.out
      obtain ⟨z0, z1, z2, z3, z4, z5, z6⟩ := box7 HQz.out
      obtain ⟨f0, f1, f2, f3, f4, f5, f6⟩ : wr.frozen? ⟨w.heap.size + 1, 0, none⟩ = false ∧ wr.frozen? ⟨w.heap.size + 1, 1, none⟩ = false ∧ wr.frozen? ⟨w.heap.size + 1, 2, none⟩ = false ∧ wr.frozen? ⟨w.heap.size + 1, 3, none⟩ = false ∧ wr.frozen? ⟨w.heap.size + 1, 4, none⟩ = false ∧ wr.frozen? ⟨w.heap.size + 1, 5, none⟩ = false ∧ wr.frozen? ⟨w.heap.size + 1, 6, none⟩ = false := by simp [World.frozen?, HQz.out]
      go_wp2
      generalize hW : World.setCell _ _ _ = W5
      have hq : W5.heap[w.heap.size + 1]? = some (.cells (cells7 ⟨y0, y1, y2, y3, y4, y5, y6⟩) 43) := by
        rw [← hW]
        exact (set_block (set_block (set_block (set_block (set_block (set_block (set_block HQz.out)))))))
      have HT5 : Turn W0 W5 (fun b => b = w.heap.size ∨ b = w.heap.size + 1) := by
        rw [← hW]
        iterate 7 refine Turn.setCell (b := w.heap.size + 1) ?_ (Or.inr rfl) _
        exact HT.out.mono fun b hb => Or.inl hb
      have HO5 : OwnD W5 u6 lk := HOK.out.same fun b hb => by
        have h1 := HFK.out b hb
        have h2 := HSZ.out
        have hne : b ≠ w.heap.size + 1 := by omega
        rw [← hW, set_other hne, set_other hne, set_other hne, set_other hne, set_other hne, set_other hne, set_other hne]
      have hB5 : Below w.heap.size w W5 := HB0.out.trans (HT5.below HB0.out.size fun b hb => by omega)
      obtain ⟨c0, c1, c2, c3, c4, c5, c6⟩ := box7 hq
      clear hW b0 b1 b2 b3 b4 b5 b6 z0 z1 z2 z3 z4 z5 z6 f0 f1 f2 f3 f4 f5 f6
      refine bodyPost_ret (v := .tuple #[.agg #[.int .i64 y0, .int .i64 y1, .int .i64 y2, .int .i64 y3, .int .i64 y4, .int .i64 y5, .int .i64 y6], u6]) (by simp [results, Try.results51, go_sem, c0, c1, c2, c3, c4, c5, c6]) rfl ⟨⟨u6, ?_, ?_, fun b hb => ?_⟩, hB5⟩
      · rw [HE.out]; rfl
      · rw [HE.out]; exact HO5
      · have := HFK.out b hb; have := HB0.out.size; omega
end Go.Proofs.Ytadafllhionhhaa
