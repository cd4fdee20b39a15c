/-
  The document's own set: Remove.
-/
import Derived.Test.YtoglhhoniojbaaaQAdd
namespace Go.Proofs.Ytoglhhoniojbaaa
open Go.RowKit Go.Lib
set_option linter.unusedVariables false
set_option linter.unusedSimpArgs false

namespace C
/-- The first j of a row marked. -/
structure Mk (x : Tx) (v : V7) (l : List AddE) (j : Nat) (t : List AddE) : Prop where
  len : t.length = l.length
  at_ : ∀ i, t[i]? = (l[i]?).map fun e => if i < j then markE x v e else e
theorem Mk.start (x : Tx) (v : V7) (l : List AddE) : Mk x v l 0 l := ⟨rfl, fun i => by simp⟩
theorem Mk.step {x : Tx} {v : V7} {l t : List AddE} {j : Nat} {e : AddE} (h : Mk x v l j t) (he : l[j]? = some e) : Mk x v l (j + 1) (t.set j (markE x v e)) := by
  refine ⟨by rw [List.length_set]; exact h.len, fun i => ?_⟩
  have hj : j < t.length := by rw [h.len]; exact (List.getElem?_eq_some_iff.1 he).1
  by_cases hij : j = i
  · subst hij
    rw [List.getElem?_set_self hj, he]
    simp
  · rw [List.getElem?_set_ne hij, h.at_ i]
    congr 1
    funext z
    by_cases h1 : i < j
    · rw [if_pos h1, if_pos (by omega)]
    · rw [if_neg h1, if_neg (by omega)]
theorem Mk.done {x : Tx} {v : V7} {l t : List AddE} (h : Mk x v l l.length t) : t = l.map (markE x v) := by
  refine List.ext_getElem? fun i => ?_
  rw [h.at_ i, List.getElem?_map]
  cases hl : l[i]? with
  | none => rfl
  | some e => simp [(List.getElem?_eq_some_iff.1 hl).1]
theorem Mk.elem {x : Tx} {v : V7} {l t : List AddE} {j : Nat} {e : AddE} (h : Mk x v l j t) (he : l[j]? = some e) : t[j]? = some e := by
  rw [h.at_ j, he]; simp
end C
theorem copied {W5 w7 : World} {v7 : Value} {l : List C.AddE} {n : Nat} (hn : n = l.length) (hrow : w7.ownsRow 0 82 4 v7 (0 + l.length) ([] ++ rowG encE l)) (hgrow : (W5.alloc (.cells #[] 82)).grownBy w7 (Value.slice (some ⟨W5.heap.size, 0, none⟩) 0 0).ownBlock) (hbl : v7.ownBlock = (Value.slice (some ⟨W5.heap.size, 0, none⟩) 0 0).ownBlock ∨ v7.ownBlock = some (W5.alloc (.cells #[] 82)).heap.size) :
    ∃ p7 c7, v7 = .slice p7 n c7 ∧ Hid (0 < n → ∃ g, p7 = some ⟨g, 0, none⟩) ∧ Hid (∀ b, (Value.slice p7 n c7).ownBlock = some b → W5.heap.size ≤ b) ∧ Hid (Below W5.heap.size W5 w7) ∧ Hid (OwnE w7 (.slice p7 n c7) l) := by
  have hf7 : ∀ b, v7.ownBlock = some b → W5.heap.size ≤ b := fun b hb => by
    rcases hbl with h1 | h1
    · have h2 := h1.symm.trans hb
      cases h2; exact Nat.le_refl _
    · have h2 := h1.symm.trans hb
      cases h2; exact (below_new W5 _).size
  have hb7 : Below W5.heap.size W5 w7 := bel_grown (below_new W5 _) hgrow fun b hb => by cases hb; exact Nat.le_refl _
  have hO7 : OwnE w7 v7 l := by show World.ownsRow _ _ _ _ _ _ _; simpa using hrow
  obtain ⟨p7, c7, hv7, hp7⟩ := OwnG.slice hO7
  subst hn
  subst hv7
  exact ⟨p7, c7, rfl, hp7, hf7, hb7, hO7⟩
theorem enc_mark (x : Tx) (v : V7) (e : C.AddE) : encE (C.markE x v e) = (encE e).set 3 (.bool (e.gone || (decide (e.x = x) && C.has v e.d.1 e.d.2))) := rfl
set_option maxRecDepth 100000 in
set_option maxHeartbeats 16000000 in
theorem qrem_any (w : World) (g : Nat) (vl vr : Value) (R : C.Rf) (x : Tx) (v : V7) (h : RsAt w g vl vr R) (hx : x.size ≤ maxLen) (hl : R.l.length ≤ 1000 ∧ R.r.length ≤ 1000) :
    Calls Try.prog 17 #[.pointer (some ⟨g, 0, none⟩), .string x, v.v] w fun e w' => e = .returned (.int .i64 (C.errR x v)) ∧ RsRet w g vl vr (C.remF R x v) w' := by
  obtain ⟨gv, hgv⟩ : ∃ gv, gv = w.heap.size := ⟨_, rfl⟩
  obtain ⟨zg, hzg⟩ : ∃ zg, C.good v = zg := ⟨_, rfl⟩
  have HG : Hid (∀ W, Calls Try.prog 46 #[v.v] W fun e w' => e = .returned (.bool zg) ∧ Below W.heap.size W w') := fun W => by rw [← hzg]; exact rgood_any v W
  have HZG : Hid (C.good v = zg) := hzg
  clear hzg
  obtain ⟨v0, v1, v2, v3, v4, v5, v6⟩ := v
  simp only [V7.v] at HG ⊢
  obtain ⟨W1, hW1⟩ : ∃ W1, W1 = w.alloc (.cells #[.int .i64 v0, .int .i64 v1, .int .i64 v2, .int .i64 v3, .int .i64 v4, .int .i64 v5, .int .i64 v6] 44) := ⟨_, rfl⟩
  have HB1 : Hid (Below w.heap.size w W1) := by show Below _ _ _; rw [hW1]; exact below_new _ _
  have HD1 : Hid (W1.heap[gv]? = some (.cells #[.int .i64 v0, .int .i64 v1, .int .i64 v2, .int .i64 v3, .int .i64 v4, .int .i64 v5, .int .i64 v6] 44)) := by show _ = _; rw [hW1, hgv]; exact heap_alloc_new _ _
  have HS : Hid (RsAt w g vl vr R) := h
  have HX : Hid (x.size ≤ maxLen) := hx
  have hxm : x.size ≤ 9223372036854775807 := by unfold maxLen at hx; omega
  have HL : Hid (R.l.length ≤ 1000 ∧ R.r.length ≤ 1000) := hl
  have hnev : gv ≠ g := fun e => by have := h.lt (Or.inl rfl); omega
  obtain ⟨pl, cl, hvl, hpl⟩ := h.lo.slice
  obtain ⟨pr, cr, hvr, hpr⟩ := h.ro.slice
  obtain ⟨n, hn⟩ : ∃ n, n = R.l.length := ⟨_, rfl⟩
  obtain ⟨m, hm⟩ : ∃ m, m = R.r.length := ⟨_, rfl⟩
  rw [← hn] at hvl
  rw [← hm] at hvr
  have HN : Hid (n = R.l.length) := hn
  have HNM : Hid (m = R.r.length) := hm
  subst hvl hvr
  have hn1000 : n ≤ 1000 := by rw [hn]; exact hl.1
  have hm1000 : m ≤ 1000 := by rw [hm]; exact hl.2
  clear h hx hpl hpr hn hm hl
  obtain ⟨y0, y1, y2, y3, y4, y5, y6⟩ := box7 HD1.out
  go_enter Try.func17, Try.ntmps17
  by_cases hlong : 100 < x.size
  · have HR : Hid (C.errR x ⟨v0, v1, v2, v3, v4, v5, v6⟩ = 1 ∧ C.remF R x ⟨v0, v1, v2, v3, v4, v5, v6⟩ = R) := by
      have h1 : C.tooLong x = true := decide_eq_true hlong
      refine ⟨?_, ?_⟩
      · unfold C.errR; rw [if_neg (fun k => by rw [h1] at k; cases k.1)]
      · unfold C.remF; rw [if_neg (fun k => by rw [h1] at k; cases k.1)]
    go_wp2_with fail
    go_ret
    rw [HR.out.1, HR.out.2]
    first | exact ⟨rfl, RsRet.same HS.out (below_new _ _)⟩ | exact ⟨rfl, RsRet.same HS.out HB1.out⟩
  have HTL : Hid (C.tooLong x = false) := decide_eq_false hlong
  rw [hW1] at y0 y1 y2 y3 y4 y5 y6
  rw [hgv] at y0 y1 y2 y3 y4 y5 y6
  go_wp2_with fail
  rw [← hW1, ← hgv]
  clear y0 y1 y2 y3 y4 y5 y6 hW1 hgv
  refine (HG.out _).mono ?_
  rintro e w2 ⟨rfl, hb2⟩
  have HB2 : Hid (Below w.heap.size w w2) := bt HB1.out hb2
  have HD2 : Hid (w2.heap[gv]? = some (.cells #[.int .i64 v0, .int .i64 v1, .int .i64 v2, .int .i64 v3, .int .i64 v4, .int .i64 v5, .int .i64 v6] 44)) := keep_on hb2 HD1.out
  clear hb2 HG
  cases zg with
  | false =>
    have HR : Hid (C.errR x ⟨v0, v1, v2, v3, v4, v5, v6⟩ = 1 ∧ C.remF R x ⟨v0, v1, v2, v3, v4, v5, v6⟩ = R) := by
      have h1 := HZG.out
      refine ⟨?_, ?_⟩
      · unfold C.errR; rw [if_neg (fun k => by rw [h1] at k; cases k.2)]
      · unfold C.remF; rw [if_neg (fun k => by rw [h1] at k; cases k.2)]
    go_wp2
    go_ret
    rw [HR.out.1, HR.out.2]
    exact ⟨rfl, RsRet.same HS.out HB2.out⟩
  | true =>
    have HR : Hid (C.errR x ⟨v0, v1, v2, v3, v4, v5, v6⟩ = 0 ∧ C.remF R x ⟨v0, v1, v2, v3, v4, v5, v6⟩ = ⟨R.l.map (C.markE x ⟨v0, v1, v2, v3, v4, v5, v6⟩), R.r ++ [⟨x, ⟨v0, v1, v2, v3, v4, v5, v6⟩⟩]⟩) := by
      refine ⟨?_, ?_⟩
      · unfold C.errR; rw [if_pos ⟨HTL.out, HZG.out⟩]
      · unfold C.remF; rw [if_pos ⟨HTL.out, HZG.out⟩]
    obtain ⟨wc, hwc⟩ : ∃ wc, wc = w2 := ⟨_, rfl⟩
    subst hwc
    have HSW : Hid (∀ W, Below wc.heap.size wc W → RsAt W g (.slice pl n cl) (.slice pr m cr) R) := fun W hW => HS.out.below (bt HB2.out hW)
    have HSRC : Hid (∀ W, Below wc.heap.size wc W → SrcAt W 8 (.slice pr m cr) R.r.length (rowG encR R.r)) := fun W hW => (HSW.out W hW).ro.src
    go_upto_region 3 with fail
    go_cut [] from 9 (fun wd => RsRet w g (.slice pl n cl) (.slice pr m cr) ⟨R.l, R.r ++ [⟨x, ⟨v0, v1, v2, v3, v4, v5, v6⟩⟩]⟩ wd ∧ wd.heap[gv]? = some (.cells #[.int .i64 v0, .int .i64 v1, .int .i64 v2, .int .i64 v3, .int .i64 v4, .int .i64 v5, .int .i64 v6] 44))
    case first =>
      have hne : Nonempty (NewT wc g) := ⟨NewT.start wc g⟩
      have k0 : ∀ t : NewT wc g, t.v.cell? ⟨gv, 0, none⟩ = some (.int .i64 v0) := fun t => (box7 (t.block HD2.out hnev)).1
      have k1 : ∀ t : NewT wc g, t.v.cell? ⟨gv, 1, none⟩ = some (.int .i64 v1) := fun t => (box7 (t.block HD2.out hnev)).2.1
      have k2 : ∀ t : NewT wc g, t.v.cell? ⟨gv, 2, none⟩ = some (.int .i64 v2) := fun t => (box7 (t.block HD2.out hnev)).2.2.1
      have k3 : ∀ t : NewT wc g, t.v.cell? ⟨gv, 3, none⟩ = some (.int .i64 v3) := fun t => (box7 (t.block HD2.out hnev)).2.2.2.1
      have k4 : ∀ t : NewT wc g, t.v.cell? ⟨gv, 4, none⟩ = some (.int .i64 v4) := fun t => (box7 (t.block HD2.out hnev)).2.2.2.2.1
      have k5 : ∀ t : NewT wc g, t.v.cell? ⟨gv, 5, none⟩ = some (.int .i64 v5) := fun t => (box7 (t.block HD2.out hnev)).2.2.2.2.2.1
      have k6 : ∀ t : NewT wc g, t.v.cell? ⟨gv, 6, none⟩ = some (.int .i64 v6) := fun t => (box7 (t.block HD2.out hnev)).2.2.2.2.2.2
      have hC : ∃ m : NewT wc g, wc.drew = m.v := NewT.of g ((Below.refl _ wc).drew)
      refine wp_region_held_drew (S := fun w' => ∃ m : NewT wc g, w' = m.v) (by kernel_rfl) hC (fun _ => ?_)
      have hB : Below wc.heap.size wc wc.drew := (Below.refl _ wc).drew
      generalize hW0 : wc.drew = W0 at *
      clear hW0
      refine takeList (i := 0) rfl (by kernel_rfl) (by kernel_rfl) (by kernel_rfl) (fun _ _ _ _ h => h) rfl rfl hC (fun K hK => ?_)
      go_big_quiet_op
      refine hK _ ?_
      clear hK K
      refine takeList (i := 2) rfl (by kernel_rfl) (by kernel_rfl) (by kernel_rfl) (fun _ _ _ _ h => h) rfl rfl hC (fun K hK => ?_)
      go_big_quiet_op
      refine hK _ ?_
      clear hK K
      refine takeNil (i := 3) rfl rfl rfl (by kernel_rfl) (by kernel_rfl) (by kernel_rfl) (fun _ _ _ _ h => h) rfl hC ?_
      go_simp
      refine takeList (i := 4) rfl (by kernel_rfl) (by kernel_rfl) (by kernel_rfl) (fun _ _ _ _ h => h) rfl rfl hC (fun K hK => ?_)
      go_big_quiet_op
      refine hK _ ?_
      clear hK K
      refine takeList (i := 7) rfl (by kernel_rfl) (by kernel_rfl) (by kernel_rfl) (fun _ _ _ _ h => h) rfl rfl hC (fun K hK => ?_)
      go_big_quiet_op
      refine hK _ ?_
      clear hK K
      refine takeList (i := 8) rfl (by kernel_rfl) (by kernel_rfl) (by kernel_rfl) (fun _ _ _ _ h => h) rfl rfl hC (fun K hK => ?_)
      go_big_quiet_op
      refine hK _ ?_
      clear hK K
      refine takeList (i := 9) rfl (by kernel_rfl) (by kernel_rfl) (by kernel_rfl) (fun _ _ _ _ h => h) rfl rfl hC (fun K hK => ?_)
      go_big_quiet_op
      refine hK _ ?_
      clear hK K
      clear k0 k1 k2 k3 k4 k5 k6
      refine wpAnyH_ready (rs := [1, 5, 10]) (by kernel_rfl) (by simp) (AllReadyH.cons (at_of_drop (i := 1) rfl) (fun K hK => ?_) (AllReadyH.cons (at_of_drop (i := 5) rfl) (fun K hK => ?_) (AllReadyH.cons (at_of_drop (i := 10) rfl) (fun K hK => ?_) AllReadyH.nil)))
      · rw [if_pos (by rfl)]
        go_simp
        have hal := below_new W0 (.cells #[] 84)
        have hr := OwnG.empty (enc := encR) W0 84 8
        obtain ⟨vr, hvr⟩ : ∃ vr, Value.slice (some ⟨W0.heap.size, 0, none⟩) 0 0 = vr := ⟨_, rfl⟩
        have hrf : ∀ b, vr.ownBlock = some b → wc.heap.size ≤ b := fun b hb => by rw [← hvr] at hb; cases hb; exact hB.size
        rw [hvr] at hr ⊢
        replace hB := bt hB hal
        refine hK.out _ _ (NewT.of g hB) (fun hC => ?_)
        generalize World.alloc W0 (.cells #[] 84) = Wq1 at *
        clear hK K hal hvr
        refine wpAnyH_ready (rs := [5, 10]) (by kernel_rfl) (by simp) (AllReadyH.cons (at_of_drop (i := 5) rfl) (fun K hK => ?_) (AllReadyH.cons (at_of_drop (i := 10) rfl) (fun K hK => ?_) AllReadyH.nil))
        · rw [if_pos (by rfl)]
          have hg0 := (HSW.out _ hB).cells.2
          go_simp
          refine hK.out _ _ (NewT.of g hB) (fun hC => ?_)
          try go_simp
          clear hg0 hK K
          refine wpAnyH_ready (rs := [6, 10]) (by kernel_rfl) (by simp) (AllReadyH.cons (at_of_drop (i := 6) rfl) (fun K hK => ?_) (AllReadyH.cons (at_of_drop (i := 10) rfl) (fun K hK => ?_) AllReadyH.nil))
          · refine stepG u_rems info_rems (by rfl) (by decide) (by decide) encR_one (ns := R.r) rfl _ _ rfl rfl hr hrf hB rfl (HSRC.out _ hB) (by have := HL.out; simp <;> omega) ?_
            intro vr Wq2 hr hrf hB hk
            clear hk
            refine hK.out _ _ (NewT.of g hB) (fun hC => ?_)
            try go_simp
            clear hK K
            refine wpAnyH_ready (rs := [10]) (by kernel_rfl) (by simp) (AllReadyH.cons (at_of_drop (i := 10) rfl) (fun K hK => ?_) AllReadyH.nil)
            rw [if_pos (by rfl)]
            go_simp
            have hal := below_new Wq2 (.cells #[.string x, .int .i64 v0, .int .i64 v1, .int .i64 v2, .int .i64 v3, .int .i64 v4, .int .i64 v5, .int .i64 v6] 84)
            obtain ⟨vd, hvd⟩ : ∃ vd, Wq2.heap.size = vd := ⟨_, rfl⟩
            have hd := heap_alloc_new Wq2 (.cells #[.string x, .int .i64 v0, .int .i64 v1, .int .i64 v2, .int .i64 v3, .int .i64 v4, .int .i64 v5, .int .i64 v6] 84)
            have hdn : vr.ownBlock ≠ some vd := fun e => by have := OwnG.lt hr e; omega
            replace hr := OwnG.below hr hal
            rw [hvd] at hd ⊢
            replace hB := bt hB hal
            refine hK.out _ _ (NewT.of g hB) (fun hC => ?_)
            generalize World.alloc Wq2 (.cells #[.string x, .int .i64 v0, .int .i64 v1, .int .i64 v2, .int .i64 v3, .int .i64 v4, .int .i64 v5, .int .i64 v6] 84) = Wq3 at *
            clear hK K hal hvd
            refine wpAnyH_ready (rs := [11]) (by kernel_rfl) (by simp) (AllReadyH.cons (at_of_drop (i := 11) rfl) (fun K hK => ?_) AllReadyH.nil)
            refine stepG u_rems info_rems (by rfl) (by decide) (by decide) encR_one (ns := [⟨x, ⟨v0, v1, v2, v3, v4, v5, v6⟩⟩]) rfl _ _ rfl rfl hr hrf hB rfl (src_one (x := ⟨x, ⟨v0, v1, v2, v3, v4, v5, v6⟩⟩) encR_len hd) (by have := HL.out; simp <;> omega) ?_
            intro vr Wq4 hr hrf hB hk
            clear hk
            refine hK.out _ _ (NewT.of g hB) (fun hC => ?_)
            try go_simp
            clear hK K
            refine takeNil (i := 12) rfl rfl rfl (by kernel_rfl) (by kernel_rfl) (by kernel_rfl) (fun _ _ _ _ h => h) rfl hC ?_
            go_simp
            refine takeList (i := 13) rfl (by kernel_rfl) (by kernel_rfl) (by kernel_rfl) (fun _ _ _ _ h => h) rfl rfl hC (fun K hK => ?_)
            go_big_quiet_op
            refine hK _ ?_
            clear hK K
            obtain ⟨q9, c9, hv9, -⟩ := OwnG.slice hr
            subst hv9
            have hS9 := HSW.out _ hB
            have hg0 := hS9.cells.2
            have hf0 := hS9.fz 1
            refine callList (i := 14) rfl (by kernel_rfl) rfl (fun K hK => ?_)
            go_simp
            refine hK.out _ _ (NewT.set g 1 hB _) ?_
            clear hK K hC hS9 hg0 hf0
            refine wpAnyH_done (by kernel_rfl) ?_ _
            go_wp2_with fail
            go_meet
            case rel => exact ⟨RsRet.setR HS.out (bt HB2.out hB) (by simpa using hr) (fun b hb => Nat.le_trans HB2.out.size (hrf b (by simpa using hb))), (set_other hnev).trans (keep_on hB HD2.out)⟩
          · rw [if_pos (by rfl)]
            go_simp
            have hal := below_new Wq1 (.cells #[.string x, .int .i64 v0, .int .i64 v1, .int .i64 v2, .int .i64 v3, .int .i64 v4, .int .i64 v5, .int .i64 v6] 84)
            obtain ⟨vd, hvd⟩ : ∃ vd, Wq1.heap.size = vd := ⟨_, rfl⟩
            have hd := heap_alloc_new Wq1 (.cells #[.string x, .int .i64 v0, .int .i64 v1, .int .i64 v2, .int .i64 v3, .int .i64 v4, .int .i64 v5, .int .i64 v6] 84)
            have hdn : vr.ownBlock ≠ some vd := fun e => by have := OwnG.lt hr e; omega
            replace hr := OwnG.below hr hal
            rw [hvd] at hd ⊢
            replace hB := bt hB hal
            refine hK.out _ _ (NewT.of g hB) (fun hC => ?_)
            generalize World.alloc Wq1 (.cells #[.string x, .int .i64 v0, .int .i64 v1, .int .i64 v2, .int .i64 v3, .int .i64 v4, .int .i64 v5, .int .i64 v6] 84) = Wq2 at *
            clear hK K hal hvd
            refine wpAnyH_ready (rs := [6]) (by kernel_rfl) (by simp) (AllReadyH.cons (at_of_drop (i := 6) rfl) (fun K hK => ?_) AllReadyH.nil)
            refine stepG u_rems info_rems (by rfl) (by decide) (by decide) encR_one (ns := R.r) rfl _ _ rfl rfl hr hrf hB rfl (HSRC.out _ hB) (by have := HL.out; simp <;> omega) ?_
            intro vr Wq3 hr hrf hB hk
            replace hd := hk _ _ hd hdn
            clear hk
            refine hK.out _ _ (NewT.of g hB) (fun hC => ?_)
            try go_simp
            clear hK K
            refine wpAnyH_ready (rs := [11]) (by kernel_rfl) (by simp) (AllReadyH.cons (at_of_drop (i := 11) rfl) (fun K hK => ?_) AllReadyH.nil)
            refine stepG u_rems info_rems (by rfl) (by decide) (by decide) encR_one (ns := [⟨x, ⟨v0, v1, v2, v3, v4, v5, v6⟩⟩]) rfl _ _ rfl rfl hr hrf hB rfl (src_one (x := ⟨x, ⟨v0, v1, v2, v3, v4, v5, v6⟩⟩) encR_len hd) (by have := HL.out; simp <;> omega) ?_
            intro vr Wq4 hr hrf hB hk
            clear hk
            refine hK.out _ _ (NewT.of g hB) (fun hC => ?_)
            try go_simp
            clear hK K
            refine takeNil (i := 12) rfl rfl rfl (by kernel_rfl) (by kernel_rfl) (by kernel_rfl) (fun _ _ _ _ h => h) rfl hC ?_
            go_simp
            refine takeList (i := 13) rfl (by kernel_rfl) (by kernel_rfl) (by kernel_rfl) (fun _ _ _ _ h => h) rfl rfl hC (fun K hK => ?_)
            go_big_quiet_op
            refine hK _ ?_
            clear hK K
            obtain ⟨q9, c9, hv9, -⟩ := OwnG.slice hr
            subst hv9
            have hS9 := HSW.out _ hB
            have hg0 := hS9.cells.2
            have hf0 := hS9.fz 1
            refine callList (i := 14) rfl (by kernel_rfl) rfl (fun K hK => ?_)
            go_simp
            refine hK.out _ _ (NewT.set g 1 hB _) ?_
            clear hK K hC hS9 hg0 hf0
            refine wpAnyH_done (by kernel_rfl) ?_ _
            go_wp2_with fail
            go_meet
            case rel => exact ⟨RsRet.setR HS.out (bt HB2.out hB) (by simpa using hr) (fun b hb => Nat.le_trans HB2.out.size (hrf b (by simpa using hb))), (set_other hnev).trans (keep_on hB HD2.out)⟩
        · rw [if_pos (by rfl)]
          go_simp
          have hal := below_new Wq1 (.cells #[.string x, .int .i64 v0, .int .i64 v1, .int .i64 v2, .int .i64 v3, .int .i64 v4, .int .i64 v5, .int .i64 v6] 84)
          obtain ⟨vd, hvd⟩ : ∃ vd, Wq1.heap.size = vd := ⟨_, rfl⟩
          have hd := heap_alloc_new Wq1 (.cells #[.string x, .int .i64 v0, .int .i64 v1, .int .i64 v2, .int .i64 v3, .int .i64 v4, .int .i64 v5, .int .i64 v6] 84)
          have hdn : vr.ownBlock ≠ some vd := fun e => by have := OwnG.lt hr e; omega
          replace hr := OwnG.below hr hal
          rw [hvd] at hd ⊢
          replace hB := bt hB hal
          refine hK.out _ _ (NewT.of g hB) (fun hC => ?_)
          generalize World.alloc Wq1 (.cells #[.string x, .int .i64 v0, .int .i64 v1, .int .i64 v2, .int .i64 v3, .int .i64 v4, .int .i64 v5, .int .i64 v6] 84) = Wq2 at *
          clear hK K hal hvd
          refine wpAnyH_ready (rs := [5]) (by kernel_rfl) (by simp) (AllReadyH.cons (at_of_drop (i := 5) rfl) (fun K hK => ?_) AllReadyH.nil)
          rw [if_pos (by rfl)]
          have hg0 := (HSW.out _ hB).cells.2
          go_simp
          refine hK.out _ _ (NewT.of g hB) (fun hC => ?_)
          try go_simp
          clear hg0 hK K
          refine wpAnyH_ready (rs := [6]) (by kernel_rfl) (by simp) (AllReadyH.cons (at_of_drop (i := 6) rfl) (fun K hK => ?_) AllReadyH.nil)
          refine stepG u_rems info_rems (by rfl) (by decide) (by decide) encR_one (ns := R.r) rfl _ _ rfl rfl hr hrf hB rfl (HSRC.out _ hB) (by have := HL.out; simp <;> omega) ?_
          intro vr Wq3 hr hrf hB hk
          replace hd := hk _ _ hd hdn
          clear hk
          refine hK.out _ _ (NewT.of g hB) (fun hC => ?_)
          try go_simp
          clear hK K
          refine wpAnyH_ready (rs := [11]) (by kernel_rfl) (by simp) (AllReadyH.cons (at_of_drop (i := 11) rfl) (fun K hK => ?_) AllReadyH.nil)
          refine stepG u_rems info_rems (by rfl) (by decide) (by decide) encR_one (ns := [⟨x, ⟨v0, v1, v2, v3, v4, v5, v6⟩⟩]) rfl _ _ rfl rfl hr hrf hB rfl (src_one (x := ⟨x, ⟨v0, v1, v2, v3, v4, v5, v6⟩⟩) encR_len hd) (by have := HL.out; simp <;> omega) ?_
          intro vr Wq4 hr hrf hB hk
          clear hk
          refine hK.out _ _ (NewT.of g hB) (fun hC => ?_)
          try go_simp
          clear hK K
          refine takeNil (i := 12) rfl rfl rfl (by kernel_rfl) (by kernel_rfl) (by kernel_rfl) (fun _ _ _ _ h => h) rfl hC ?_
          go_simp
          refine takeList (i := 13) rfl (by kernel_rfl) (by kernel_rfl) (by kernel_rfl) (fun _ _ _ _ h => h) rfl rfl hC (fun K hK => ?_)
          go_big_quiet_op
          refine hK _ ?_
          clear hK K
          obtain ⟨q9, c9, hv9, -⟩ := OwnG.slice hr
          subst hv9
          have hS9 := HSW.out _ hB
          have hg0 := hS9.cells.2
          have hf0 := hS9.fz 1
          refine callList (i := 14) rfl (by kernel_rfl) rfl (fun K hK => ?_)
          go_simp
          refine hK.out _ _ (NewT.set g 1 hB _) ?_
          clear hK K hC hS9 hg0 hf0
          refine wpAnyH_done (by kernel_rfl) ?_ _
          go_wp2_with fail
          go_meet
          case rel => exact ⟨RsRet.setR HS.out (bt HB2.out hB) (by simpa using hr) (fun b hb => Nat.le_trans HB2.out.size (hrf b (by simpa using hb))), (set_other hnev).trans (keep_on hB HD2.out)⟩
      · rw [if_pos (by rfl)]
        have hg0 := (HSW.out _ hB).cells.2
        go_simp
        refine hK.out _ _ (NewT.of g hB) (fun hC => ?_)
        try go_simp
        clear hg0 hK K
        refine wpAnyH_ready (rs := [1, 10]) (by kernel_rfl) (by simp) (AllReadyH.cons (at_of_drop (i := 1) rfl) (fun K hK => ?_) (AllReadyH.cons (at_of_drop (i := 10) rfl) (fun K hK => ?_) AllReadyH.nil))
        · rw [if_pos (by rfl)]
          go_simp
          have hal := below_new W0 (.cells #[] 84)
          have hr := OwnG.empty (enc := encR) W0 84 8
          obtain ⟨vr, hvr⟩ : ∃ vr, Value.slice (some ⟨W0.heap.size, 0, none⟩) 0 0 = vr := ⟨_, rfl⟩
          have hrf : ∀ b, vr.ownBlock = some b → wc.heap.size ≤ b := fun b hb => by rw [← hvr] at hb; cases hb; exact hB.size
          rw [hvr] at hr ⊢
          replace hB := bt hB hal
          refine hK.out _ _ (NewT.of g hB) (fun hC => ?_)
          generalize World.alloc W0 (.cells #[] 84) = Wq1 at *
          clear hK K hal hvr
          refine wpAnyH_ready (rs := [6, 10]) (by kernel_rfl) (by simp) (AllReadyH.cons (at_of_drop (i := 6) rfl) (fun K hK => ?_) (AllReadyH.cons (at_of_drop (i := 10) rfl) (fun K hK => ?_) AllReadyH.nil))
          · refine stepG u_rems info_rems (by rfl) (by decide) (by decide) encR_one (ns := R.r) rfl _ _ rfl rfl hr hrf hB rfl (HSRC.out _ hB) (by have := HL.out; simp <;> omega) ?_
            intro vr Wq2 hr hrf hB hk
            clear hk
            refine hK.out _ _ (NewT.of g hB) (fun hC => ?_)
            try go_simp
            clear hK K
            refine wpAnyH_ready (rs := [10]) (by kernel_rfl) (by simp) (AllReadyH.cons (at_of_drop (i := 10) rfl) (fun K hK => ?_) AllReadyH.nil)
            rw [if_pos (by rfl)]
            go_simp
            have hal := below_new Wq2 (.cells #[.string x, .int .i64 v0, .int .i64 v1, .int .i64 v2, .int .i64 v3, .int .i64 v4, .int .i64 v5, .int .i64 v6] 84)
            obtain ⟨vd, hvd⟩ : ∃ vd, Wq2.heap.size = vd := ⟨_, rfl⟩
            have hd := heap_alloc_new Wq2 (.cells #[.string x, .int .i64 v0, .int .i64 v1, .int .i64 v2, .int .i64 v3, .int .i64 v4, .int .i64 v5, .int .i64 v6] 84)
            have hdn : vr.ownBlock ≠ some vd := fun e => by have := OwnG.lt hr e; omega
            replace hr := OwnG.below hr hal
            rw [hvd] at hd ⊢
            replace hB := bt hB hal
            refine hK.out _ _ (NewT.of g hB) (fun hC => ?_)
            generalize World.alloc Wq2 (.cells #[.string x, .int .i64 v0, .int .i64 v1, .int .i64 v2, .int .i64 v3, .int .i64 v4, .int .i64 v5, .int .i64 v6] 84) = Wq3 at *
            clear hK K hal hvd
            refine wpAnyH_ready (rs := [11]) (by kernel_rfl) (by simp) (AllReadyH.cons (at_of_drop (i := 11) rfl) (fun K hK => ?_) AllReadyH.nil)
            refine stepG u_rems info_rems (by rfl) (by decide) (by decide) encR_one (ns := [⟨x, ⟨v0, v1, v2, v3, v4, v5, v6⟩⟩]) rfl _ _ rfl rfl hr hrf hB rfl (src_one (x := ⟨x, ⟨v0, v1, v2, v3, v4, v5, v6⟩⟩) encR_len hd) (by have := HL.out; simp <;> omega) ?_
            intro vr Wq4 hr hrf hB hk
            clear hk
            refine hK.out _ _ (NewT.of g hB) (fun hC => ?_)
            try go_simp
            clear hK K
            refine takeNil (i := 12) rfl rfl rfl (by kernel_rfl) (by kernel_rfl) (by kernel_rfl) (fun _ _ _ _ h => h) rfl hC ?_
            go_simp
            refine takeList (i := 13) rfl (by kernel_rfl) (by kernel_rfl) (by kernel_rfl) (fun _ _ _ _ h => h) rfl rfl hC (fun K hK => ?_)
            go_big_quiet_op
            refine hK _ ?_
            clear hK K
            obtain ⟨q9, c9, hv9, -⟩ := OwnG.slice hr
            subst hv9
            have hS9 := HSW.out _ hB
            have hg0 := hS9.cells.2
            have hf0 := hS9.fz 1
            refine callList (i := 14) rfl (by kernel_rfl) rfl (fun K hK => ?_)
            go_simp
            refine hK.out _ _ (NewT.set g 1 hB _) ?_
            clear hK K hC hS9 hg0 hf0
            refine wpAnyH_done (by kernel_rfl) ?_ _
            go_wp2_with fail
            go_meet
            case rel => exact ⟨RsRet.setR HS.out (bt HB2.out hB) (by simpa using hr) (fun b hb => Nat.le_trans HB2.out.size (hrf b (by simpa using hb))), (set_other hnev).trans (keep_on hB HD2.out)⟩
          · rw [if_pos (by rfl)]
            go_simp
            have hal := below_new Wq1 (.cells #[.string x, .int .i64 v0, .int .i64 v1, .int .i64 v2, .int .i64 v3, .int .i64 v4, .int .i64 v5, .int .i64 v6] 84)
            obtain ⟨vd, hvd⟩ : ∃ vd, Wq1.heap.size = vd := ⟨_, rfl⟩
            have hd := heap_alloc_new Wq1 (.cells #[.string x, .int .i64 v0, .int .i64 v1, .int .i64 v2, .int .i64 v3, .int .i64 v4, .int .i64 v5, .int .i64 v6] 84)
            have hdn : vr.ownBlock ≠ some vd := fun e => by have := OwnG.lt hr e; omega
            replace hr := OwnG.below hr hal
            rw [hvd] at hd ⊢
            replace hB := bt hB hal
            refine hK.out _ _ (NewT.of g hB) (fun hC => ?_)
            generalize World.alloc Wq1 (.cells #[.string x, .int .i64 v0, .int .i64 v1, .int .i64 v2, .int .i64 v3, .int .i64 v4, .int .i64 v5, .int .i64 v6] 84) = Wq2 at *
            clear hK K hal hvd
            refine wpAnyH_ready (rs := [6]) (by kernel_rfl) (by simp) (AllReadyH.cons (at_of_drop (i := 6) rfl) (fun K hK => ?_) AllReadyH.nil)
            refine stepG u_rems info_rems (by rfl) (by decide) (by decide) encR_one (ns := R.r) rfl _ _ rfl rfl hr hrf hB rfl (HSRC.out _ hB) (by have := HL.out; simp <;> omega) ?_
            intro vr Wq3 hr hrf hB hk
            replace hd := hk _ _ hd hdn
            clear hk
            refine hK.out _ _ (NewT.of g hB) (fun hC => ?_)
            try go_simp
            clear hK K
            refine wpAnyH_ready (rs := [11]) (by kernel_rfl) (by simp) (AllReadyH.cons (at_of_drop (i := 11) rfl) (fun K hK => ?_) AllReadyH.nil)
            refine stepG u_rems info_rems (by rfl) (by decide) (by decide) encR_one (ns := [⟨x, ⟨v0, v1, v2, v3, v4, v5, v6⟩⟩]) rfl _ _ rfl rfl hr hrf hB rfl (src_one (x := ⟨x, ⟨v0, v1, v2, v3, v4, v5, v6⟩⟩) encR_len hd) (by have := HL.out; simp <;> omega) ?_
            intro vr Wq4 hr hrf hB hk
            clear hk
            refine hK.out _ _ (NewT.of g hB) (fun hC => ?_)
            try go_simp
            clear hK K
            refine takeNil (i := 12) rfl rfl rfl (by kernel_rfl) (by kernel_rfl) (by kernel_rfl) (fun _ _ _ _ h => h) rfl hC ?_
            go_simp
            refine takeList (i := 13) rfl (by kernel_rfl) (by kernel_rfl) (by kernel_rfl) (fun _ _ _ _ h => h) rfl rfl hC (fun K hK => ?_)
            go_big_quiet_op
            refine hK _ ?_
            clear hK K
            obtain ⟨q9, c9, hv9, -⟩ := OwnG.slice hr
            subst hv9
            have hS9 := HSW.out _ hB
            have hg0 := hS9.cells.2
            have hf0 := hS9.fz 1
            refine callList (i := 14) rfl (by kernel_rfl) rfl (fun K hK => ?_)
            go_simp
            refine hK.out _ _ (NewT.set g 1 hB _) ?_
            clear hK K hC hS9 hg0 hf0
            refine wpAnyH_done (by kernel_rfl) ?_ _
            go_wp2_with fail
            go_meet
            case rel => exact ⟨RsRet.setR HS.out (bt HB2.out hB) (by simpa using hr) (fun b hb => Nat.le_trans HB2.out.size (hrf b (by simpa using hb))), (set_other hnev).trans (keep_on hB HD2.out)⟩
        · rw [if_pos (by rfl)]
          go_simp
          have hal := below_new W0 (.cells #[.string x, .int .i64 v0, .int .i64 v1, .int .i64 v2, .int .i64 v3, .int .i64 v4, .int .i64 v5, .int .i64 v6] 84)
          obtain ⟨vd, hvd⟩ : ∃ vd, W0.heap.size = vd := ⟨_, rfl⟩
          have hd := heap_alloc_new W0 (.cells #[.string x, .int .i64 v0, .int .i64 v1, .int .i64 v2, .int .i64 v3, .int .i64 v4, .int .i64 v5, .int .i64 v6] 84)
          rw [hvd] at hd ⊢
          replace hB := bt hB hal
          refine hK.out _ _ (NewT.of g hB) (fun hC => ?_)
          generalize World.alloc W0 (.cells #[.string x, .int .i64 v0, .int .i64 v1, .int .i64 v2, .int .i64 v3, .int .i64 v4, .int .i64 v5, .int .i64 v6] 84) = Wq1 at *
          clear hK K hal hvd
          refine wpAnyH_ready (rs := [1]) (by kernel_rfl) (by simp) (AllReadyH.cons (at_of_drop (i := 1) rfl) (fun K hK => ?_) AllReadyH.nil)
          rw [if_pos (by rfl)]
          go_simp
          have hal := below_new Wq1 (.cells #[] 84)
          have hr := OwnG.empty (enc := encR) Wq1 84 8
          obtain ⟨vr, hvr⟩ : ∃ vr, Value.slice (some ⟨Wq1.heap.size, 0, none⟩) 0 0 = vr := ⟨_, rfl⟩
          have hrf : ∀ b, vr.ownBlock = some b → wc.heap.size ≤ b := fun b hb => by rw [← hvr] at hb; cases hb; exact hB.size
          have hdn : vr.ownBlock ≠ some vd := fun e => by rw [← hvr] at e; cases e; exact absurd (Array.getElem?_eq_some_iff.1 hd).1 (Nat.lt_irrefl _)
          replace hd := keep_on hal hd
          rw [hvr] at hr ⊢
          replace hB := bt hB hal
          refine hK.out _ _ (NewT.of g hB) (fun hC => ?_)
          generalize World.alloc Wq1 (.cells #[] 84) = Wq2 at *
          clear hK K hal hvr
          refine wpAnyH_ready (rs := [6]) (by kernel_rfl) (by simp) (AllReadyH.cons (at_of_drop (i := 6) rfl) (fun K hK => ?_) AllReadyH.nil)
          refine stepG u_rems info_rems (by rfl) (by decide) (by decide) encR_one (ns := R.r) rfl _ _ rfl rfl hr hrf hB rfl (HSRC.out _ hB) (by have := HL.out; simp <;> omega) ?_
          intro vr Wq3 hr hrf hB hk
          replace hd := hk _ _ hd hdn
          clear hk
          refine hK.out _ _ (NewT.of g hB) (fun hC => ?_)
          try go_simp
          clear hK K
          refine wpAnyH_ready (rs := [11]) (by kernel_rfl) (by simp) (AllReadyH.cons (at_of_drop (i := 11) rfl) (fun K hK => ?_) AllReadyH.nil)
          refine stepG u_rems info_rems (by rfl) (by decide) (by decide) encR_one (ns := [⟨x, ⟨v0, v1, v2, v3, v4, v5, v6⟩⟩]) rfl _ _ rfl rfl hr hrf hB rfl (src_one (x := ⟨x, ⟨v0, v1, v2, v3, v4, v5, v6⟩⟩) encR_len hd) (by have := HL.out; simp <;> omega) ?_
          intro vr Wq4 hr hrf hB hk
          clear hk
          refine hK.out _ _ (NewT.of g hB) (fun hC => ?_)
          try go_simp
          clear hK K
          refine takeNil (i := 12) rfl rfl rfl (by kernel_rfl) (by kernel_rfl) (by kernel_rfl) (fun _ _ _ _ h => h) rfl hC ?_
          go_simp
          refine takeList (i := 13) rfl (by kernel_rfl) (by kernel_rfl) (by kernel_rfl) (fun _ _ _ _ h => h) rfl rfl hC (fun K hK => ?_)
          go_big_quiet_op
          refine hK _ ?_
          clear hK K
          obtain ⟨q9, c9, hv9, -⟩ := OwnG.slice hr
          subst hv9
          have hS9 := HSW.out _ hB
          have hg0 := hS9.cells.2
          have hf0 := hS9.fz 1
          refine callList (i := 14) rfl (by kernel_rfl) rfl (fun K hK => ?_)
          go_simp
          refine hK.out _ _ (NewT.set g 1 hB _) ?_
          clear hK K hC hS9 hg0 hf0
          refine wpAnyH_done (by kernel_rfl) ?_ _
          go_wp2_with fail
          go_meet
          case rel => exact ⟨RsRet.setR HS.out (bt HB2.out hB) (by simpa using hr) (fun b hb => Nat.le_trans HB2.out.size (hrf b (by simpa using hb))), (set_other hnev).trans (keep_on hB HD2.out)⟩
      · rw [if_pos (by rfl)]
        go_simp
        have hal := below_new W0 (.cells #[.string x, .int .i64 v0, .int .i64 v1, .int .i64 v2, .int .i64 v3, .int .i64 v4, .int .i64 v5, .int .i64 v6] 84)
        obtain ⟨vd, hvd⟩ : ∃ vd, W0.heap.size = vd := ⟨_, rfl⟩
        have hd := heap_alloc_new W0 (.cells #[.string x, .int .i64 v0, .int .i64 v1, .int .i64 v2, .int .i64 v3, .int .i64 v4, .int .i64 v5, .int .i64 v6] 84)
        rw [hvd] at hd ⊢
        replace hB := bt hB hal
        refine hK.out _ _ (NewT.of g hB) (fun hC => ?_)
        generalize World.alloc W0 (.cells #[.string x, .int .i64 v0, .int .i64 v1, .int .i64 v2, .int .i64 v3, .int .i64 v4, .int .i64 v5, .int .i64 v6] 84) = Wq1 at *
        clear hK K hal hvd
        refine wpAnyH_ready (rs := [1, 5]) (by kernel_rfl) (by simp) (AllReadyH.cons (at_of_drop (i := 1) rfl) (fun K hK => ?_) (AllReadyH.cons (at_of_drop (i := 5) rfl) (fun K hK => ?_) AllReadyH.nil))
        · rw [if_pos (by rfl)]
          go_simp
          have hal := below_new Wq1 (.cells #[] 84)
          have hr := OwnG.empty (enc := encR) Wq1 84 8
          obtain ⟨vr, hvr⟩ : ∃ vr, Value.slice (some ⟨Wq1.heap.size, 0, none⟩) 0 0 = vr := ⟨_, rfl⟩
          have hrf : ∀ b, vr.ownBlock = some b → wc.heap.size ≤ b := fun b hb => by rw [← hvr] at hb; cases hb; exact hB.size
          have hdn : vr.ownBlock ≠ some vd := fun e => by rw [← hvr] at e; cases e; exact absurd (Array.getElem?_eq_some_iff.1 hd).1 (Nat.lt_irrefl _)
          replace hd := keep_on hal hd
          rw [hvr] at hr ⊢
          replace hB := bt hB hal
          refine hK.out _ _ (NewT.of g hB) (fun hC => ?_)
          generalize World.alloc Wq1 (.cells #[] 84) = Wq2 at *
          clear hK K hal hvr
          refine wpAnyH_ready (rs := [5]) (by kernel_rfl) (by simp) (AllReadyH.cons (at_of_drop (i := 5) rfl) (fun K hK => ?_) AllReadyH.nil)
          rw [if_pos (by rfl)]
          have hg0 := (HSW.out _ hB).cells.2
          go_simp
          refine hK.out _ _ (NewT.of g hB) (fun hC => ?_)
          try go_simp
          clear hg0 hK K
          refine wpAnyH_ready (rs := [6]) (by kernel_rfl) (by simp) (AllReadyH.cons (at_of_drop (i := 6) rfl) (fun K hK => ?_) AllReadyH.nil)
          refine stepG u_rems info_rems (by rfl) (by decide) (by decide) encR_one (ns := R.r) rfl _ _ rfl rfl hr hrf hB rfl (HSRC.out _ hB) (by have := HL.out; simp <;> omega) ?_
          intro vr Wq3 hr hrf hB hk
          replace hd := hk _ _ hd hdn
          clear hk
          refine hK.out _ _ (NewT.of g hB) (fun hC => ?_)
          try go_simp
          clear hK K
          refine wpAnyH_ready (rs := [11]) (by kernel_rfl) (by simp) (AllReadyH.cons (at_of_drop (i := 11) rfl) (fun K hK => ?_) AllReadyH.nil)
          refine stepG u_rems info_rems (by rfl) (by decide) (by decide) encR_one (ns := [⟨x, ⟨v0, v1, v2, v3, v4, v5, v6⟩⟩]) rfl _ _ rfl rfl hr hrf hB rfl (src_one (x := ⟨x, ⟨v0, v1, v2, v3, v4, v5, v6⟩⟩) encR_len hd) (by have := HL.out; simp <;> omega) ?_
          intro vr Wq4 hr hrf hB hk
          clear hk
          refine hK.out _ _ (NewT.of g hB) (fun hC => ?_)
          try go_simp
          clear hK K
          refine takeNil (i := 12) rfl rfl rfl (by kernel_rfl) (by kernel_rfl) (by kernel_rfl) (fun _ _ _ _ h => h) rfl hC ?_
          go_simp
          refine takeList (i := 13) rfl (by kernel_rfl) (by kernel_rfl) (by kernel_rfl) (fun _ _ _ _ h => h) rfl rfl hC (fun K hK => ?_)
          go_big_quiet_op
          refine hK _ ?_
          clear hK K
          obtain ⟨q9, c9, hv9, -⟩ := OwnG.slice hr
          subst hv9
          have hS9 := HSW.out _ hB
          have hg0 := hS9.cells.2
          have hf0 := hS9.fz 1
          refine callList (i := 14) rfl (by kernel_rfl) rfl (fun K hK => ?_)
          go_simp
          refine hK.out _ _ (NewT.set g 1 hB _) ?_
          clear hK K hC hS9 hg0 hf0
          refine wpAnyH_done (by kernel_rfl) ?_ _
          go_wp2_with fail
          go_meet
          case rel => exact ⟨RsRet.setR HS.out (bt HB2.out hB) (by simpa using hr) (fun b hb => Nat.le_trans HB2.out.size (hrf b (by simpa using hb))), (set_other hnev).trans (keep_on hB HD2.out)⟩
        · rw [if_pos (by rfl)]
          have hg0 := (HSW.out _ hB).cells.2
          go_simp
          refine hK.out _ _ (NewT.of g hB) (fun hC => ?_)
          try go_simp
          clear hg0 hK K
          refine wpAnyH_ready (rs := [1]) (by kernel_rfl) (by simp) (AllReadyH.cons (at_of_drop (i := 1) rfl) (fun K hK => ?_) AllReadyH.nil)
          rw [if_pos (by rfl)]
          go_simp
          have hal := below_new Wq1 (.cells #[] 84)
          have hr := OwnG.empty (enc := encR) Wq1 84 8
          obtain ⟨vr, hvr⟩ : ∃ vr, Value.slice (some ⟨Wq1.heap.size, 0, none⟩) 0 0 = vr := ⟨_, rfl⟩
          have hrf : ∀ b, vr.ownBlock = some b → wc.heap.size ≤ b := fun b hb => by rw [← hvr] at hb; cases hb; exact hB.size
          have hdn : vr.ownBlock ≠ some vd := fun e => by rw [← hvr] at e; cases e; exact absurd (Array.getElem?_eq_some_iff.1 hd).1 (Nat.lt_irrefl _)
          replace hd := keep_on hal hd
          rw [hvr] at hr ⊢
          replace hB := bt hB hal
          refine hK.out _ _ (NewT.of g hB) (fun hC => ?_)
          generalize World.alloc Wq1 (.cells #[] 84) = Wq2 at *
          clear hK K hal hvr
          refine wpAnyH_ready (rs := [6]) (by kernel_rfl) (by simp) (AllReadyH.cons (at_of_drop (i := 6) rfl) (fun K hK => ?_) AllReadyH.nil)
          refine stepG u_rems info_rems (by rfl) (by decide) (by decide) encR_one (ns := R.r) rfl _ _ rfl rfl hr hrf hB rfl (HSRC.out _ hB) (by have := HL.out; simp <;> omega) ?_
          intro vr Wq3 hr hrf hB hk
          replace hd := hk _ _ hd hdn
          clear hk
          refine hK.out _ _ (NewT.of g hB) (fun hC => ?_)
          try go_simp
          clear hK K
          refine wpAnyH_ready (rs := [11]) (by kernel_rfl) (by simp) (AllReadyH.cons (at_of_drop (i := 11) rfl) (fun K hK => ?_) AllReadyH.nil)
          refine stepG u_rems info_rems (by rfl) (by decide) (by decide) encR_one (ns := [⟨x, ⟨v0, v1, v2, v3, v4, v5, v6⟩⟩]) rfl _ _ rfl rfl hr hrf hB rfl (src_one (x := ⟨x, ⟨v0, v1, v2, v3, v4, v5, v6⟩⟩) encR_len hd) (by have := HL.out; simp <;> omega) ?_
          intro vr Wq4 hr hrf hB hk
          clear hk
          refine hK.out _ _ (NewT.of g hB) (fun hC => ?_)
          try go_simp
          clear hK K
          refine takeNil (i := 12) rfl rfl rfl (by kernel_rfl) (by kernel_rfl) (by kernel_rfl) (fun _ _ _ _ h => h) rfl hC ?_
          go_simp
          refine takeList (i := 13) rfl (by kernel_rfl) (by kernel_rfl) (by kernel_rfl) (fun _ _ _ _ h => h) rfl rfl hC (fun K hK => ?_)
          go_big_quiet_op
          refine hK _ ?_
          clear hK K
          obtain ⟨q9, c9, hv9, -⟩ := OwnG.slice hr
          subst hv9
          have hS9 := HSW.out _ hB
          have hg0 := hS9.cells.2
          have hf0 := hS9.fz 1
          refine callList (i := 14) rfl (by kernel_rfl) rfl (fun K hK => ?_)
          go_simp
          refine hK.out _ _ (NewT.set g 1 hB _) ?_
          clear hK K hC hS9 hg0 hf0
          refine wpAnyH_done (by kernel_rfl) ?_ _
          go_wp2_with fail
          go_meet
          case rel => exact ⟨RsRet.setR HS.out (bt HB2.out hB) (by simpa using hr) (fun b hb => Nat.le_trans HB2.out.size (hrf b (by simpa using hb))), (set_other hnev).trans (keep_on hB HD2.out)⟩
    case rest =>
      clear HSRC HSW HB2 HD2 HS
      obtain ⟨HT, HDX⟩ := hcut
      obtain ⟨W5, hW5⟩ : ∃ W5, W5 = wc := ⟨_, rfl⟩
      subst hW5
      have HD : Hid (W5.heap[gv]? = some (.cells #[.int .i64 v0, .int .i64 v1, .int .i64 v2, .int .i64 v3, .int .i64 v4, .int .i64 v5, .int .i64 v6] 44)) := HDX
      have HRT : Hid (RsRet w g (.slice pl n cl) (.slice pr m cr) ⟨R.l, R.r ++ [⟨x, ⟨v0, v1, v2, v3, v4, v5, v6⟩⟩]⟩ W5) := HT
      clear HDX
      obtain ⟨⟨vl2, vr2, HA, hf⟩, hT⟩ := HT
      obtain ⟨pl2, cl2, hv2, -⟩ := HA.lo.slice
      replace hv2 : vl2 = .slice pl2 n cl2 := by rw [hv2, HN.out]
      subst hv2
      have HAR : Hid (RsAt W5 g (.slice pl2 n cl2) vr2 ⟨R.l, R.r ++ [⟨x, ⟨v0, v1, v2, v3, v4, v5, v6⟩⟩]⟩) := HA
      have c0 := HA.cells.1
      have c0a : ∀ ob, (W5.alloc ob).cell? ⟨g, 0, none⟩ = some (.slice pl2 n cl2) := fun ob => (HA.below (below_new W5 ob)).cells.1
      have hs2 : SrcAt (W5.alloc (.cells #[] 82)) 4 (.slice pl2 n cl2) R.l.length (rowG encE R.l) := (HA.below (below_new W5 _)).lo.src
      have h0 : (W5.alloc (.cells #[] 82)).ownsRow 0 82 4 (.slice (some ⟨W5.heap.size, 0, none⟩) 0 0) 0 [] := World.ownsRow_lit W5 #[] 0 (Nat.zero_le _) (Nat.zero_le _) (by simp)
      go_wp2_with (at_builtin; go_must (refine wpList_append_src u_adds info_adds (by rfl) (by decide) rfl _ _ rfl rfl h0 rfl hs2 (rowG_one encE encE_one _) (by have := HL.out; unfold maxLen; omega) (by have := HL.out; omega) ?_); intro v7 w7 hrow hgrow hbl; obtain ⟨p7, c7, hv7, HP7, HF7, HB7, HO7⟩ := copied HN.out hrow hgrow hbl; subst hv7; clear hrow hgrow hbl h0 hs2 c0 c0a HA hf hT)
      go_loopw [8] (fun s8 w8 => ∃ (j : Nat) (t : List C.AddE), s8 = .int .i64 j ∧ j ≤ n ∧ Hid (C.Mk x ⟨v0, v1, v2, v3, v4, v5, v6⟩ R.l j t) ∧ Hid (OwnE w8 (.slice p7 n c7) t) ∧ Hid (Below W5.heap.size W5 w8)) (fun s8 _ => n - (intOf s8).toNat)
      case atStart => exact ⟨0, R.l, rfl, Nat.zero_le _, C.Mk.start _ _ _, HO7.out, HB7.out⟩
      case round =>
        clear HO7 HB7
        obtain ⟨j, t, rfl, hjn, HM, HO, HB⟩ := hrel
        by_cases hlt : j < n
        · obtain ⟨z, hz⟩ : ∃ z, R.l[j]? = some z := ⟨_, List.getElem?_eq_getElem (by have := HN.out; omega)⟩
          obtain ⟨g7, rfl⟩ := HP7.out (by omega)
          have hlz : (j : Int) < (n : Int) := by omega
          have hzt := HM.out.elem hz
          have HM1 : Hid (C.Mk x ⟨v0, v1, v2, v3, v4, v5, v6⟩ R.l (j + 1) (t.set j (C.markE x ⟨v0, v1, v2, v3, v4, v5, v6⟩ z))) := HM.out.step hz
          have HZT : Hid (t[j]? = some z) := hzt
          have HTL2 : Hid (n = t.length) := by show _ = _; rw [HM.out.len]; exact HN.out
          clear HM hz hzt
          have HG7 : Hid (W5.heap.size ≤ g7) := HF7.out g7 rfl
          have hne : Nonempty (NewW W5) := ⟨NewW.start W5⟩
          have k0 : ∀ t : NewW W5, t.v.cell? ⟨gv, 0, none⟩ = some (.int .i64 v0) := fun t => (box7 (keep_on t.h HD.out)).1
          have k1 : ∀ t : NewW W5, t.v.cell? ⟨gv, 1, none⟩ = some (.int .i64 v1) := fun t => (box7 (keep_on t.h HD.out)).2.1
          have k2 : ∀ t : NewW W5, t.v.cell? ⟨gv, 2, none⟩ = some (.int .i64 v2) := fun t => (box7 (keep_on t.h HD.out)).2.2.1
          have k3 : ∀ t : NewW W5, t.v.cell? ⟨gv, 3, none⟩ = some (.int .i64 v3) := fun t => (box7 (keep_on t.h HD.out)).2.2.2.1
          have k4 : ∀ t : NewW W5, t.v.cell? ⟨gv, 4, none⟩ = some (.int .i64 v4) := fun t => (box7 (keep_on t.h HD.out)).2.2.2.2.1
          have k5 : ∀ t : NewW W5, t.v.cell? ⟨gv, 5, none⟩ = some (.int .i64 v5) := fun t => (box7 (keep_on t.h HD.out)).2.2.2.2.2.1
          have k6 : ∀ t : NewW W5, t.v.cell? ⟨gv, 6, none⟩ = some (.int .i64 v6) := fun t => (box7 (keep_on t.h HD.out)).2.2.2.2.2.2
          obtain ⟨⟨e1, e2⟩, zx, zg⟩ := z
          obtain ⟨qh, hqh⟩ : ∃ qh, C.has ⟨v0, v1, v2, v3, v4, v5, v6⟩ e1 e2 = qh := ⟨_, rfl⟩
          have HH : Hid (∀ W, Calls Try.prog 45 #[(⟨v0, v1, v2, v3, v4, v5, v6⟩ : V7).v, .agg #[.int .i64 e1, .int .i64 e2]] W fun e w' => e = .returned (.bool qh) ∧ Below W.heap.size W w') := fun W => by rw [← hqh]; exact rhas_any ⟨v0, v1, v2, v3, v4, v5, v6⟩ e1 e2 W
          simp only [V7.v] at HH
          obtain ⟨qx, hqx⟩ : ∃ qx, (zx.toList == x.toList) = qx := ⟨_, rfl⟩
          have HMK : Hid (∀ b, (zg || (qx && qh)) = b → encE (C.markE x ⟨v0, v1, v2, v3, v4, v5, v6⟩ ⟨(e1, e2), zx, zg⟩) = (encE ⟨(e1, e2), zx, zg⟩).set 3 (.bool b)) := fun b hb => by
            rw [← hb, ← hqx, tx_eq, ← hqh]
            exact enc_mark _ _ _
          have hBw : Below W5.heap.size W5 wr.drew := HB.out.drew
          have HO0 : Hid (OwnE wr.drew (.slice (some ⟨g7, 0, none⟩) n c7) t) := HO.out.same fun b hb => rfl
          have g0 := OwnG.cell encE_len HO0.out HZT.out (j := 3) (by decide) rfl
          have g1 := OwnG.cell encE_len HO0.out HZT.out (j := 2) (by decide) rfl
          have g2 := OwnG.cell encE_len HO0.out HZT.out (j := 0) (by decide) rfl
          have g3 := OwnG.cell encE_len HO0.out HZT.out (j := 1) (by decide) rfl
          have f0 := OwnG.fz HO0.out HTL2.out (j * 4 + 3)
          simp only [Nat.add_zero] at g2
          go_wp2_with fail
          have hC : ∃ t : NewW W5, wr.drew = t.v := ⟨⟨_, hBw⟩, rfl⟩
          refine wp_region_held_drew (S := fun w' => ∃ t : NewW W5, w' = t.v) (by kernel_rfl) hC (fun _ => ?_)
          generalize hw0 : wr.drew = w0 at *
          clear hw0
          refine takeList (i := 0) rfl (by kernel_rfl) (by kernel_rfl) (by kernel_rfl) (fun _ _ _ _ h => h) rfl rfl hC (fun K hK => ?_)
          go_big_quiet_op
          refine hK _ ?_
          clear hK K
          refine takeList (i := 1) rfl (by kernel_rfl) (by kernel_rfl) (by kernel_rfl) (fun _ _ _ _ h => h) rfl rfl hC (fun K hK => ?_)
          go_big_quiet_op
          refine hK _ ?_
          clear hK K
          refine takeList (i := 2) rfl (by kernel_rfl) (by kernel_rfl) (by kernel_rfl) (fun _ _ _ _ h => h) rfl rfl hC (fun K hK => ?_)
          go_big_quiet_op
          refine hK _ ?_
          clear hK K
          refine takeList (i := 3) rfl (by kernel_rfl) (by kernel_rfl) (by kernel_rfl) (fun _ _ _ _ h => h) rfl rfl hC (fun K hK => ?_)
          go_big_quiet_op
          refine hK _ ?_
          clear hK K
          refine takeList (i := 4) rfl (by kernel_rfl) (by kernel_rfl) (by kernel_rfl) (fun _ _ _ _ h => h) rfl rfl hC (fun K hK => ?_)
          go_big_quiet_op
          refine hK _ ?_
          clear hK K
          refine takeList (i := 5) rfl (by kernel_rfl) (by kernel_rfl) (by kernel_rfl) (fun _ _ _ _ h => h) rfl rfl hC (fun K hK => ?_)
          go_big_quiet_op
          refine hK _ ?_
          clear hK K
          refine callList (i := 6) rfl (by kernel_rfl) rfl (fun K hK => ?_)
          go_simp
          refine hK.out _ _ hC ?_
          try go_simp
          clear hK K
          refine takeList (i := 7) rfl (by kernel_rfl) (by kernel_rfl) (by kernel_rfl) (fun _ _ _ _ h => h) rfl rfl hC (fun K hK => ?_)
          go_big_quiet_op
          refine hK _ ?_
          clear hK K
          cases zg with
          | true =>
            refine takeSkip (i := 8) rfl (by kernel_rfl) (by kernel_rfl) (by kernel_rfl) (fun _ _ _ _ h => h) rfl hC ?_
            go_simp
            refine takeSkip (i := 9) rfl (by kernel_rfl) (by kernel_rfl) (by kernel_rfl) (fun _ _ _ _ h => h) rfl hC ?_
            go_simp
            refine takeSkip (i := 10) rfl (by kernel_rfl) (by kernel_rfl) (by kernel_rfl) (fun _ _ _ _ h => h) rfl hC ?_
            go_simp
            refine takeSkip (i := 11) rfl (by kernel_rfl) (by kernel_rfl) (by kernel_rfl) (fun _ _ _ _ h => h) rfl hC ?_
            go_simp
            refine takeSkip (i := 12) rfl (by kernel_rfl) (by kernel_rfl) (by kernel_rfl) (fun _ _ _ _ h => h) rfl hC ?_
            go_simp
            refine takeSkip (i := 13) rfl (by kernel_rfl) (by kernel_rfl) (by kernel_rfl) (fun _ _ _ _ h => h) rfl hC ?_
            go_simp
            refine takeSkip (i := 14) rfl (by kernel_rfl) (by kernel_rfl) (by kernel_rfl) (fun _ _ _ _ h => h) rfl hC ?_
            go_simp
            refine takeSkip (i := 15) rfl (by kernel_rfl) (by kernel_rfl) (by kernel_rfl) (fun _ _ _ _ h => h) rfl hC ?_
            go_simp
            refine takeSkip (i := 16) rfl (by kernel_rfl) (by kernel_rfl) (by kernel_rfl) (fun _ _ _ _ h => h) rfl hC ?_
            go_simp
            refine takeSkip (i := 17) rfl (by kernel_rfl) (by kernel_rfl) (by kernel_rfl) (fun _ _ _ _ h => h) rfl hC ?_
            go_simp
            refine takeSkip (i := 18) rfl (by kernel_rfl) (by kernel_rfl) (by kernel_rfl) (fun _ _ _ _ h => h) rfl hC ?_
            go_simp
            refine takeSkip (i := 19) rfl (by kernel_rfl) (by kernel_rfl) (by kernel_rfl) (fun _ _ _ _ h => h) rfl hC ?_
            go_simp
            refine takeSkip (i := 20) rfl (by kernel_rfl) (by kernel_rfl) (by kernel_rfl) (fun _ _ _ _ h => h) rfl hC ?_
            go_simp
            refine takeSkip (i := 21) rfl (by kernel_rfl) (by kernel_rfl) (by kernel_rfl) (fun _ _ _ _ h => h) rfl hC ?_
            go_simp
            refine takeSkip (i := 22) rfl (by kernel_rfl) (by kernel_rfl) (by kernel_rfl) (fun _ _ _ _ h => h) rfl hC ?_
            go_simp
            refine takeSkip (i := 23) rfl (by kernel_rfl) (by kernel_rfl) (by kernel_rfl) (fun _ _ _ _ h => h) rfl hC ?_
            go_simp
            refine takeList (i := 24) rfl (by kernel_rfl) (by kernel_rfl) (by kernel_rfl) (fun _ _ _ _ h => h) rfl rfl hC (fun K hK => ?_)
            go_big_quiet_op
            refine hK _ ?_
            clear hK K
            refine takeList (i := 25) rfl (by kernel_rfl) (by kernel_rfl) (by kernel_rfl) (fun _ _ _ _ h => h) rfl rfl hC (fun K hK => ?_)
            go_big_quiet_op
            refine hK _ ?_
            clear hK K
            refine takeList (i := 26) rfl (by kernel_rfl) (by kernel_rfl) (by kernel_rfl) (fun _ _ _ _ h => h) rfl rfl hC (fun K hK => ?_)
            go_big_quiet_op
            refine hK _ ?_
            clear hK K
            refine callList (i := 27) rfl (by kernel_rfl) rfl (fun K hK => ?_)
            go_simp
            have HBE : Hid (Below W5.heap.size W5 (w0.setCell ⟨g7, j * 4 + 3, none⟩ (.bool true))) := Below.setCell hBw HG7.out _
            have HOE : Hid (OwnE (w0.setCell ⟨g7, j * 4 + 3, none⟩ (.bool true)) (.slice (some ⟨g7, 0, none⟩) n c7) _) := OwnG.set encE_len HO0.out HTL2.out HZT.out (by decide) (HMK.out true (by simp))
            refine hK.out _ _ ⟨⟨_, HBE.out⟩, rfl⟩ ?_
            clear hK K hC hne k0 k1 k2 k3 k4 k5 k6 g0 g1 g2 g3 f0 hBw
            refine wpAnyH_done (by kernel_rfl) ?_ _
            go_wp2
            go_roundw
            case rel => exact ⟨j + 1, _, by go_num, by omega, HM1.out, HOE.out, HBE.out⟩
            case measure => simp [intOf]; omega
          | false =>
            refine takeList (i := 8) rfl (by kernel_rfl) (by kernel_rfl) (by kernel_rfl) (fun _ _ _ _ h => h) rfl rfl hC (fun K hK => ?_)
            go_big_quiet_op
            refine hK _ ?_
            clear hK K
            refine takeList (i := 9) rfl (by kernel_rfl) (by kernel_rfl) (by kernel_rfl) (fun _ _ _ _ h => h) rfl rfl hC (fun K hK => ?_)
            go_big_quiet_op
            refine hK _ ?_
            clear hK K
            refine takeList (i := 10) rfl (by kernel_rfl) (by kernel_rfl) (by kernel_rfl) (fun _ _ _ _ h => h) rfl rfl hC (fun K hK => ?_)
            go_big_quiet_op
            refine hK _ ?_
            clear hK K
            refine takeList (i := 11) rfl (by kernel_rfl) (by kernel_rfl) (by kernel_rfl) (fun _ _ _ _ h => h) rfl rfl hC (fun K hK => ?_)
            go_big_quiet_op
            refine hK _ ?_
            clear hK K
            refine takeList (i := 13) rfl (by kernel_rfl) (by kernel_rfl) (by kernel_rfl) (fun _ _ _ _ h => h) rfl rfl hC (fun K hK => ?_)
            go_big_quiet_op
            refine hK _ ?_
            clear hK K
            refine callList (i := 12) rfl (by kernel_rfl) rfl (fun K hK => ?_)
            go_simp
            refine hK.out _ _ hC ?_
            try go_simp
            clear hK K
            refine takeList (i := 14) rfl (by kernel_rfl) (by kernel_rfl) (by kernel_rfl) (fun _ _ _ _ h => h) rfl rfl hC (fun K hK => ?_)
            go_big_quiet_op
            refine hK _ ?_
            clear hK K
            refine takeList (i := 15) rfl (by kernel_rfl) (by kernel_rfl) (by kernel_rfl) (fun _ _ _ _ h => h) rfl rfl hC (fun K hK => ?_)
            go_big_quiet_op
            refine hK _ ?_
            clear hK K
            cases qx with
            | false =>
              refine takeSkip (i := 16) rfl (by kernel_rfl) (by kernel_rfl) (by kernel_rfl) (fun _ _ _ _ h => h) rfl hC ?_
              go_simp
              refine takeSkip (i := 17) rfl (by kernel_rfl) (by kernel_rfl) (by kernel_rfl) (fun _ _ _ _ h => h) rfl hC ?_
              go_simp
              refine takeSkip (i := 18) rfl (by kernel_rfl) (by kernel_rfl) (by kernel_rfl) (fun _ _ _ _ h => h) rfl hC ?_
              go_simp
              refine takeSkip (i := 19) rfl (by kernel_rfl) (by kernel_rfl) (by kernel_rfl) (fun _ _ _ _ h => h) rfl hC ?_
              go_simp
              refine takeSkip (i := 20) rfl (by kernel_rfl) (by kernel_rfl) (by kernel_rfl) (fun _ _ _ _ h => h) rfl hC ?_
              go_simp
              refine takeSkip (i := 21) rfl (by kernel_rfl) (by kernel_rfl) (by kernel_rfl) (fun _ _ _ _ h => h) rfl hC ?_
              go_simp
              refine takeSkip (i := 22) rfl (by kernel_rfl) (by kernel_rfl) (by kernel_rfl) (fun _ _ _ _ h => h) rfl hC ?_
              go_simp
              refine takeList (i := 23) rfl (by kernel_rfl) (by kernel_rfl) (by kernel_rfl) (fun _ _ _ _ h => h) rfl rfl hC (fun K hK => ?_)
              go_big_quiet_op
              refine hK _ ?_
              clear hK K
              refine takeList (i := 24) rfl (by kernel_rfl) (by kernel_rfl) (by kernel_rfl) (fun _ _ _ _ h => h) rfl rfl hC (fun K hK => ?_)
              go_big_quiet_op
              refine hK _ ?_
              clear hK K
              refine takeList (i := 25) rfl (by kernel_rfl) (by kernel_rfl) (by kernel_rfl) (fun _ _ _ _ h => h) rfl rfl hC (fun K hK => ?_)
              go_big_quiet_op
              refine hK _ ?_
              clear hK K
              refine takeList (i := 26) rfl (by kernel_rfl) (by kernel_rfl) (by kernel_rfl) (fun _ _ _ _ h => h) rfl rfl hC (fun K hK => ?_)
              go_big_quiet_op
              refine hK _ ?_
              clear hK K
              refine callList (i := 27) rfl (by kernel_rfl) rfl (fun K hK => ?_)
              go_simp
              have HBE : Hid (Below W5.heap.size W5 (w0.setCell ⟨g7, j * 4 + 3, none⟩ (.bool false))) := Below.setCell hBw HG7.out _
              have HOE : Hid (OwnE (w0.setCell ⟨g7, j * 4 + 3, none⟩ (.bool false)) (.slice (some ⟨g7, 0, none⟩) n c7) _) := OwnG.set encE_len HO0.out HTL2.out HZT.out (by decide) (HMK.out false (by simp))
              refine hK.out _ _ ⟨⟨_, HBE.out⟩, rfl⟩ ?_
              clear hK K hC hne k0 k1 k2 k3 k4 k5 k6 g0 g1 g2 g3 f0 hBw
              refine wpAnyH_done (by kernel_rfl) ?_ _
              go_wp2
              go_roundw
              case rel => exact ⟨j + 1, _, by go_num, by omega, HM1.out, HOE.out, HBE.out⟩
              case measure => simp [intOf]; omega
            | true =>
              refine takeList (i := 16) rfl (by kernel_rfl) (by kernel_rfl) (by kernel_rfl) (fun _ _ _ _ h => h) rfl rfl hC (fun K hK => ?_)
              go_big_quiet_op
              refine hK _ ?_
              clear hK K
              refine takeList (i := 17) rfl (by kernel_rfl) (by kernel_rfl) (by kernel_rfl) (fun _ _ _ _ h => h) rfl rfl hC (fun K hK => ?_)
              go_big_quiet_op
              refine hK _ ?_
              clear hK K
              refine takeList (i := 18) rfl (by kernel_rfl) (by kernel_rfl) (by kernel_rfl) (fun _ _ _ _ h => h) rfl rfl hC (fun K hK => ?_)
              go_big_quiet_op
              refine hK _ ?_
              clear hK K
              refine takeList (i := 19) rfl (by kernel_rfl) (by kernel_rfl) (by kernel_rfl) (fun _ _ _ _ h => h) rfl rfl hC (fun K hK => ?_)
              go_big_quiet_op
              refine hK _ ?_
              clear hK K
              refine takeList (i := 20) rfl (by kernel_rfl) (by kernel_rfl) (by kernel_rfl) (fun _ _ _ _ h => h) rfl rfl hC (fun K hK => ?_)
              go_big_quiet_op
              refine hK _ ?_
              clear hK K
              refine callList (i := 21) rfl (by kernel_rfl) rfl (fun K hK => ?_)
              go_simp
              refine hK.out _ _ hC ?_
              try go_simp
              clear hK K
              refine callList (i := 22) rfl (by kernel_rfl) rfl (fun K hK => ?_)
              go_simp
              refine (HH.out _).mono ?_
              rintro e wa ⟨rfl, hk⟩
              replace hBw := bt hBw hk
              have HO1 : Hid (OwnE wa (.slice (some ⟨g7, 0, none⟩) n c7) t) := HO0.out.below hk
              clear g0 g1 g2 g3 f0 HO0
              have HO0 := HO1
              have g0 := OwnG.cell encE_len HO0.out HZT.out (j := 3) (by decide) rfl
              have g1 : True := trivial
              have g2 : True := trivial
              have g3 : True := trivial
              have f0 := OwnG.fz HO0.out HTL2.out (j * 4 + 3)
              refine hK.out _ _ ⟨⟨_, hBw⟩, rfl⟩ ?_
              try go_simp
              clear hK K hC hk
              have hC : ∃ m : NewW W5, wa = m.v := ⟨⟨_, hBw⟩, rfl⟩
              refine takeList (i := 23) rfl (by kernel_rfl) (by kernel_rfl) (by kernel_rfl) (fun _ _ _ _ h => h) rfl rfl hC (fun K hK => ?_)
              go_big_quiet_op
              refine hK _ ?_
              clear hK K
              refine takeList (i := 24) rfl (by kernel_rfl) (by kernel_rfl) (by kernel_rfl) (fun _ _ _ _ h => h) rfl rfl hC (fun K hK => ?_)
              go_big_quiet_op
              refine hK _ ?_
              clear hK K
              refine takeList (i := 25) rfl (by kernel_rfl) (by kernel_rfl) (by kernel_rfl) (fun _ _ _ _ h => h) rfl rfl hC (fun K hK => ?_)
              go_big_quiet_op
              refine hK _ ?_
              clear hK K
              refine takeList (i := 26) rfl (by kernel_rfl) (by kernel_rfl) (by kernel_rfl) (fun _ _ _ _ h => h) rfl rfl hC (fun K hK => ?_)
              go_big_quiet_op
              refine hK _ ?_
              clear hK K
              refine callList (i := 27) rfl (by kernel_rfl) rfl (fun K hK => ?_)
              go_simp
              have HBE : Hid (Below W5.heap.size W5 (wa.setCell ⟨g7, j * 4 + 3, none⟩ (.bool qh))) := Below.setCell hBw HG7.out _
              have HOE : Hid (OwnE (wa.setCell ⟨g7, j * 4 + 3, none⟩ (.bool qh)) (.slice (some ⟨g7, 0, none⟩) n c7) _) := OwnG.set encE_len HO0.out HTL2.out HZT.out (by decide) (HMK.out qh (by simp))
              refine hK.out _ _ ⟨⟨_, HBE.out⟩, rfl⟩ ?_
              clear hK K hC hne k0 k1 k2 k3 k4 k5 k6 g0 g1 g2 g3 f0 hBw
              refine wpAnyH_done (by kernel_rfl) ?_ _
              go_wp2
              go_roundw
              case rel => exact ⟨j + 1, _, by go_num, by omega, HM1.out, HOE.out, HBE.out⟩
              case measure => simp [intOf]; omega
        · obtain rfl : j = n := by omega
          have ht : t = R.l.map (C.markE x ⟨v0, v1, v2, v3, v4, v5, v6⟩) := C.Mk.done (by have := HM.out; rw [HN.out] at this; exact this)
          have hA := HAR.out.below HB.out
          have c0 := hA.cells.1
          have f0 := hA.fz 0
          clear hA
          go_wp2
          go_ret
          rw [HR.out.1, HR.out.2]
          exact ⟨rfl, RsRet.trans HRT.out fun vl1 vr1 h1 => RsRet.setL h1 HB.out (by rw [← ht]; exact HO.out) HF7.out⟩
end Go.Proofs.Ytoglhhoniojbaaa
