/-
  OrsetPlays: any acts, the set beside the document's own, all that they tell.
-/
import Derived.Test.YtoglhhoniojbaaaZ7
import Derived.Test.YtoglhhoniojbaaaKOrder9
namespace Go.Proofs.Ytoglhhoniojbaaa
open Go.RowKit Go.Lib Go.Sort Go.Shelf
set_option linter.unusedVariables false
set_option linter.unusedSimpArgs false

namespace C
theorem addF_len (R : Rf) (d : Dt) (x : Tx) : (addF R d x).l.length ≤ R.l.length + 1 ∧ (addF R d x).r.length ≤ R.r.length + 1 := by
  unfold addF
  split
  · exact ⟨by simp, Nat.le_succ _⟩
  · exact ⟨Nat.le_succ _, Nat.le_succ _⟩
theorem remF_len (R : Rf) (x : Tx) (v : V7) : (remF R x v).l.length ≤ R.l.length + 1 ∧ (remF R x v).r.length ≤ R.r.length + 1 := by
  unfold remF
  split
  · exact ⟨by simp, by simp⟩
  · exact ⟨Nat.le_succ _, Nat.le_succ _⟩
theorem few_of {S : Os} {m : Nat} (h : Tidy S m) (hm : m ≤ 600) : Few S 100000 := few_mono h.few (by omega)
end C
set_option maxRecDepth 100000 in
set_option maxHeartbeats 16000000 in
theorem plays_walk (pa : Option Addr) (l : List ActO) (ca : Nat) (ask : Tx) (w : World) (ha : ArgO w pa l) (hla : l.length ≤ maxLen) (hxl : ∀ x ∈ l, x.x.size ≤ maxLen) (hax : ask.size ≤ maxLen) :
    Calls Try.prog 4 #[.slice pa l.length ca, .string ask] w fun e w' => e = .returned (.bool true) ∧ Below w.heap.size w w' := by
  have HA : Hid (ArgO w pa l) := ha
  have HXL : Hid (∀ x ∈ l, x.x.size ≤ maxLen) := hxl
  have HAX : Hid (ask.size ≤ maxLen) := hax
  have haxm : ask.size ≤ 9223372036854775807 := by unfold maxLen at hax; omega
  clear ha hxl hax
  unfold maxLen at hla
  obtain ⟨n, hn⟩ : ∃ n, n = l.length := ⟨_, rfl⟩
  have HN : Hid (n = l.length) := hn
  rw [← hn] at hla ⊢
  clear hn
  have HK : Hid (∀ n, n ≤ 1000 → n + 2 < maxLen) := fun n hn => by unfold maxLen; omega
  go_enter Try.func4, Try.ntmps4
  go_wp2_with fail
  refine (awake9_any w).mono ?_
  rintro e w2 ⟨rfl, hb2⟩
  have HB2 : Hid (Below w.heap.size w w2) := hb2
  clear hb2
  by_cases h1 : 60 < n
  · go_wp2
    go_ret
    exact ⟨rfl, HB2.out⟩
  by_cases h2 : 150 < ask.size
  · go_wp2
    go_ret
    exact ⟨rfl, HB2.out⟩
  have HN1 : Hid (n ≤ 60) := Nat.le_of_not_lt h1
  go_wp2_with fail
  refine (s_new (OObjs.nil (Below.refl _ w2))).mono ?_
  rintro e w3 ⟨g, L3, rfl, h3, -⟩
  have H3 : Hid (OTwo w2 (w3.alloc (.cells #[.slice none 0 0, .slice none 0 0] 40)) g 0 L3 C.Os.zero w3.heap.size (.slice none 0 0) (.slice none 0 0) C.Rf.zero) := OTwo.start h3
  clear h3
  go_wp2_with fail
  obtain ⟨gr, hgr⟩ : ∃ gr, gr = w3.heap.size := ⟨_, rfl⟩
  rw [← hgr] at H3 ⊢
  generalize w3.alloc (.cells #[.slice none 0 0, .slice none 0 0] 40) = w4 at *
  clear hgr
  go_loopw [7] (fun s7 wr => ∃ (k m : Nat) (L : OLay) (S : C.Os) (vl vr : Value) (R : C.Rf), s7 = .int .i64 k ∧ k ≤ n ∧ m ≤ 2 * k ∧ Hid (OTwo w2 wr g m L S gr vl vr R) ∧ Hid (C.Tidy S k) ∧ Hid (C.RelF S R) ∧ Hid (R.l.length ≤ k ∧ R.r.length ≤ k)) (fun s7 _ => n - (intOf s7).toNat)
  case atStart => exact ⟨0, 0, L3, _, _, _, _, rfl, Nat.zero_le _, Nat.le_refl _, H3.out, C.zero_tidy, C.rel_zero, Nat.le_refl _, Nat.le_refl _⟩
  case round =>
    clear H3
    obtain ⟨k, m, L, S, vl, vr, R, rfl, hkn, hmk, HO, HT, HR, HLR⟩ := hrel
    by_cases hlt : k < n
    · obtain ⟨a, hak⟩ : ∃ a, l[k]? = some a := ⟨_, List.getElem?_eq_getElem (by have := HN.out; omega)⟩
      obtain ⟨b, oo, rfl, hat⟩ := HA.out.at hak
      have HXS : Hid (a.x.size ≤ maxLen) := HXL.out a (List.mem_of_getElem? hak)
      have hlz : (k : Int) < (n : Int) := by omega
      have HAT2 : Hid (∀ W, Below w2.heap.size w2 W → AtO a b (oo + k * 11) W) := fun W hW => hat.below (bt HB2.out hW)
      clear hak hat
      obtain ⟨qp, ⟨e1, e2⟩, y, ⟨u0, u1, u2, u3, u4, u5, u6⟩⟩ := a
      have HAT : Hid (∀ W, Below wr.heap.size wr W → AtO ⟨qp, (e1, e2), y, ⟨u0, u1, u2, u3, u4, u5, u6⟩⟩ b (oo + k * 11) W) := fun W hW => HAT2.out W (bt HO.out.bel hW)
      obtain ⟨z0, z1, z2, z3, z4, z5, z6, z7, z8, z9, z10⟩ := (HAT.out wr (Below.refl _ _)).cells
      have hblk := World.block_lt_of_cell? _ _ z0
      simp only at hblk
      have hym : y.size ≤ 9223372036854775807 := by have := HXS.out; unfold maxLen at this; simp only at this; omega
      go_upto_region 9 with fail
      go_cut [8] from 29 (fun r8 wx => ∃ gb, r8 = .pointer (some ⟨gb, 0, none⟩) ∧ Below wr.heap.size wr wx ∧ wr.heap.size ≤ gb ∧ wx.heap[gb]? = some (.cells #[.int .i64 qp, .int .i64 e1, .int .i64 e2, .string y, .int .i64 u0, .int .i64 u1, .int .i64 u2, .int .i64 u3, .int .i64 u4, .int .i64 u5, .int .i64 u6] 42))
      case first =>
        go_wp2_with fail
        go_meet
        case rel => exact ⟨_, rfl, below_new _ _, Nat.le_refl _, heap_alloc_new _ _⟩
      case rest =>
        obtain ⟨gb, rfl, hbx, hgb, hq⟩ := hcut
        have HBX : Hid (wc.heap[gb]? = some (.cells #[.int .i64 qp, .int .i64 e1, .int .i64 e2, .string y, .int .i64 u0, .int .i64 u1, .int .i64 u2, .int .i64 u3, .int .i64 u4, .int .i64 u5, .int .i64 u6] 42)) := hq
        have H0 : Hid (OTwo w2 wc g m L S gr vl vr R) := HO.out.below hbx
        have HOU : Hid (OutB wc g L S gr vl vr gb) := HO.out.out_new hgb (Array.getElem?_eq_some_iff.1 hq).1
        have HBF : Hid (Below w.heap.size w wc) := bt HB2.out H0.out.bel
        have hcs := (AtO.boxed (a := ⟨qp, (e1, e2), y, ⟨u0, u1, u2, u3, u4, u5, u6⟩⟩) hq).cells
        have c0 : wc.cell? ⟨gb, 0, none⟩ = some (.int .i64 qp) := hcs.1
        have c3 : wc.cell? ⟨gb, 3, none⟩ = some (.string y) := hcs.2.2.2.1
        clear hcs hbx hgb hq z0 z1 z2 z3 z4 z5 z6 z7 z8 z9 z10 hblk HO HAT HAT2
        by_cases h3 : 150 < y.size
        · go_wp2
          go_ret
          exact ⟨rfl, HBF.out⟩
        have HM : Hid (m + 2 ≤ 1000 ∧ k + 1 ≤ 600) := by have := HN1.out; constructor <;> omega
        have HFW : Hid (C.Few S 100000) := C.few_of HT.out (by have := HM.out; omega)
        have HLB : Hid (R.l.length ≤ 1000 ∧ R.r.length ≤ 1000) := by have h5 := HLR.out; have h6 := HM.out; constructor <;> omega
        have hF : ∀ t : HeldW (AtO ⟨qp, (e1, e2), y, ⟨u0, u1, u2, u3, u4, u5, u6⟩⟩ gb 0), _ := fun t => t.h.cells
        have z1 : ∀ t : HeldW (AtO ⟨qp, (e1, e2), y, ⟨u0, u1, u2, u3, u4, u5, u6⟩⟩ gb 0), t.v.cell? ⟨gb, 1, none⟩ = some (.int .i64 e1) := fun t => (hF t).2.1
        have z2 : ∀ t : HeldW (AtO ⟨qp, (e1, e2), y, ⟨u0, u1, u2, u3, u4, u5, u6⟩⟩ gb 0), t.v.cell? ⟨gb, 2, none⟩ = some (.int .i64 e2) := fun t => (hF t).2.2.1
        have z3 : ∀ t : HeldW (AtO ⟨qp, (e1, e2), y, ⟨u0, u1, u2, u3, u4, u5, u6⟩⟩ gb 0), t.v.cell? ⟨gb, 3, none⟩ = some (.string y) := fun t => (hF t).2.2.2.1
        have z4 : ∀ t : HeldW (AtO ⟨qp, (e1, e2), y, ⟨u0, u1, u2, u3, u4, u5, u6⟩⟩ gb 0), t.v.cell? ⟨gb, 4, none⟩ = some (.int .i64 u0) := fun t => (hF t).2.2.2.2.1
        have z5 : ∀ t : HeldW (AtO ⟨qp, (e1, e2), y, ⟨u0, u1, u2, u3, u4, u5, u6⟩⟩ gb 0), t.v.cell? ⟨gb, 5, none⟩ = some (.int .i64 u1) := fun t => (hF t).2.2.2.2.2.1
        have z6 : ∀ t : HeldW (AtO ⟨qp, (e1, e2), y, ⟨u0, u1, u2, u3, u4, u5, u6⟩⟩ gb 0), t.v.cell? ⟨gb, 6, none⟩ = some (.int .i64 u2) := fun t => (hF t).2.2.2.2.2.2.1
        have z7 : ∀ t : HeldW (AtO ⟨qp, (e1, e2), y, ⟨u0, u1, u2, u3, u4, u5, u6⟩⟩ gb 0), t.v.cell? ⟨gb, 7, none⟩ = some (.int .i64 u3) := fun t => (hF t).2.2.2.2.2.2.2.1
        have z8 : ∀ t : HeldW (AtO ⟨qp, (e1, e2), y, ⟨u0, u1, u2, u3, u4, u5, u6⟩⟩ gb 0), t.v.cell? ⟨gb, 8, none⟩ = some (.int .i64 u4) := fun t => (hF t).2.2.2.2.2.2.2.2.1
        have z9 : ∀ t : HeldW (AtO ⟨qp, (e1, e2), y, ⟨u0, u1, u2, u3, u4, u5, u6⟩⟩ gb 0), t.v.cell? ⟨gb, 9, none⟩ = some (.int .i64 u5) := fun t => (hF t).2.2.2.2.2.2.2.2.2.1
        have z10 : ∀ t : HeldW (AtO ⟨qp, (e1, e2), y, ⟨u0, u1, u2, u3, u4, u5, u6⟩⟩ gb 0), t.v.cell? ⟨gb, 10, none⟩ = some (.int .i64 u6) := fun t => (hF t).2.2.2.2.2.2.2.2.2.2
        have hne : Nonempty (HeldW (AtO ⟨qp, (e1, e2), y, ⟨u0, u1, u2, u3, u4, u5, u6⟩⟩ gb 0)) := ⟨⟨wc, AtO.boxed HBX.out⟩⟩
        clear hF
        by_cases hop : qp = 0
        · subst hop
          obtain ⟨er, her⟩ : ∃ er, C.errO S (e1, e2) y = er := ⟨_, rfl⟩
          have HER : Hid (C.errO S (e1, e2) y = er) := her
          clear her
          have hee : (er == er) = true := beq_self_eq_true er
          go_wp2_with fail
          clear c0 c3
          have hC : ∃ t : HeldW (AtO ⟨0, (e1, e2), y, ⟨u0, u1, u2, u3, u4, u5, u6⟩⟩ gb 0), wc.drew = t.v := ⟨⟨wc.drew, AtO.boxed (show wc.drew.heap[gb]? = _ from HBX.out)⟩, rfl⟩
          refine wp_region_held_drew (S := fun w' => ∃ t : HeldW (AtO ⟨0, (e1, e2), y, ⟨u0, u1, u2, u3, u4, u5, u6⟩⟩ gb 0), w' = t.v) (by kernel_rfl) hC (fun _ => ?_)
          have HO0 : OTwo w2 wc.drew g m L S gr vl vr R := H0.out.below ((Below.refl _ wc).drew)
          have HU0 : OutB wc.drew g L S gr vl vr gb := HOU.out
          have HX0 : wc.drew.heap[gb]? = some (.cells (ActO.cells ⟨0, (e1, e2), y, ⟨u0, u1, u2, u3, u4, u5, u6⟩⟩).toArray 42) := HBX.out
          generalize wc.drew = W0 at *
          refine takeList (i := 0) rfl (by kernel_rfl) (by kernel_rfl) (by kernel_rfl) (fun _ _ _ _ h => h) rfl rfl hC (fun K hK => ?_)
          go_big_quiet_op
          refine hK _ ?_
          clear hK K
          refine takeList (i := 1) rfl (by kernel_rfl) (by kernel_rfl) (by kernel_rfl) (fun _ _ _ _ h => h) rfl rfl hC (fun K hK => ?_)
          go_big_quiet_op
          refine hK _ ?_
          clear hK K
          refine takeList (i := 2) rfl (by kernel_rfl) (by kernel_rfl) (by kernel_rfl) (fun _ _ _ _ h => h) rfl rfl hC (fun K hK => ?_)
          go_big_quiet_op
          refine hK _ ?_
          clear hK K
          refine takeList (i := 3) rfl (by kernel_rfl) (by kernel_rfl) (by kernel_rfl) (fun _ _ _ _ h => h) rfl rfl hC (fun K hK => ?_)
          go_big_quiet_op
          refine hK _ ?_
          clear hK K
          refine takeList (i := 4) rfl (by kernel_rfl) (by kernel_rfl) (by kernel_rfl) (fun _ _ _ _ h => h) rfl rfl hC (fun K hK => ?_)
          go_big_quiet_op
          refine hK _ ?_
          clear hK K
          refine takeList (i := 6) rfl (by kernel_rfl) (by kernel_rfl) (by kernel_rfl) (fun _ _ _ _ h => h) rfl rfl hC (fun K hK => ?_)
          go_big_quiet_op
          refine hK _ ?_
          clear hK K
          refine takeList (i := 7) rfl (by kernel_rfl) (by kernel_rfl) (by kernel_rfl) (fun _ _ _ _ h => h) rfl rfl hC (fun K hK => ?_)
          go_big_quiet_op
          refine hK _ ?_
          clear hK K
          refine takeList (i := 8) rfl (by kernel_rfl) (by kernel_rfl) (by kernel_rfl) (fun _ _ _ _ h => h) rfl rfl hC (fun K hK => ?_)
          go_big_quiet_op
          refine hK _ ?_
          clear hK K
          refine takeList (i := 9) rfl (by kernel_rfl) (by kernel_rfl) (by kernel_rfl) (fun _ _ _ _ h => h) rfl rfl hC (fun K hK => ?_)
          go_big_quiet_op
          refine hK _ ?_
          clear hK K
          refine takeList (i := 10) rfl (by kernel_rfl) (by kernel_rfl) (by kernel_rfl) (fun _ _ _ _ h => h) rfl rfl hC (fun K hK => ?_)
          go_big_quiet_op
          refine hK _ ?_
          clear hK K
          refine callList (i := 5) rfl (by kernel_rfl) rfl (fun K hK => ?_)
          go_simp
          refine (t_add HO0 y e1 e2 (HK.out _ (by have := HM.out; omega)) HXS.out HFW.out).mono ?_
          rintro e w5 ⟨he, L5, h5, hk5⟩
          rw [HER.out] at he
          subst he
          obtain ⟨hs5, hu5⟩ := hk5 gb HU0
          have hx5 := hs5.trans HX0
          refine hK.out _ _ ⟨⟨_, AtO.boxed hx5⟩, rfl⟩ ?_
          try go_simp
          clear hK K hC HO0 HU0 HX0 hk5 hs5
          have hC : ∃ t : HeldW (AtO ⟨0, (e1, e2), y, ⟨u0, u1, u2, u3, u4, u5, u6⟩⟩ gb 0), w5 = t.v := ⟨⟨_, AtO.boxed hx5⟩, rfl⟩
          refine callList (i := 11) rfl (by kernel_rfl) rfl (fun K hK => ?_)
          go_simp
          refine (t_radd h5 y e1 e2 er HXS.out HLB.out (by rw [HR.out.err]; exact HER.out)).mono ?_
          rintro e wz ⟨rfl, vl6, vr6, h6, hk6⟩
          obtain ⟨hs6, hu6⟩ := hk6 gb hu5
          have hx6 := hs6.trans hx5
          refine hK.out _ _ ⟨⟨_, AtO.boxed hx6⟩, rfl⟩ ?_
          try go_simp
          clear hK K hC hk6 hs6 hu6 hu5 h5
          have hC : ∃ t : HeldW (AtO ⟨0, (e1, e2), y, ⟨u0, u1, u2, u3, u4, u5, u6⟩⟩ gb 0), wz = t.v := ⟨⟨_, AtO.boxed hx6⟩, rfl⟩
          clear hx5
          refine takeList (i := 12) rfl (by kernel_rfl) (by kernel_rfl) (by kernel_rfl) (fun _ _ _ _ h => h) rfl rfl hC (fun K hK => ?_)
          go_big_quiet_op
          refine hK _ ?_
          clear hK K
          refine takeList (i := 13) rfl (by kernel_rfl) (by kernel_rfl) (by kernel_rfl) (fun _ _ _ _ h => h) rfl rfl hC (fun K hK => ?_)
          go_big_quiet_op
          refine hK _ ?_
          clear hK K
          have htn : C.Tidy (C.addO S (e1, e2) y) (k + 1) := C.addO_tidy HT.out _ _
          have hrn : C.RelF (C.addO S (e1, e2) y) (C.addF R (e1, e2) y) := HR.out.add _ _
          have hln : (C.addF R (e1, e2) y).l.length ≤ k + 1 ∧ (C.addF R (e1, e2) y).r.length ≤ k + 1 := by
            have h5 := C.addF_len R (e1, e2) y
            have h6 := HLR.out
            constructor <;> omega
          obtain ⟨S6, hS6⟩ : ∃ S6, S6 = C.addO S (e1, e2) y := ⟨_, rfl⟩
          obtain ⟨R6, hR6⟩ : ∃ R6, R6 = C.addF R (e1, e2) y := ⟨_, rfl⟩
          obtain ⟨L6, hL6⟩ : ∃ L6, L6 = L5 := ⟨_, rfl⟩
          rw [← hS6, ← hR6, ← hL6] at h6
          rw [← hS6, ← hR6] at hrn
          rw [← hS6] at htn
          rw [← hR6] at hln
          have HOn : Hid (OTwo w2 wz g (m + 2) L6 S6 gr vl6 vr6 R6) := h6
          have HTn : Hid (C.Tidy S6 (k + 1)) := htn
          have HRn : Hid (C.RelF S6 R6) := hrn
          have HLn : Hid (R6.l.length ≤ k + 1 ∧ R6.r.length ≤ k + 1) := hln
          clear htn hrn hln h6 hS6 hR6 hL6 hx6 hee
          refine wpAnyH_done (by kernel_rfl) ?_ _
          clear z1 z2 z3 z4 z5 z6 z7 z8 z9 z10 hne hC
          go_wp2_with fail
          obtain ⟨ks, hks⟩ : ∃ ks, ks = C.allF R6.l [] := ⟨_, rfl⟩
          have HKA : Hid (IsAll S6 ks) := by show IsAll _ _; rw [hks]; exact all_rel HRn.out HOn.out.ok HTn.out.short
          clear hks
          obtain ⟨st, hst⟩ : ∃ st : ByteArray, st = ⟨(C.putB S6 ks).toArray⟩ := ⟨_, rfl⟩
          obtain ⟨z, hz0⟩ : ∃ z, decide (0 < (S6.th ask).length) = z := ⟨_, rfl⟩
          have HZ : Hid (decide (0 < (S6.th ask).length) = z) := hz0
          have HST : Hid (st = ⟨(C.putB S6 ks).toArray⟩) := hst
          obtain ⟨nd, hnd⟩ : ∃ nd, (S6.th ask).length = nd := ⟨_, rfl⟩
          have HND : Hid ((S6.th ask).length = nd) := hnd
          have hz1 : decide (0 < nd) = z := by rw [← hnd]; exact hz0
          have hz2 : decide ((0 : Int) < (nd : Int)) = z := by rw [← hz1]; simp
          clear hst hz0 hnd
          have HFn : Hid (C.Few S6 100000) := C.few_of HTn.out (by have := HM.out; omega)
          have HLn2 : Hid (R6.l.length ≤ 1000) := by have h5 := HLn.out; have h6 := HM.out; show _ ≤ _; omega
          have hzz : (z == z) = true := beq_self_eq_true z
          have hzn : (z != z) = false := bne_self_eq_false z
          have hss : (st.toList == st.toList) = true := beq_self_eq_true _
          have hne : Nonempty (NewW wz) := ⟨NewW.start wz⟩
          have hC : ∃ m : NewW wz, wz.drew = m.v := ⟨⟨wz.drew, (Below.refl _ wz).drew⟩, rfl⟩
          refine wp_region_held_drew (S := fun w' => ∃ m : NewW wz, w' = m.v) (by kernel_rfl) hC (fun _ => ?_)
          have hB : Below wz.heap.size wz wz.drew := (Below.refl _ wz).drew
          generalize hW0 : wz.drew = Wy at *
          clear hW0
          refine takeList (i := 0) rfl (by kernel_rfl) (by kernel_rfl) (by kernel_rfl) (fun _ _ _ _ h => h) rfl rfl hC (fun K hK => ?_)
          go_big_quiet_op
          refine hK _ ?_
          clear hK K
          refine takeList (i := 1) rfl (by kernel_rfl) (by kernel_rfl) (by kernel_rfl) (fun _ _ _ _ h => h) rfl rfl hC (fun K hK => ?_)
          go_big_quiet_op
          refine hK _ ?_
          clear hK K
          refine takeList (i := 2) rfl (by kernel_rfl) (by kernel_rfl) (by kernel_rfl) (fun _ _ _ _ h => h) rfl rfl hC (fun K hK => ?_)
          go_big_quiet_op
          refine hK _ ?_
          clear hK K
          refine takeList (i := 3) rfl (by kernel_rfl) (by kernel_rfl) (by kernel_rfl) (fun _ _ _ _ h => h) rfl rfl hC (fun K hK => ?_)
          go_big_quiet_op
          refine hK _ ?_
          clear hK K
          refine takeList (i := 5) rfl (by kernel_rfl) (by kernel_rfl) (by kernel_rfl) (fun _ _ _ _ h => h) rfl rfl hC (fun K hK => ?_)
          go_big_quiet_op
          refine hK _ ?_
          clear hK K
          refine callList (i := 4) rfl (by kernel_rfl) rfl (fun K hK => ?_)
          go_simp
          refine (t_all (HOn.out.below hB) (by have := HM.out; omega)).mono ?_
          rintro e W1 ⟨⟨va, ka, rfl, hka, hta⟩, hk⟩
          obtain rfl : ka = ks := IsAll.uniq hka HKA.out
          clear hka
          replace hB := bt hB hk
          refine hK.out _ _ ⟨⟨_, hB⟩, rfl⟩ ?_
          try go_simp
          clear hK K hC hk
          have hC : ∃ m : NewW wz, W1 = m.v := ⟨⟨_, hB⟩, rfl⟩
          refine callList (i := 6) rfl (by kernel_rfl) rfl (fun K hK => ?_)
          go_simp
          refine (t_rall (HOn.out.below hB) HRn.out HTn.out.short HLn2.out HKA.out).mono ?_
          rintro e W2 ⟨⟨vb, rfl, htb, hkl⟩, hk⟩
          replace hta := hta.below hk
          replace hB := bt hB hk
          refine hK.out _ _ ⟨⟨_, hB⟩, rfl⟩ ?_
          try go_simp
          clear hK K hC hk
          have hC : ∃ m : NewW wz, W2 = m.v := ⟨⟨_, hB⟩, rfl⟩
          refine callList (i := 7) rfl (by kernel_rfl) rfl (fun K hK => ?_)
          go_simp
          refine (texts_true _ _ _ _ hta htb hkl).mono ?_
          rintro e W3 ⟨rfl, hk⟩
          clear hta htb hkl
          replace hB := bt hB hk
          refine hK.out _ _ ⟨⟨_, hB⟩, rfl⟩ ?_
          try go_simp
          clear hK K hC hk
          have hC : ∃ m : NewW wz, W3 = m.v := ⟨⟨_, hB⟩, rfl⟩
          refine takeList (i := 8) rfl (by kernel_rfl) (by kernel_rfl) (by kernel_rfl) (fun _ _ _ _ h => h) rfl rfl hC (fun K hK => ?_)
          go_big_quiet_op
          refine hK _ ?_
          clear hK K
          refine takeList (i := 9) rfl (by kernel_rfl) (by kernel_rfl) (by kernel_rfl) (fun _ _ _ _ h => h) rfl rfl hC (fun K hK => ?_)
          go_big_quiet_op
          refine hK _ ?_
          clear hK K
          refine takeList (i := 10) rfl (by kernel_rfl) (by kernel_rfl) (by kernel_rfl) (fun _ _ _ _ h => h) rfl rfl hC (fun K hK => ?_)
          go_big_quiet_op
          refine hK _ ?_
          clear hK K
          refine takeList (i := 11) rfl (by kernel_rfl) (by kernel_rfl) (by kernel_rfl) (fun _ _ _ _ h => h) rfl rfl hC (fun K hK => ?_)
          go_big_quiet_op
          refine hK _ ?_
          clear hK K
          refine takeList (i := 12) rfl (by kernel_rfl) (by kernel_rfl) (by kernel_rfl) (fun _ _ _ _ h => h) rfl rfl hC (fun K hK => ?_)
          go_big_quiet_op
          refine hK _ ?_
          clear hK K
          refine takeList (i := 14) rfl (by kernel_rfl) (by kernel_rfl) (by kernel_rfl) (fun _ _ _ _ h => h) rfl rfl hC (fun K hK => ?_)
          go_big_quiet_op
          refine hK _ ?_
          clear hK K
          refine takeList (i := 15) rfl (by kernel_rfl) (by kernel_rfl) (by kernel_rfl) (fun _ _ _ _ h => h) rfl rfl hC (fun K hK => ?_)
          go_big_quiet_op
          refine hK _ ?_
          clear hK K
          refine callList (i := 13) rfl (by kernel_rfl) rfl (fun K hK => ?_)
          go_simp
          refine (t_dots (HOn.out.below hB) ask HAX.out HFn.out).mono ?_
          rintro e W4 ⟨⟨vd, rfl, hod⟩, hk⟩
          replace hB := bt hB hk
          refine hK.out _ _ ⟨⟨_, hB⟩, rfl⟩ ?_
          try go_simp
          clear hK K hC hk
          have hC : ∃ m : NewW wz, W4 = m.v := ⟨⟨_, hB⟩, rfl⟩
          refine callList (i := 16) rfl (by kernel_rfl) rfl (fun K hK => ?_)
          go_simp
          refine (t_rdots (HOn.out.below hB) HRn.out ask HAX.out HLn2.out).mono ?_
          rintro e W5 ⟨⟨pd, cd, rfl, hoe⟩, hk⟩
          replace hod := hod.below hk
          replace hB := bt hB hk
          refine hK.out _ _ ⟨⟨_, hB⟩, rfl⟩ ?_
          try go_simp
          clear hK K hC hk
          have hC : ∃ m : NewW wz, W5 = m.v := ⟨⟨_, hB⟩, rfl⟩
          refine callList (i := 17) rfl (by kernel_rfl) rfl (fun K hK => ?_)
          go_simp
          refine (odots_true _ _ _ _ hod hoe (by have := HFn.out ask; omega)).mono ?_
          rintro e W6 ⟨rfl, hk⟩
          clear hod hoe
          replace hB := bt hB hk
          refine hK.out _ _ ⟨⟨_, hB⟩, rfl⟩ ?_
          try go_simp
          clear hK K hC hk
          have hC : ∃ m : NewW wz, W6 = m.v := ⟨⟨_, hB⟩, rfl⟩
          refine takeList (i := 18) rfl (by kernel_rfl) (by kernel_rfl) (by kernel_rfl) (fun _ _ _ _ h => h) rfl rfl hC (fun K hK => ?_)
          go_big_quiet_op
          refine hK _ ?_
          clear hK K
          refine takeList (i := 19) rfl (by kernel_rfl) (by kernel_rfl) (by kernel_rfl) (fun _ _ _ _ h => h) rfl rfl hC (fun K hK => ?_)
          go_big_quiet_op
          refine hK _ ?_
          clear hK K
          refine takeList (i := 20) rfl (by kernel_rfl) (by kernel_rfl) (by kernel_rfl) (fun _ _ _ _ h => h) rfl rfl hC (fun K hK => ?_)
          go_big_quiet_op
          refine hK _ ?_
          clear hK K
          refine takeList (i := 21) rfl (by kernel_rfl) (by kernel_rfl) (by kernel_rfl) (fun _ _ _ _ h => h) rfl rfl hC (fun K hK => ?_)
          go_big_quiet_op
          refine hK _ ?_
          clear hK K
          refine takeList (i := 22) rfl (by kernel_rfl) (by kernel_rfl) (by kernel_rfl) (fun _ _ _ _ h => h) rfl rfl hC (fun K hK => ?_)
          go_big_quiet_op
          refine hK _ ?_
          clear hK K
          refine takeList (i := 24) rfl (by kernel_rfl) (by kernel_rfl) (by kernel_rfl) (fun _ _ _ _ h => h) rfl rfl hC (fun K hK => ?_)
          go_big_quiet_op
          refine hK _ ?_
          clear hK K
          refine takeList (i := 25) rfl (by kernel_rfl) (by kernel_rfl) (by kernel_rfl) (fun _ _ _ _ h => h) rfl rfl hC (fun K hK => ?_)
          go_big_quiet_op
          refine hK _ ?_
          clear hK K
          refine callList (i := 23) rfl (by kernel_rfl) rfl (fun K hK => ?_)
          go_simp
          refine (t_has (HOn.out.below hB) ask z HAX.out HFn.out HZ.out).mono ?_
          rintro e W7 ⟨rfl, hk⟩
          replace hB := bt hB hk
          refine hK.out _ _ ⟨⟨_, hB⟩, rfl⟩ ?_
          try go_simp
          clear hK K hC hk
          have hC : ∃ m : NewW wz, W7 = m.v := ⟨⟨_, hB⟩, rfl⟩
          refine callList (i := 26) rfl (by kernel_rfl) rfl (fun K hK => ?_)
          go_simp
          refine (t_rdots (HOn.out.below hB) HRn.out ask HAX.out HLn2.out).mono ?_
          rintro e W8 ⟨⟨pe, ce, rfl, -⟩, hk⟩
          rw [HND.out]
          replace hB := bt hB hk
          refine hK.out _ _ ⟨⟨_, hB⟩, rfl⟩ ?_
          try go_simp
          clear hK K hC hk
          have hC : ∃ m : NewW wz, W8 = m.v := ⟨⟨_, hB⟩, rfl⟩
          refine takeVal (i := 27) (.int .i64 (nd : Int)) rfl (by kernel_rfl) (by kernel_rfl) (by kernel_rfl) (fun _ _ _ _ h => h) rfl hC (fun w' _ => by go_simp) ?_
          go_simp
          refine takeList (i := 28) rfl (by kernel_rfl) (by kernel_rfl) (by kernel_rfl) (fun _ _ _ _ h => h) rfl rfl hC (fun K hK => ?_)
          go_big_quiet_op
          refine hK _ ?_
          clear hK K
          refine takeList (i := 29) rfl (by kernel_rfl) (by kernel_rfl) (by kernel_rfl) (fun _ _ _ _ h => h) rfl rfl hC (fun K hK => ?_)
          go_big_quiet_op
          refine hK _ ?_
          clear hK K
          refine takeList (i := 30) rfl (by kernel_rfl) (by kernel_rfl) (by kernel_rfl) (fun _ _ _ _ h => h) rfl rfl hC (fun K hK => ?_)
          go_big_quiet_op
          refine hK _ ?_
          clear hK K
          refine takeList (i := 31) rfl (by kernel_rfl) (by kernel_rfl) (by kernel_rfl) (fun _ _ _ _ h => h) rfl rfl hC (fun K hK => ?_)
          go_big_quiet_op
          refine hK _ ?_
          clear hK K
          refine takeList (i := 32) rfl (by kernel_rfl) (by kernel_rfl) (by kernel_rfl) (fun _ _ _ _ h => h) rfl rfl hC (fun K hK => ?_)
          go_big_quiet_op
          refine hK _ ?_
          clear hK K
          refine takeList (i := 35) rfl (by kernel_rfl) (by kernel_rfl) (by kernel_rfl) (fun _ _ _ _ h => h) rfl rfl hC (fun K hK => ?_)
          go_big_quiet_op
          refine hK _ ?_
          clear hK K
          clear hzz hzn hz1 hz2
          refine callList (i := 33) rfl (by kernel_rfl) rfl (fun K hK => ?_)
          go_simp
          refine (t_put (HOn.out.below hB) HTn.out HM.out.2 (by have := HM.out; omega) HKA.out).mono ?_
          rintro e W9 ⟨⟨q9, n9, k9, rfl, hcw9⟩, hk⟩
          rw [← HST.out] at hcw9
          replace hB := bt hB hk
          refine hK.out _ _ ⟨⟨_, hB⟩, rfl⟩ ?_
          try go_simp
          clear hK K hC hk
          have hC : ∃ m : NewW wz, W9 = m.v := ⟨⟨_, hB⟩, rfl⟩
          have HB34 : Hid (Below wz.heap.size wz W9) := hB
          refine wpAnyH_strengthen (S' := fun w' => ∃ m : NewW W9, w' = m.v) (fun w' ⟨m, hm⟩ => ⟨⟨w', by rw [hm]; exact bt hB m.h⟩, rfl⟩) _ _ _ _ ?_
          clear hC hne
          have hC : ∃ m : NewW W9, W9 = m.v := ⟨⟨W9, Below.refl _ _⟩, rfl⟩
          have hne : Nonempty (NewW W9) := ⟨NewW.start W9⟩
          refine takeConv (i := 34) _ _ _ _ (.string st) rfl rfl rfl (by kernel_rfl) (by kernel_rfl) (by kernel_rfl) (fun _ _ _ _ h => h) rfl hC (fun w' ⟨m, hm⟩ => by rw [hm]; exact hcw9 _ m.h) ?_
          go_simp
          replace hB := Below.refl W9.heap.size W9
          refine callList (i := 36) rfl (by kernel_rfl) rfl (fun K hK => ?_)
          go_simp
          refine (t_rput (HOn.out.below HB34.out) HRn.out HTn.out HM.out.2 HLn2.out HKA.out).mono ?_
          rintro e Wa ⟨⟨qa, na, ka2, rfl, hcwa⟩, hk⟩
          rw [← HST.out] at hcwa
          replace hB := bt hB hk
          refine hK.out _ _ ⟨⟨_, hB⟩, rfl⟩ ?_
          try go_simp
          clear hK K hC hk
          have hC : ∃ m : NewW W9, Wa = m.v := ⟨⟨_, hB⟩, rfl⟩
          have HB37 : Hid (Below wz.heap.size wz Wa) := bt HB34.out hB
          refine wpAnyH_strengthen (S' := fun w' => ∃ m : NewW Wa, w' = m.v) (fun w' ⟨m, hm⟩ => ⟨⟨w', by rw [hm]; exact bt hB m.h⟩, rfl⟩) _ _ _ _ ?_
          clear hC hne
          have hC : ∃ m : NewW Wa, Wa = m.v := ⟨⟨Wa, Below.refl _ _⟩, rfl⟩
          have hne : Nonempty (NewW Wa) := ⟨NewW.start Wa⟩
          refine takeConv (i := 37) _ _ _ _ (.string st) rfl rfl rfl (by kernel_rfl) (by kernel_rfl) (by kernel_rfl) (fun _ _ _ _ h => h) rfl hC (fun w' ⟨m, hm⟩ => by rw [hm]; exact hcwa _ m.h) ?_
          go_simp
          replace hB := Below.refl Wa.heap.size Wa
          refine takeList (i := 38) rfl (by kernel_rfl) (by kernel_rfl) (by kernel_rfl) (fun _ _ _ _ h => h) rfl rfl hC (fun K hK => ?_)
          go_big_quiet_op
          refine hK _ ?_
          clear hK K
          refine takeList (i := 39) rfl (by kernel_rfl) (by kernel_rfl) (by kernel_rfl) (fun _ _ _ _ h => h) rfl rfl hC (fun K hK => ?_)
          go_big_quiet_op
          refine hK _ ?_
          clear hK K
          have HOz : Hid (OTwo w2 Wa g (m + 2) L6 S6 gr vl6 vr6 R6) := HOn.out.below HB37.out
          clear hC hne hcw9 hcwa hB
          refine wpAnyH_done (by kernel_rfl) ?_ _
          go_wp2
          go_roundw
          case rel => exact ⟨k + 1, m + 2, L6, S6, vl6, vr6, R6, by go_num, by omega, by omega, HOz.out, HTn.out, HRn.out, HLn.out⟩
          case measure => simp [intOf]; omega
        · have hopb : (qp == 0) = false := by simpa using hop
          obtain ⟨er, her⟩ : ∃ er, C.errR y ⟨u0, u1, u2, u3, u4, u5, u6⟩ = er := ⟨_, rfl⟩
          have HER : Hid (C.errR y ⟨u0, u1, u2, u3, u4, u5, u6⟩ = er) := her
          clear her
          have hee : (er == er) = true := beq_self_eq_true er
          go_wp2_with fail
          clear c0 c3
          have hC : ∃ t : HeldW (AtO ⟨qp, (e1, e2), y, ⟨u0, u1, u2, u3, u4, u5, u6⟩⟩ gb 0), wc.drew = t.v := ⟨⟨wc.drew, AtO.boxed (show wc.drew.heap[gb]? = _ from HBX.out)⟩, rfl⟩
          refine wp_region_held_drew (S := fun w' => ∃ t : HeldW (AtO ⟨qp, (e1, e2), y, ⟨u0, u1, u2, u3, u4, u5, u6⟩⟩ gb 0), w' = t.v) (by kernel_rfl) hC (fun _ => ?_)
          have HO0 : OTwo w2 wc.drew g m L S gr vl vr R := H0.out.below ((Below.refl _ wc).drew)
          have HU0 : OutB wc.drew g L S gr vl vr gb := HOU.out
          have HX0 : wc.drew.heap[gb]? = some (.cells (ActO.cells ⟨qp, (e1, e2), y, ⟨u0, u1, u2, u3, u4, u5, u6⟩⟩).toArray 42) := HBX.out
          generalize wc.drew = W0 at *
          refine takeList (i := 0) rfl (by kernel_rfl) (by kernel_rfl) (by kernel_rfl) (fun _ _ _ _ h => h) rfl rfl hC (fun K hK => ?_)
          go_big_quiet_op
          refine hK _ ?_
          clear hK K
          refine takeList (i := 1) rfl (by kernel_rfl) (by kernel_rfl) (by kernel_rfl) (fun _ _ _ _ h => h) rfl rfl hC (fun K hK => ?_)
          go_big_quiet_op
          refine hK _ ?_
          clear hK K
          refine takeList (i := 2) rfl (by kernel_rfl) (by kernel_rfl) (by kernel_rfl) (fun _ _ _ _ h => h) rfl rfl hC (fun K hK => ?_)
          go_big_quiet_op
          refine hK _ ?_
          clear hK K
          refine takeList (i := 3) rfl (by kernel_rfl) (by kernel_rfl) (by kernel_rfl) (fun _ _ _ _ h => h) rfl rfl hC (fun K hK => ?_)
          go_big_quiet_op
          refine hK _ ?_
          clear hK K
          refine takeList (i := 4) rfl (by kernel_rfl) (by kernel_rfl) (by kernel_rfl) (fun _ _ _ _ h => h) rfl rfl hC (fun K hK => ?_)
          go_big_quiet_op
          refine hK _ ?_
          clear hK K
          refine takeList (i := 6) rfl (by kernel_rfl) (by kernel_rfl) (by kernel_rfl) (fun _ _ _ _ h => h) rfl rfl hC (fun K hK => ?_)
          go_big_quiet_op
          refine hK _ ?_
          clear hK K
          refine takeList (i := 7) rfl (by kernel_rfl) (by kernel_rfl) (by kernel_rfl) (fun _ _ _ _ h => h) rfl rfl hC (fun K hK => ?_)
          go_big_quiet_op
          refine hK _ ?_
          clear hK K
          refine takeList (i := 8) rfl (by kernel_rfl) (by kernel_rfl) (by kernel_rfl) (fun _ _ _ _ h => h) rfl rfl hC (fun K hK => ?_)
          go_big_quiet_op
          refine hK _ ?_
          clear hK K
          refine takeList (i := 9) rfl (by kernel_rfl) (by kernel_rfl) (by kernel_rfl) (fun _ _ _ _ h => h) rfl rfl hC (fun K hK => ?_)
          go_big_quiet_op
          refine hK _ ?_
          clear hK K
          refine takeList (i := 10) rfl (by kernel_rfl) (by kernel_rfl) (by kernel_rfl) (fun _ _ _ _ h => h) rfl rfl hC (fun K hK => ?_)
          go_big_quiet_op
          refine hK _ ?_
          clear hK K
          refine callList (i := 5) rfl (by kernel_rfl) rfl (fun K hK => ?_)
          go_simp
          refine (t_rem HO0 y ⟨u0, u1, u2, u3, u4, u5, u6⟩ (HK.out _ (by have := HM.out; omega)) HXS.out HFW.out).mono ?_
          rintro e w5 ⟨he, L5, h5, hk5⟩
          rw [HER.out] at he
          subst he
          obtain ⟨hs5, hu5⟩ := hk5 gb HU0
          have hx5 := hs5.trans HX0
          refine hK.out _ _ ⟨⟨_, AtO.boxed hx5⟩, rfl⟩ ?_
          try go_simp
          clear hK K hC HO0 HU0 HX0 hk5 hs5
          have hC : ∃ t : HeldW (AtO ⟨qp, (e1, e2), y, ⟨u0, u1, u2, u3, u4, u5, u6⟩⟩ gb 0), w5 = t.v := ⟨⟨_, AtO.boxed hx5⟩, rfl⟩
          refine callList (i := 11) rfl (by kernel_rfl) rfl (fun K hK => ?_)
          go_simp
          refine (t_rrem h5 y ⟨u0, u1, u2, u3, u4, u5, u6⟩ HXS.out HLB.out).mono ?_
          rintro e wz ⟨he, vl6, vr6, h6, hk6⟩
          rw [HER.out] at he
          subst he
          obtain ⟨hs6, hu6⟩ := hk6 gb hu5
          have hx6 := hs6.trans hx5
          refine hK.out _ _ ⟨⟨_, AtO.boxed hx6⟩, rfl⟩ ?_
          try go_simp
          clear hK K hC hk6 hs6 hu6 hu5 h5
          have hC : ∃ t : HeldW (AtO ⟨qp, (e1, e2), y, ⟨u0, u1, u2, u3, u4, u5, u6⟩⟩ gb 0), wz = t.v := ⟨⟨_, AtO.boxed hx6⟩, rfl⟩
          clear hx5
          refine takeList (i := 12) rfl (by kernel_rfl) (by kernel_rfl) (by kernel_rfl) (fun _ _ _ _ h => h) rfl rfl hC (fun K hK => ?_)
          go_big_quiet_op
          refine hK _ ?_
          clear hK K
          refine takeList (i := 13) rfl (by kernel_rfl) (by kernel_rfl) (by kernel_rfl) (fun _ _ _ _ h => h) rfl rfl hC (fun K hK => ?_)
          go_big_quiet_op
          refine hK _ ?_
          clear hK K
          have htn : C.Tidy (C.remO S y ⟨u0, u1, u2, u3, u4, u5, u6⟩) (k + 1) := (C.remO_tidy HT.out _ _).mono (Nat.le_succ k)
          have hrn : C.RelF (C.remO S y ⟨u0, u1, u2, u3, u4, u5, u6⟩) (C.remF R y ⟨u0, u1, u2, u3, u4, u5, u6⟩) := HR.out.rem _ _
          have hln : (C.remF R y ⟨u0, u1, u2, u3, u4, u5, u6⟩).l.length ≤ k + 1 ∧ (C.remF R y ⟨u0, u1, u2, u3, u4, u5, u6⟩).r.length ≤ k + 1 := by
            have h5 := C.remF_len R y ⟨u0, u1, u2, u3, u4, u5, u6⟩
            have h6 := HLR.out
            constructor <;> omega
          obtain ⟨S6, hS6⟩ : ∃ S6, S6 = C.remO S y ⟨u0, u1, u2, u3, u4, u5, u6⟩ := ⟨_, rfl⟩
          obtain ⟨R6, hR6⟩ : ∃ R6, R6 = C.remF R y ⟨u0, u1, u2, u3, u4, u5, u6⟩ := ⟨_, rfl⟩
          obtain ⟨L6, hL6⟩ : ∃ L6, L6 = L5 := ⟨_, rfl⟩
          rw [← hS6, ← hR6, ← hL6] at h6
          rw [← hS6, ← hR6] at hrn
          rw [← hS6] at htn
          rw [← hR6] at hln
          have HOn : Hid (OTwo w2 wz g (m + 2) L6 S6 gr vl6 vr6 R6) := h6
          have HTn : Hid (C.Tidy S6 (k + 1)) := htn
          have HRn : Hid (C.RelF S6 R6) := hrn
          have HLn : Hid (R6.l.length ≤ k + 1 ∧ R6.r.length ≤ k + 1) := hln
          clear htn hrn hln h6 hS6 hR6 hL6 hx6 hee
          refine wpAnyH_done (by kernel_rfl) ?_ _
          clear z1 z2 z3 z4 z5 z6 z7 z8 z9 z10 hne hC
          go_wp2_with fail
          obtain ⟨ks, hks⟩ : ∃ ks, ks = C.allF R6.l [] := ⟨_, rfl⟩
          have HKA : Hid (IsAll S6 ks) := by show IsAll _ _; rw [hks]; exact all_rel HRn.out HOn.out.ok HTn.out.short
          clear hks
          obtain ⟨st, hst⟩ : ∃ st : ByteArray, st = ⟨(C.putB S6 ks).toArray⟩ := ⟨_, rfl⟩
          obtain ⟨z, hz0⟩ : ∃ z, decide (0 < (S6.th ask).length) = z := ⟨_, rfl⟩
          have HZ : Hid (decide (0 < (S6.th ask).length) = z) := hz0
          have HST : Hid (st = ⟨(C.putB S6 ks).toArray⟩) := hst
          obtain ⟨nd, hnd⟩ : ∃ nd, (S6.th ask).length = nd := ⟨_, rfl⟩
          have HND : Hid ((S6.th ask).length = nd) := hnd
          have hz1 : decide (0 < nd) = z := by rw [← hnd]; exact hz0
          have hz2 : decide ((0 : Int) < (nd : Int)) = z := by rw [← hz1]; simp
          clear hst hz0 hnd
          have HFn : Hid (C.Few S6 100000) := C.few_of HTn.out (by have := HM.out; omega)
          have HLn2 : Hid (R6.l.length ≤ 1000) := by have h5 := HLn.out; have h6 := HM.out; show _ ≤ _; omega
          have hzz : (z == z) = true := beq_self_eq_true z
          have hzn : (z != z) = false := bne_self_eq_false z
          have hss : (st.toList == st.toList) = true := beq_self_eq_true _
          have hne : Nonempty (NewW wz) := ⟨NewW.start wz⟩
          have hC : ∃ m : NewW wz, wz.drew = m.v := ⟨⟨wz.drew, (Below.refl _ wz).drew⟩, rfl⟩
          refine wp_region_held_drew (S := fun w' => ∃ m : NewW wz, w' = m.v) (by kernel_rfl) hC (fun _ => ?_)
          have hB : Below wz.heap.size wz wz.drew := (Below.refl _ wz).drew
          generalize hW0 : wz.drew = Wy at *
          clear hW0
          refine takeList (i := 0) rfl (by kernel_rfl) (by kernel_rfl) (by kernel_rfl) (fun _ _ _ _ h => h) rfl rfl hC (fun K hK => ?_)
          go_big_quiet_op
          refine hK _ ?_
          clear hK K
          refine takeList (i := 1) rfl (by kernel_rfl) (by kernel_rfl) (by kernel_rfl) (fun _ _ _ _ h => h) rfl rfl hC (fun K hK => ?_)
          go_big_quiet_op
          refine hK _ ?_
          clear hK K
          refine takeList (i := 2) rfl (by kernel_rfl) (by kernel_rfl) (by kernel_rfl) (fun _ _ _ _ h => h) rfl rfl hC (fun K hK => ?_)
          go_big_quiet_op
          refine hK _ ?_
          clear hK K
          refine takeList (i := 3) rfl (by kernel_rfl) (by kernel_rfl) (by kernel_rfl) (fun _ _ _ _ h => h) rfl rfl hC (fun K hK => ?_)
          go_big_quiet_op
          refine hK _ ?_
          clear hK K
          refine takeList (i := 5) rfl (by kernel_rfl) (by kernel_rfl) (by kernel_rfl) (fun _ _ _ _ h => h) rfl rfl hC (fun K hK => ?_)
          go_big_quiet_op
          refine hK _ ?_
          clear hK K
          refine callList (i := 4) rfl (by kernel_rfl) rfl (fun K hK => ?_)
          go_simp
          refine (t_all (HOn.out.below hB) (by have := HM.out; omega)).mono ?_
          rintro e W1 ⟨⟨va, ka, rfl, hka, hta⟩, hk⟩
          obtain rfl : ka = ks := IsAll.uniq hka HKA.out
          clear hka
          replace hB := bt hB hk
          refine hK.out _ _ ⟨⟨_, hB⟩, rfl⟩ ?_
          try go_simp
          clear hK K hC hk
          have hC : ∃ m : NewW wz, W1 = m.v := ⟨⟨_, hB⟩, rfl⟩
          refine callList (i := 6) rfl (by kernel_rfl) rfl (fun K hK => ?_)
          go_simp
          refine (t_rall (HOn.out.below hB) HRn.out HTn.out.short HLn2.out HKA.out).mono ?_
          rintro e W2 ⟨⟨vb, rfl, htb, hkl⟩, hk⟩
          replace hta := hta.below hk
          replace hB := bt hB hk
          refine hK.out _ _ ⟨⟨_, hB⟩, rfl⟩ ?_
          try go_simp
          clear hK K hC hk
          have hC : ∃ m : NewW wz, W2 = m.v := ⟨⟨_, hB⟩, rfl⟩
          refine callList (i := 7) rfl (by kernel_rfl) rfl (fun K hK => ?_)
          go_simp
          refine (texts_true _ _ _ _ hta htb hkl).mono ?_
          rintro e W3 ⟨rfl, hk⟩
          clear hta htb hkl
          replace hB := bt hB hk
          refine hK.out _ _ ⟨⟨_, hB⟩, rfl⟩ ?_
          try go_simp
          clear hK K hC hk
          have hC : ∃ m : NewW wz, W3 = m.v := ⟨⟨_, hB⟩, rfl⟩
          refine takeList (i := 8) rfl (by kernel_rfl) (by kernel_rfl) (by kernel_rfl) (fun _ _ _ _ h => h) rfl rfl hC (fun K hK => ?_)
          go_big_quiet_op
          refine hK _ ?_
          clear hK K
          refine takeList (i := 9) rfl (by kernel_rfl) (by kernel_rfl) (by kernel_rfl) (fun _ _ _ _ h => h) rfl rfl hC (fun K hK => ?_)
          go_big_quiet_op
          refine hK _ ?_
          clear hK K
          refine takeList (i := 10) rfl (by kernel_rfl) (by kernel_rfl) (by kernel_rfl) (fun _ _ _ _ h => h) rfl rfl hC (fun K hK => ?_)
          go_big_quiet_op
          refine hK _ ?_
          clear hK K
          refine takeList (i := 11) rfl (by kernel_rfl) (by kernel_rfl) (by kernel_rfl) (fun _ _ _ _ h => h) rfl rfl hC (fun K hK => ?_)
          go_big_quiet_op
          refine hK _ ?_
          clear hK K
          refine takeList (i := 12) rfl (by kernel_rfl) (by kernel_rfl) (by kernel_rfl) (fun _ _ _ _ h => h) rfl rfl hC (fun K hK => ?_)
          go_big_quiet_op
          refine hK _ ?_
          clear hK K
          refine takeList (i := 14) rfl (by kernel_rfl) (by kernel_rfl) (by kernel_rfl) (fun _ _ _ _ h => h) rfl rfl hC (fun K hK => ?_)
          go_big_quiet_op
          refine hK _ ?_
          clear hK K
          refine takeList (i := 15) rfl (by kernel_rfl) (by kernel_rfl) (by kernel_rfl) (fun _ _ _ _ h => h) rfl rfl hC (fun K hK => ?_)
          go_big_quiet_op
          refine hK _ ?_
          clear hK K
          refine callList (i := 13) rfl (by kernel_rfl) rfl (fun K hK => ?_)
          go_simp
          refine (t_dots (HOn.out.below hB) ask HAX.out HFn.out).mono ?_
          rintro e W4 ⟨⟨vd, rfl, hod⟩, hk⟩
          replace hB := bt hB hk
          refine hK.out _ _ ⟨⟨_, hB⟩, rfl⟩ ?_
          try go_simp
          clear hK K hC hk
          have hC : ∃ m : NewW wz, W4 = m.v := ⟨⟨_, hB⟩, rfl⟩
          refine callList (i := 16) rfl (by kernel_rfl) rfl (fun K hK => ?_)
          go_simp
          refine (t_rdots (HOn.out.below hB) HRn.out ask HAX.out HLn2.out).mono ?_
          rintro e W5 ⟨⟨pd, cd, rfl, hoe⟩, hk⟩
          replace hod := hod.below hk
          replace hB := bt hB hk
          refine hK.out _ _ ⟨⟨_, hB⟩, rfl⟩ ?_
          try go_simp
          clear hK K hC hk
          have hC : ∃ m : NewW wz, W5 = m.v := ⟨⟨_, hB⟩, rfl⟩
          refine callList (i := 17) rfl (by kernel_rfl) rfl (fun K hK => ?_)
          go_simp
          refine (odots_true _ _ _ _ hod hoe (by have := HFn.out ask; omega)).mono ?_
          rintro e W6 ⟨rfl, hk⟩
          clear hod hoe
          replace hB := bt hB hk
          refine hK.out _ _ ⟨⟨_, hB⟩, rfl⟩ ?_
          try go_simp
          clear hK K hC hk
          have hC : ∃ m : NewW wz, W6 = m.v := ⟨⟨_, hB⟩, rfl⟩
          refine takeList (i := 18) rfl (by kernel_rfl) (by kernel_rfl) (by kernel_rfl) (fun _ _ _ _ h => h) rfl rfl hC (fun K hK => ?_)
          go_big_quiet_op
          refine hK _ ?_
          clear hK K
          refine takeList (i := 19) rfl (by kernel_rfl) (by kernel_rfl) (by kernel_rfl) (fun _ _ _ _ h => h) rfl rfl hC (fun K hK => ?_)
          go_big_quiet_op
          refine hK _ ?_
          clear hK K
          refine takeList (i := 20) rfl (by kernel_rfl) (by kernel_rfl) (by kernel_rfl) (fun _ _ _ _ h => h) rfl rfl hC (fun K hK => ?_)
          go_big_quiet_op
          refine hK _ ?_
          clear hK K
          refine takeList (i := 21) rfl (by kernel_rfl) (by kernel_rfl) (by kernel_rfl) (fun _ _ _ _ h => h) rfl rfl hC (fun K hK => ?_)
          go_big_quiet_op
          refine hK _ ?_
          clear hK K
          refine takeList (i := 22) rfl (by kernel_rfl) (by kernel_rfl) (by kernel_rfl) (fun _ _ _ _ h => h) rfl rfl hC (fun K hK => ?_)
          go_big_quiet_op
          refine hK _ ?_
          clear hK K
          refine takeList (i := 24) rfl (by kernel_rfl) (by kernel_rfl) (by kernel_rfl) (fun _ _ _ _ h => h) rfl rfl hC (fun K hK => ?_)
          go_big_quiet_op
          refine hK _ ?_
          clear hK K
          refine takeList (i := 25) rfl (by kernel_rfl) (by kernel_rfl) (by kernel_rfl) (fun _ _ _ _ h => h) rfl rfl hC (fun K hK => ?_)
          go_big_quiet_op
          refine hK _ ?_
          clear hK K
          refine callList (i := 23) rfl (by kernel_rfl) rfl (fun K hK => ?_)
          go_simp
          refine (t_has (HOn.out.below hB) ask z HAX.out HFn.out HZ.out).mono ?_
          rintro e W7 ⟨rfl, hk⟩
          replace hB := bt hB hk
          refine hK.out _ _ ⟨⟨_, hB⟩, rfl⟩ ?_
          try go_simp
          clear hK K hC hk
          have hC : ∃ m : NewW wz, W7 = m.v := ⟨⟨_, hB⟩, rfl⟩
          refine callList (i := 26) rfl (by kernel_rfl) rfl (fun K hK => ?_)
          go_simp
          refine (t_rdots (HOn.out.below hB) HRn.out ask HAX.out HLn2.out).mono ?_
          rintro e W8 ⟨⟨pe, ce, rfl, -⟩, hk⟩
          rw [HND.out]
          replace hB := bt hB hk
          refine hK.out _ _ ⟨⟨_, hB⟩, rfl⟩ ?_
          try go_simp
          clear hK K hC hk
          have hC : ∃ m : NewW wz, W8 = m.v := ⟨⟨_, hB⟩, rfl⟩
          refine takeVal (i := 27) (.int .i64 (nd : Int)) rfl (by kernel_rfl) (by kernel_rfl) (by kernel_rfl) (fun _ _ _ _ h => h) rfl hC (fun w' _ => by go_simp) ?_
          go_simp
          refine takeList (i := 28) rfl (by kernel_rfl) (by kernel_rfl) (by kernel_rfl) (fun _ _ _ _ h => h) rfl rfl hC (fun K hK => ?_)
          go_big_quiet_op
          refine hK _ ?_
          clear hK K
          refine takeList (i := 29) rfl (by kernel_rfl) (by kernel_rfl) (by kernel_rfl) (fun _ _ _ _ h => h) rfl rfl hC (fun K hK => ?_)
          go_big_quiet_op
          refine hK _ ?_
          clear hK K
          refine takeList (i := 30) rfl (by kernel_rfl) (by kernel_rfl) (by kernel_rfl) (fun _ _ _ _ h => h) rfl rfl hC (fun K hK => ?_)
          go_big_quiet_op
          refine hK _ ?_
          clear hK K
          refine takeList (i := 31) rfl (by kernel_rfl) (by kernel_rfl) (by kernel_rfl) (fun _ _ _ _ h => h) rfl rfl hC (fun K hK => ?_)
          go_big_quiet_op
          refine hK _ ?_
          clear hK K
          refine takeList (i := 32) rfl (by kernel_rfl) (by kernel_rfl) (by kernel_rfl) (fun _ _ _ _ h => h) rfl rfl hC (fun K hK => ?_)
          go_big_quiet_op
          refine hK _ ?_
          clear hK K
          refine takeList (i := 35) rfl (by kernel_rfl) (by kernel_rfl) (by kernel_rfl) (fun _ _ _ _ h => h) rfl rfl hC (fun K hK => ?_)
          go_big_quiet_op
          refine hK _ ?_
          clear hK K
          clear hzz hzn hz1 hz2
          refine callList (i := 33) rfl (by kernel_rfl) rfl (fun K hK => ?_)
          go_simp
          refine (t_put (HOn.out.below hB) HTn.out HM.out.2 (by have := HM.out; omega) HKA.out).mono ?_
          rintro e W9 ⟨⟨q9, n9, k9, rfl, hcw9⟩, hk⟩
          rw [← HST.out] at hcw9
          replace hB := bt hB hk
          refine hK.out _ _ ⟨⟨_, hB⟩, rfl⟩ ?_
          try go_simp
          clear hK K hC hk
          have hC : ∃ m : NewW wz, W9 = m.v := ⟨⟨_, hB⟩, rfl⟩
          have HB34 : Hid (Below wz.heap.size wz W9) := hB
          refine wpAnyH_strengthen (S' := fun w' => ∃ m : NewW W9, w' = m.v) (fun w' ⟨m, hm⟩ => ⟨⟨w', by rw [hm]; exact bt hB m.h⟩, rfl⟩) _ _ _ _ ?_
          clear hC hne
          have hC : ∃ m : NewW W9, W9 = m.v := ⟨⟨W9, Below.refl _ _⟩, rfl⟩
          have hne : Nonempty (NewW W9) := ⟨NewW.start W9⟩
          refine takeConv (i := 34) _ _ _ _ (.string st) rfl rfl rfl (by kernel_rfl) (by kernel_rfl) (by kernel_rfl) (fun _ _ _ _ h => h) rfl hC (fun w' ⟨m, hm⟩ => by rw [hm]; exact hcw9 _ m.h) ?_
          go_simp
          replace hB := Below.refl W9.heap.size W9
          refine callList (i := 36) rfl (by kernel_rfl) rfl (fun K hK => ?_)
          go_simp
          refine (t_rput (HOn.out.below HB34.out) HRn.out HTn.out HM.out.2 HLn2.out HKA.out).mono ?_
          rintro e Wa ⟨⟨qa, na, ka2, rfl, hcwa⟩, hk⟩
          rw [← HST.out] at hcwa
          replace hB := bt hB hk
          refine hK.out _ _ ⟨⟨_, hB⟩, rfl⟩ ?_
          try go_simp
          clear hK K hC hk
          have hC : ∃ m : NewW W9, Wa = m.v := ⟨⟨_, hB⟩, rfl⟩
          have HB37 : Hid (Below wz.heap.size wz Wa) := bt HB34.out hB
          refine wpAnyH_strengthen (S' := fun w' => ∃ m : NewW Wa, w' = m.v) (fun w' ⟨m, hm⟩ => ⟨⟨w', by rw [hm]; exact bt hB m.h⟩, rfl⟩) _ _ _ _ ?_
          clear hC hne
          have hC : ∃ m : NewW Wa, Wa = m.v := ⟨⟨Wa, Below.refl _ _⟩, rfl⟩
          have hne : Nonempty (NewW Wa) := ⟨NewW.start Wa⟩
          refine takeConv (i := 37) _ _ _ _ (.string st) rfl rfl rfl (by kernel_rfl) (by kernel_rfl) (by kernel_rfl) (fun _ _ _ _ h => h) rfl hC (fun w' ⟨m, hm⟩ => by rw [hm]; exact hcwa _ m.h) ?_
          go_simp
          replace hB := Below.refl Wa.heap.size Wa
          refine takeList (i := 38) rfl (by kernel_rfl) (by kernel_rfl) (by kernel_rfl) (fun _ _ _ _ h => h) rfl rfl hC (fun K hK => ?_)
          go_big_quiet_op
          refine hK _ ?_
          clear hK K
          refine takeList (i := 39) rfl (by kernel_rfl) (by kernel_rfl) (by kernel_rfl) (fun _ _ _ _ h => h) rfl rfl hC (fun K hK => ?_)
          go_big_quiet_op
          refine hK _ ?_
          clear hK K
          have HOz : Hid (OTwo w2 Wa g (m + 2) L6 S6 gr vl6 vr6 R6) := HOn.out.below HB37.out
          clear hC hne hcw9 hcwa hB
          refine wpAnyH_done (by kernel_rfl) ?_ _
          go_wp2
          go_roundw
          case rel => exact ⟨k + 1, m + 2, L6, S6, vl6, vr6, R6, by go_num, by omega, by omega, HOz.out, HTn.out, HRn.out, HLn.out⟩
          case measure => simp [intOf]; omega
    · obtain rfl : k = n := by omega
      have HBF : Hid (Below w.heap.size w wr) := bt HB2.out HO.out.bel
      go_wp2
      go_ret
      exact ⟨rfl, HBF.out⟩
theorem plays_all (pa : Option Addr) (l : List ActO) (ca : Nat) (ask : ByteArray) (wq : ask.size ≤ maxLen) (w : World) (ha : ArgO w pa l) (hxl : ∀ x ∈ l, x.x.size ≤ maxLen) (h1 : l.length ≤ ca) (h2 : ca ≤ maxLen) :
    Calls Try.prog 4 #[.slice pa l.length ca, .string ask] w fun e w' => e = .returned (.bool true) ∧ Below w.heap.size w w' :=
  plays_walk pa l ca ask w ha (Nat.le_trans h1 h2) hxl wq
end Go.Proofs.Ytoglhhoniojbaaa
