/-
  OrsetDrop: what all have seen may be forgotten: adds of later dots, removes that have seen all that is stable, do the same then.
-/
import Derived.Test.YtoglhhoniojbaaaZ6
import Derived.Test.YtoglhhoniojbaaaZ5
import Derived.Test.YtoglhhoniojbaaaBVec
namespace Go.Proofs.Ytoglhhoniojbaaa
open Go.RowKit Go.Lib Go.Sort Go.Shelf
set_option linter.unusedVariables false

namespace C
/-- The texts that dots were added for are short. -/
def ShortA (S : Os) : Prop := ∀ d x, S.ad d = some x → x.size ≤ 100
theorem zero_shortA : ShortA Os.zero := fun d x h => by cases h
theorem stepO_shortA {S : Os} (h : ShortA S) (a : ActO) : ShortA (stepO S a) := fun d x hd => by
  unfold stepO at hd
  split at hd
  · rw [addO_ad] at hd
    by_cases hc : (may a.d = true ∧ tooLong a.x = false ∧ S.ad a.d = none) ∧ d = a.d
    · rw [if_pos hc] at hd
      cases hd
      have := of_decide_eq_false hc.1.2.1
      omega
    · rw [if_neg hc] at hd; exact h d x hd
  · rw [remO_ad] at hd; exact h d x hd
theorem drop_tidy {S : Os} {m : Nat} (h : Tidy S m) (c : V7) : Tidy (dropO S c) m := ⟨h.tot, h.short⟩
end C
theorem kd_add (Q1 Q2 : List OObj) {w0 w : World} (g n : Nat) (L : OLay) (S : C.Os) (x : Tx) (d1 d2 er : Int) (h : OObjs w0 w (Q1 ++ ⟨g, n, L, S⟩ :: Q2)) (hn : n + 2 < maxLen) (hx : x.size ≤ maxLen) (hl : C.Few S 100000) (he : C.errO S (d1, d2) x = er) :
    Calls Try.prog 12 #[.pointer (some ⟨g, 0, none⟩), .agg #[.int .i64 d1, .int .i64 d2], .string x] w fun e w' => e = .returned (.int .i64 er) ∧ ∃ L', OObjs w0 w' (Q1 ++ ⟨g, n + 2, L', C.addO S (d1, d2) x⟩ :: Q2) ∧ Kept w w' (Q1 ++ ⟨g, n, L, S⟩ :: Q2) (Q1 ++ ⟨g, n + 2, L', C.addO S (d1, d2) x⟩ :: Q2) := by
  subst he
  obtain ⟨h1, h2⟩ := h.get
  refine (oadd_any w g n L S x (d1, d2) h1 h2 hn hx (hl x)).mono ?_
  rintro e w' ⟨rfl, hr⟩
  exact ⟨rfl, kept_of h (C.addO_ok h2 _ _) hr⟩
theorem kd_rem (Q1 Q2 : List OObj) {w0 w : World} (g n : Nat) (L : OLay) (S : C.Os) (x : Tx) (c : V7) (er : Int) (h : OObjs w0 w (Q1 ++ ⟨g, n, L, S⟩ :: Q2)) (hn : n + 2 < maxLen) (hx : x.size ≤ maxLen) (hl : C.Few S 100000) (he : C.errR x c = er) :
    Calls Try.prog 11 #[.pointer (some ⟨g, 0, none⟩), .string x, c.v] w fun e w' => e = .returned (.int .i64 er) ∧ ∃ L', OObjs w0 w' (Q1 ++ ⟨g, n + 2, L', C.remO S x c⟩ :: Q2) ∧ Kept w w' (Q1 ++ ⟨g, n, L, S⟩ :: Q2) (Q1 ++ ⟨g, n + 2, L', C.remO S x c⟩ :: Q2) := by
  subst he
  obtain ⟨h1, h2⟩ := h.get
  refine (orem_any w g n L S x c h1 h2 hn hx (hl x)).mono ?_
  rintro e w' ⟨rfl, hr⟩
  exact ⟨rfl, kept_of h (C.remO_ok h2 _ _) hr⟩
theorem s_drop (Q1 Q2 : List OObj) {w0 w : World} (g n : Nat) (L : OLay) (S : C.Os) (c : V7) (h : OObjs w0 w (Q1 ++ ⟨g, n, L, S⟩ :: Q2)) (hn : n < maxLen) (hx : C.ShortA S) :
    Calls Try.prog 27 #[.pointer (some ⟨g, 0, none⟩), c.v] w fun e w' => e = .returned (.tuple #[]) ∧ ∃ L', OObjs w0 w' (Q1 ++ ⟨g, n, L', C.dropO S c⟩ :: Q2) := by
  obtain ⟨h1, h2⟩ := h.get
  refine (odrop_any w g n L S c h1 hn (fun d x hd => Nat.le_trans (hx d x hd) (by decide))).mono ?_
  rintro e w' ⟨rfl, hr⟩
  exact ⟨rfl, h.step (C.dropO_ok h2 c) hr⟩
theorem s_alike {w0 w : World} {Q : List OObj} (o p : OObj) (h : OObjs w0 w Q) (ho : o ∈ Q) (hp : p ∈ Q) (hth : o.S.th = p.S.th) :
    Calls Try.prog 15 #[.pointer (some ⟨o.g, 0, none⟩), .pointer (some ⟨p.g, 0, none⟩)] w fun e w' => e = .returned (.bool true) ∧ Below w.heap.size w w' :=
  same9_any w o.g p.g o.n p.n o.L p.L o.S p.S (h.at_ o ho).1 (h.at_ p hp).1 true ⟨fun _ x _ => by rw [hth], fun _ => rfl⟩
set_option maxRecDepth 100000 in
set_option maxHeartbeats 16000000 in
theorem drop_walk (pa : Option Addr) (l : List ActO) (ca : Nat) (c : V7) (pb : Option Addr) (r : List ActO) (cb : Nat) (w : World) (ha : ArgO w pa l) (hla : l.length ≤ maxLen) (hxl : ∀ x ∈ l, x.x.size ≤ maxLen) (hb : ArgO w pb r) (hlb : r.length ≤ maxLen) (hxr : ∀ x ∈ r, x.x.size ≤ maxLen) :
    Calls Try.prog 6 #[.slice pa l.length ca, c.v, .slice pb r.length cb] w fun e w' => e = .returned (.bool true) ∧ Below w.heap.size w w' := by
  have HA : Hid (ArgO w pa l) := ha
  have HXL : Hid (∀ x ∈ l, x.x.size ≤ maxLen) := hxl
  have HR : Hid (ArgO w pb r) := hb
  have HXR : Hid (∀ x ∈ r, x.x.size ≤ maxLen) := hxr
  clear ha hxl hb hxr
  unfold maxLen at hla hlb
  obtain ⟨n, hn⟩ : ∃ n, n = l.length := ⟨_, rfl⟩
  have HN : Hid (n = l.length) := hn
  obtain ⟨q, hq⟩ : ∃ q, q = r.length := ⟨_, rfl⟩
  have HQ : Hid (q = r.length) := hq
  rw [← hn] at hla ⊢
  rw [← hq] at hlb ⊢
  clear hn hq
  have HK : Hid (∀ n, n ≤ 1000 → n + 2 < maxLen) := fun n hn => by unfold maxLen; omega
  obtain ⟨zg, hzg⟩ : ∃ zg, C.good c = zg := ⟨_, rfl⟩
  have HZG : Hid (C.good c = zg) := hzg
  have HGC : Hid (∀ W, Calls Try.prog 26 #[c.v] W fun e w' => e = .returned (.bool zg) ∧ Below W.heap.size W w') := fun W => good_at hzg W
  obtain ⟨cc, hcc⟩ : ∃ cc, c = cc := ⟨_, rfl⟩
  have HCC : Hid (c = cc) := hcc
  have HSD : Hid (∀ W gst, SeenAt W gst cc → SeenAt W gst c) := fun W gst h => by rw [hcc]; exact h
  have HHS : Hid (∀ d1 d2 z W, C.has cc d1 d2 = z → Calls Try.prog 28 #[c.v, .agg #[.int .i64 d1, .int .i64 d2]] W fun e w' => e = .returned (.bool z) ∧ Below W.heap.size W w') := fun d1 d2 z W hz => by rw [hcc]; exact has_at hz W
  have HLE : Hid (∀ (v : V7) z W, C.le cc v = z → Calls Try.prog 29 #[c.v, v.v] W fun e w' => e = .returned (.bool z) ∧ Below W.heap.size W w') := fun v z W hz => by rw [hcc]; exact le_at hz W
  have HDR : Hid (∀ (Q1 Q2 : List OObj) {w0 w : World} (g n : Nat) (L : OLay) (S : C.Os) (h : OObjs w0 w (Q1 ++ ⟨g, n, L, S⟩ :: Q2)) (hn : n < maxLen) (hx : C.ShortA S), Calls Try.prog 27 #[.pointer (some ⟨g, 0, none⟩), c.v] w fun e w' => e = .returned (.tuple #[]) ∧ ∃ L', OObjs w0 w' (Q1 ++ ⟨g, n, L', C.dropO S cc⟩ :: Q2)) := fun Q1 Q2 w0 w g n L S h hn hx => by rw [hcc]; exact s_drop Q1 Q2 g n L S cc h hn hx
  have HW1 : Hid (SeenAt (w.alloc (.cells #[.int .i64 c.x0, .int .i64 c.x1, .int .i64 c.x2, .int .i64 c.x3, .int .i64 c.x4, .int .i64 c.x5, .int .i64 c.x6] 28)) w.heap.size cc) := by show SeenAt _ _ _; rw [← hcc]; exact heap_alloc_new _ _
  have HB0 : Hid (Below w.heap.size w (w.alloc (.cells #[.int .i64 c.x0, .int .i64 c.x1, .int .i64 c.x2, .int .i64 c.x3, .int .i64 c.x4, .int .i64 c.x5, .int .i64 c.x6] 28))) := below_new _ _
  clear hzg hcc
  obtain ⟨c0, c1, c2, c3, c4, c5, c6⟩ := c
  simp only [V7.v] at HGC HHS HLE HDR ⊢
  simp only at HW1 HB0
  go_enter Try.func6, Try.ntmps6
  go_wp2_with fail
  generalize World.alloc w _ = w1 at *
  obtain ⟨gst, hgst⟩ : ∃ gst, gst = w.heap.size := ⟨_, rfl⟩
  rw [← hgst] at HW1 ⊢
  clear hgst
  refine (awake9_any w1).mono ?_
  rintro e w2 ⟨rfl, hb2⟩
  have HB2 : Hid (Below w.heap.size w w2) := bt HB0.out hb2
  have HST : Hid (SeenAt w2 gst cc) := HW1.out.below hb2
  clear hb2 HB0 HW1
  by_cases hbig : 30 < n
  · go_wp2
    go_ret
    exact ⟨rfl, HB2.out⟩
  by_cases hbig2 : 30 < q
  · go_wp2
    go_ret
    exact ⟨rfl, HB2.out⟩
  obtain ⟨k0, k1, k2, k3, k4, k5, k6⟩ := box7 (HSD.out _ _ HST.out)
  go_wp2_with fail
  refine (HGC.out _).mono ?_
  rintro e w3 ⟨rfl, hb3⟩
  have HB3 : Hid (Below w.heap.size w w3) := bt HB2.out hb3
  have HST3 : Hid (SeenAt w3 gst cc) := HST.out.below hb3
  clear k0 k1 k2 k3 k4 k5 k6 hb3 HST HGC
  cases zg with
  | false =>
    go_wp2
    go_ret
    exact ⟨rfl, HB3.out⟩
  | true =>
    go_wp2_with fail
    refine (s_new (OObjs.nil (Below.refl _ w3))).mono ?_
    rintro e w4 ⟨ga, L4, rfl, h4, -⟩
    have H4 : Hid (OObjs w3 w4 ([] ++ [⟨ga, 0, L4, C.Os.zero⟩])) := h4
    clear h4
    go_wp2_with fail
    refine (s_new H4.out).mono ?_
    rintro e w5 ⟨gb, L5, rfl, h5, -⟩
    have H5 : Hid (OObjs w3 w5 ([] ++ ⟨ga, 0, L4, C.Os.zero⟩ :: [⟨gb, 0, L5, C.Os.zero⟩])) := h5
    clear h5 H4
    go_wp2_with fail
    go_loopw [9] (fun s9 wr => ∃ (k m : Nat) (La Lb : OLay) (S : C.Os), s9 = .int .i64 k ∧ k ≤ n ∧ m ≤ 2 * k ∧ Hid (OObjs w3 wr ([] ++ ⟨ga, m, La, S⟩ :: [⟨gb, m, Lb, S⟩])) ∧ Hid (C.Tidy S k) ∧ Hid (C.ShortA S)) (fun s9 _ => n - (intOf s9).toNat)
    case atStart => exact ⟨0, 0, L4, L5, _, rfl, Nat.zero_le _, Nat.le_refl _, H5.out, C.zero_tidy, C.zero_shortA⟩
    case round =>
      clear H5
      obtain ⟨k, m, La, Lb, S, rfl, hkn, hmk, HO, HT, HSA⟩ := hrel
      by_cases hlt : k < n
      · obtain ⟨a, hak⟩ : ∃ a, l[k]? = some a := ⟨_, List.getElem?_eq_getElem (by have := HN.out; omega)⟩
        obtain ⟨b, o, rfl, hat⟩ := HA.out.at hak
        have HXS : Hid (a.x.size ≤ maxLen) := HXL.out a (List.mem_of_getElem? hak)
        have HTS : Hid (C.Tidy (C.stepO S a) (k + 1)) := C.stepO_tidy HT.out a
        have HSS : Hid (C.ShortA (C.stepO S a)) := C.stepO_shortA HSA.out a
        have HFW : Hid (C.Few S 100000) := C.few_mono HT.out.few (by omega)
        have HM : Hid (m ≤ 1000) := by show m ≤ _; omega
        have HAT : Hid (∀ W, Below w.heap.size w W → AtO a b (o + k * 11) W) := fun W hW => hat.below hW
        clear hak hat HT HSA
        obtain ⟨qp, ⟨e1, e2⟩, y, ⟨u0, u1, u2, u3, u4, u5, u6⟩⟩ := a
        obtain ⟨k0, -⟩ := (HAT.out wr (bt HB3.out HO.out.bel)).cells
        have hF : ∀ t : NewW w, _ := fun t => (HAT.out t.v t.h).cells
        have z1 := fun t => (hF t).2.1
        have z2 := fun t => (hF t).2.2.1
        have z3 := fun t => (hF t).2.2.2.1
        have z4 := fun t => (hF t).2.2.2.2.1
        have z5 := fun t => (hF t).2.2.2.2.2.1
        have z6 := fun t => (hF t).2.2.2.2.2.2.1
        have z7 := fun t => (hF t).2.2.2.2.2.2.2.1
        have z8 := fun t => (hF t).2.2.2.2.2.2.2.2.1
        have z9 := fun t => (hF t).2.2.2.2.2.2.2.2.2.1
        have z10 := fun t => (hF t).2.2.2.2.2.2.2.2.2.2
        clear hF
        have hne : Nonempty (NewW w) := ⟨NewW.start w⟩
        by_cases hop : qp = 0
        · subst hop
          have ee : C.stepO S ⟨0, (e1, e2), y, ⟨u0, u1, u2, u3, u4, u5, u6⟩⟩ = C.addO S (e1, e2) y := if_pos rfl
          rw [ee] at HTS HSS
          clear ee
          go_wp2_with fail
          clear k0
          have hC : ∃ m : NewW w, wr.drew = m.v := ⟨⟨wr.drew, (bt HB3.out HO.out.bel).drew⟩, rfl⟩
          refine wp_region_held_drew (S := fun w' => ∃ m : NewW w, w' = m.v) (by kernel_rfl) hC (fun _ => ?_)
          have HO0 := HO.out.below ((Below.refl _ wr).drew)
          generalize wr.drew = W0 at *
          refine takeList (i := 0) rfl (by kernel_rfl) (by kernel_rfl) (by kernel_rfl) (fun _ _ _ _ h => h) rfl rfl hC (fun K hK => ?_)
          go_big_quiet_op
          refine hK _ ?_
          clear hK K
          refine takeList (i := 1) rfl (by kernel_rfl) (by kernel_rfl) (by kernel_rfl) (fun _ _ _ _ h => h) rfl rfl hC (fun K hK => ?_)
          go_big_quiet_op
          refine hK _ ?_
          clear hK K
          refine takeList (i := 2) rfl (by kernel_rfl) (by kernel_rfl) (by kernel_rfl) (fun _ _ _ _ h => h) rfl rfl hC (fun K hK => ?_)
          go_big_quiet_op
          refine hK _ ?_
          clear hK K
          refine takeList (i := 3) rfl (by kernel_rfl) (by kernel_rfl) (by kernel_rfl) (fun _ _ _ _ h => h) rfl rfl hC (fun K hK => ?_)
          go_big_quiet_op
          refine hK _ ?_
          clear hK K
          refine takeList (i := 4) rfl (by kernel_rfl) (by kernel_rfl) (by kernel_rfl) (fun _ _ _ _ h => h) rfl rfl hC (fun K hK => ?_)
          go_big_quiet_op
          refine hK _ ?_
          clear hK K
          refine takeList (i := 5) rfl (by kernel_rfl) (by kernel_rfl) (by kernel_rfl) (fun _ _ _ _ h => h) rfl rfl hC (fun K hK => ?_)
          go_big_quiet_op
          refine hK _ ?_
          clear hK K
          refine takeList (i := 6) rfl (by kernel_rfl) (by kernel_rfl) (by kernel_rfl) (fun _ _ _ _ h => h) rfl rfl hC (fun K hK => ?_)
          go_big_quiet_op
          refine hK _ ?_
          clear hK K
          refine takeList (i := 7) rfl (by kernel_rfl) (by kernel_rfl) (by kernel_rfl) (fun _ _ _ _ h => h) rfl rfl hC (fun K hK => ?_)
          go_big_quiet_op
          refine hK _ ?_
          clear hK K
          refine takeList (i := 8) rfl (by kernel_rfl) (by kernel_rfl) (by kernel_rfl) (fun _ _ _ _ h => h) rfl rfl hC (fun K hK => ?_)
          go_big_quiet_op
          refine hK _ ?_
          clear hK K
          refine takeList (i := 9) rfl (by kernel_rfl) (by kernel_rfl) (by kernel_rfl) (fun _ _ _ _ h => h) rfl rfl hC (fun K hK => ?_)
          go_big_quiet_op
          refine hK _ ?_
          clear hK K
          refine takeList (i := 10) rfl (by kernel_rfl) (by kernel_rfl) (by kernel_rfl) (fun _ _ _ _ h => h) rfl rfl hC (fun K hK => ?_)
          go_big_quiet_op
          refine hK _ ?_
          clear hK K
          refine callList (i := 11) rfl (by kernel_rfl) rfl (fun K hK => ?_)
          go_simp
          refine (s_add [] [⟨gb, m, Lb, S⟩] ga m La S (C.addO S (e1, e2) y) y e1 e2 _ HO0 (HK.out _ HM.out) HXS.out HFW.out rfl rfl).mono ?_
          rintro e w6 ⟨rfl, L6, h6⟩
          have H6 : Hid (OObjs w3 w6 ([⟨ga, m + 2, L6, C.addO S (e1, e2) y⟩] ++ ⟨gb, m, Lb, S⟩ :: [])) := h6
          refine hK.out _ _ ⟨⟨_, bt HB3.out h6.bel⟩, rfl⟩ ?_
          try go_simp
          clear hK K hC h6 HO0
          refine wpAnyH_done (by kernel_rfl) ?_ _
          go_wp2_with fail
          have hC : ∃ m : NewW w, w6.drew = m.v := ⟨⟨w6.drew, (bt HB3.out H6.out.bel).drew⟩, rfl⟩
          refine wp_region_held_drew (S := fun w' => ∃ m : NewW w, w' = m.v) (by kernel_rfl) hC (fun _ => ?_)
          have HO0 := H6.out.below ((Below.refl _ w6).drew)
          generalize w6.drew = W0 at *
          refine takeList (i := 0) rfl (by kernel_rfl) (by kernel_rfl) (by kernel_rfl) (fun _ _ _ _ h => h) rfl rfl hC (fun K hK => ?_)
          go_big_quiet_op
          refine hK _ ?_
          clear hK K
          refine takeList (i := 1) rfl (by kernel_rfl) (by kernel_rfl) (by kernel_rfl) (fun _ _ _ _ h => h) rfl rfl hC (fun K hK => ?_)
          go_big_quiet_op
          refine hK _ ?_
          clear hK K
          refine takeList (i := 2) rfl (by kernel_rfl) (by kernel_rfl) (by kernel_rfl) (fun _ _ _ _ h => h) rfl rfl hC (fun K hK => ?_)
          go_big_quiet_op
          refine hK _ ?_
          clear hK K
          refine takeList (i := 3) rfl (by kernel_rfl) (by kernel_rfl) (by kernel_rfl) (fun _ _ _ _ h => h) rfl rfl hC (fun K hK => ?_)
          go_big_quiet_op
          refine hK _ ?_
          clear hK K
          refine takeList (i := 4) rfl (by kernel_rfl) (by kernel_rfl) (by kernel_rfl) (fun _ _ _ _ h => h) rfl rfl hC (fun K hK => ?_)
          go_big_quiet_op
          refine hK _ ?_
          clear hK K
          refine takeList (i := 5) rfl (by kernel_rfl) (by kernel_rfl) (by kernel_rfl) (fun _ _ _ _ h => h) rfl rfl hC (fun K hK => ?_)
          go_big_quiet_op
          refine hK _ ?_
          clear hK K
          refine takeList (i := 6) rfl (by kernel_rfl) (by kernel_rfl) (by kernel_rfl) (fun _ _ _ _ h => h) rfl rfl hC (fun K hK => ?_)
          go_big_quiet_op
          refine hK _ ?_
          clear hK K
          refine takeList (i := 7) rfl (by kernel_rfl) (by kernel_rfl) (by kernel_rfl) (fun _ _ _ _ h => h) rfl rfl hC (fun K hK => ?_)
          go_big_quiet_op
          refine hK _ ?_
          clear hK K
          refine takeList (i := 8) rfl (by kernel_rfl) (by kernel_rfl) (by kernel_rfl) (fun _ _ _ _ h => h) rfl rfl hC (fun K hK => ?_)
          go_big_quiet_op
          refine hK _ ?_
          clear hK K
          refine takeList (i := 9) rfl (by kernel_rfl) (by kernel_rfl) (by kernel_rfl) (fun _ _ _ _ h => h) rfl rfl hC (fun K hK => ?_)
          go_big_quiet_op
          refine hK _ ?_
          clear hK K
          refine takeList (i := 10) rfl (by kernel_rfl) (by kernel_rfl) (by kernel_rfl) (fun _ _ _ _ h => h) rfl rfl hC (fun K hK => ?_)
          go_big_quiet_op
          refine hK _ ?_
          clear hK K
          refine callList (i := 11) rfl (by kernel_rfl) rfl (fun K hK => ?_)
          go_simp
          refine (s_add [⟨ga, m + 2, L6, C.addO S (e1, e2) y⟩] [] gb m Lb S (C.addO S (e1, e2) y) y e1 e2 _ HO0 (HK.out _ HM.out) HXS.out HFW.out rfl rfl).mono ?_
          rintro e w7 ⟨rfl, L7, h7⟩
          have H7 : Hid (OObjs w3 w7 ([] ++ ⟨ga, m + 2, L6, C.addO S (e1, e2) y⟩ :: [⟨gb, m + 2, L7, C.addO S (e1, e2) y⟩])) := h7
          refine hK.out _ _ ⟨⟨_, bt HB3.out h7.bel⟩, rfl⟩ ?_
          try go_simp
          clear hK K hC h7 HO0
          refine wpAnyH_done (by kernel_rfl) ?_ _
          clear z1 z2 z3 z4 z5 z6 z7 z8 z9 z10 hne
          go_wp2
          go_roundw
          case rel => exact ⟨k + 1, m + 2, L6, L7, _, by go_num, by omega, by omega, H7.out, HTS.out, HSS.out⟩
          case measure => simp [intOf]; omega
        · have hopb : (qp == 0) = false := by simpa using hop
          have ee : C.stepO S ⟨qp, (e1, e2), y, ⟨u0, u1, u2, u3, u4, u5, u6⟩⟩ = C.remO S y ⟨u0, u1, u2, u3, u4, u5, u6⟩ := if_neg hop
          rw [ee] at HTS HSS
          clear ee
          go_wp2_with fail
          clear k0
          have hC : ∃ m : NewW w, wr.drew = m.v := ⟨⟨wr.drew, (bt HB3.out HO.out.bel).drew⟩, rfl⟩
          refine wp_region_held_drew (S := fun w' => ∃ m : NewW w, w' = m.v) (by kernel_rfl) hC (fun _ => ?_)
          have HO0 := HO.out.below ((Below.refl _ wr).drew)
          generalize wr.drew = W0 at *
          refine takeList (i := 0) rfl (by kernel_rfl) (by kernel_rfl) (by kernel_rfl) (fun _ _ _ _ h => h) rfl rfl hC (fun K hK => ?_)
          go_big_quiet_op
          refine hK _ ?_
          clear hK K
          refine takeList (i := 1) rfl (by kernel_rfl) (by kernel_rfl) (by kernel_rfl) (fun _ _ _ _ h => h) rfl rfl hC (fun K hK => ?_)
          go_big_quiet_op
          refine hK _ ?_
          clear hK K
          refine takeList (i := 2) rfl (by kernel_rfl) (by kernel_rfl) (by kernel_rfl) (fun _ _ _ _ h => h) rfl rfl hC (fun K hK => ?_)
          go_big_quiet_op
          refine hK _ ?_
          clear hK K
          refine takeList (i := 3) rfl (by kernel_rfl) (by kernel_rfl) (by kernel_rfl) (fun _ _ _ _ h => h) rfl rfl hC (fun K hK => ?_)
          go_big_quiet_op
          refine hK _ ?_
          clear hK K
          refine takeList (i := 4) rfl (by kernel_rfl) (by kernel_rfl) (by kernel_rfl) (fun _ _ _ _ h => h) rfl rfl hC (fun K hK => ?_)
          go_big_quiet_op
          refine hK _ ?_
          clear hK K
          refine takeList (i := 5) rfl (by kernel_rfl) (by kernel_rfl) (by kernel_rfl) (fun _ _ _ _ h => h) rfl rfl hC (fun K hK => ?_)
          go_big_quiet_op
          refine hK _ ?_
          clear hK K
          refine takeList (i := 6) rfl (by kernel_rfl) (by kernel_rfl) (by kernel_rfl) (fun _ _ _ _ h => h) rfl rfl hC (fun K hK => ?_)
          go_big_quiet_op
          refine hK _ ?_
          clear hK K
          refine takeList (i := 7) rfl (by kernel_rfl) (by kernel_rfl) (by kernel_rfl) (fun _ _ _ _ h => h) rfl rfl hC (fun K hK => ?_)
          go_big_quiet_op
          refine hK _ ?_
          clear hK K
          refine takeList (i := 8) rfl (by kernel_rfl) (by kernel_rfl) (by kernel_rfl) (fun _ _ _ _ h => h) rfl rfl hC (fun K hK => ?_)
          go_big_quiet_op
          refine hK _ ?_
          clear hK K
          refine takeList (i := 9) rfl (by kernel_rfl) (by kernel_rfl) (by kernel_rfl) (fun _ _ _ _ h => h) rfl rfl hC (fun K hK => ?_)
          go_big_quiet_op
          refine hK _ ?_
          clear hK K
          refine takeList (i := 10) rfl (by kernel_rfl) (by kernel_rfl) (by kernel_rfl) (fun _ _ _ _ h => h) rfl rfl hC (fun K hK => ?_)
          go_big_quiet_op
          refine hK _ ?_
          clear hK K
          refine callList (i := 11) rfl (by kernel_rfl) rfl (fun K hK => ?_)
          go_simp
          refine (s_rem [] [⟨gb, m, Lb, S⟩] ga m La S (C.remO S y ⟨u0, u1, u2, u3, u4, u5, u6⟩) y ⟨u0, u1, u2, u3, u4, u5, u6⟩ _ HO0 (HK.out _ HM.out) HXS.out HFW.out rfl rfl).mono ?_
          rintro e w6 ⟨rfl, L6, h6⟩
          have H6 : Hid (OObjs w3 w6 ([⟨ga, m + 2, L6, C.remO S y ⟨u0, u1, u2, u3, u4, u5, u6⟩⟩] ++ ⟨gb, m, Lb, S⟩ :: [])) := h6
          refine hK.out _ _ ⟨⟨_, bt HB3.out h6.bel⟩, rfl⟩ ?_
          try go_simp
          clear hK K hC h6 HO0
          refine wpAnyH_done (by kernel_rfl) ?_ _
          go_wp2_with fail
          have hC : ∃ m : NewW w, w6.drew = m.v := ⟨⟨w6.drew, (bt HB3.out H6.out.bel).drew⟩, rfl⟩
          refine wp_region_held_drew (S := fun w' => ∃ m : NewW w, w' = m.v) (by kernel_rfl) hC (fun _ => ?_)
          have HO0 := H6.out.below ((Below.refl _ w6).drew)
          generalize w6.drew = W0 at *
          refine takeList (i := 0) rfl (by kernel_rfl) (by kernel_rfl) (by kernel_rfl) (fun _ _ _ _ h => h) rfl rfl hC (fun K hK => ?_)
          go_big_quiet_op
          refine hK _ ?_
          clear hK K
          refine takeList (i := 1) rfl (by kernel_rfl) (by kernel_rfl) (by kernel_rfl) (fun _ _ _ _ h => h) rfl rfl hC (fun K hK => ?_)
          go_big_quiet_op
          refine hK _ ?_
          clear hK K
          refine takeList (i := 2) rfl (by kernel_rfl) (by kernel_rfl) (by kernel_rfl) (fun _ _ _ _ h => h) rfl rfl hC (fun K hK => ?_)
          go_big_quiet_op
          refine hK _ ?_
          clear hK K
          refine takeList (i := 3) rfl (by kernel_rfl) (by kernel_rfl) (by kernel_rfl) (fun _ _ _ _ h => h) rfl rfl hC (fun K hK => ?_)
          go_big_quiet_op
          refine hK _ ?_
          clear hK K
          refine takeList (i := 4) rfl (by kernel_rfl) (by kernel_rfl) (by kernel_rfl) (fun _ _ _ _ h => h) rfl rfl hC (fun K hK => ?_)
          go_big_quiet_op
          refine hK _ ?_
          clear hK K
          refine takeList (i := 5) rfl (by kernel_rfl) (by kernel_rfl) (by kernel_rfl) (fun _ _ _ _ h => h) rfl rfl hC (fun K hK => ?_)
          go_big_quiet_op
          refine hK _ ?_
          clear hK K
          refine takeList (i := 6) rfl (by kernel_rfl) (by kernel_rfl) (by kernel_rfl) (fun _ _ _ _ h => h) rfl rfl hC (fun K hK => ?_)
          go_big_quiet_op
          refine hK _ ?_
          clear hK K
          refine takeList (i := 7) rfl (by kernel_rfl) (by kernel_rfl) (by kernel_rfl) (fun _ _ _ _ h => h) rfl rfl hC (fun K hK => ?_)
          go_big_quiet_op
          refine hK _ ?_
          clear hK K
          refine takeList (i := 8) rfl (by kernel_rfl) (by kernel_rfl) (by kernel_rfl) (fun _ _ _ _ h => h) rfl rfl hC (fun K hK => ?_)
          go_big_quiet_op
          refine hK _ ?_
          clear hK K
          refine takeList (i := 9) rfl (by kernel_rfl) (by kernel_rfl) (by kernel_rfl) (fun _ _ _ _ h => h) rfl rfl hC (fun K hK => ?_)
          go_big_quiet_op
          refine hK _ ?_
          clear hK K
          refine takeList (i := 10) rfl (by kernel_rfl) (by kernel_rfl) (by kernel_rfl) (fun _ _ _ _ h => h) rfl rfl hC (fun K hK => ?_)
          go_big_quiet_op
          refine hK _ ?_
          clear hK K
          refine callList (i := 11) rfl (by kernel_rfl) rfl (fun K hK => ?_)
          go_simp
          refine (s_rem [⟨ga, m + 2, L6, C.remO S y ⟨u0, u1, u2, u3, u4, u5, u6⟩⟩] [] gb m Lb S (C.remO S y ⟨u0, u1, u2, u3, u4, u5, u6⟩) y ⟨u0, u1, u2, u3, u4, u5, u6⟩ _ HO0 (HK.out _ HM.out) HXS.out HFW.out rfl rfl).mono ?_
          rintro e w7 ⟨rfl, L7, h7⟩
          have H7 : Hid (OObjs w3 w7 ([] ++ ⟨ga, m + 2, L6, C.remO S y ⟨u0, u1, u2, u3, u4, u5, u6⟩⟩ :: [⟨gb, m + 2, L7, C.remO S y ⟨u0, u1, u2, u3, u4, u5, u6⟩⟩])) := h7
          refine hK.out _ _ ⟨⟨_, bt HB3.out h7.bel⟩, rfl⟩ ?_
          try go_simp
          clear hK K hC h7 HO0
          refine wpAnyH_done (by kernel_rfl) ?_ _
          clear z1 z2 z3 z4 z5 z6 z7 z8 z9 z10 hne
          go_wp2
          go_roundw
          case rel => exact ⟨k + 1, m + 2, L6, L7, _, by go_num, by omega, by omega, H7.out, HTS.out, HSS.out⟩
          case measure => simp [intOf]; omega
      · obtain rfl : k = n := by omega
        have HM30 : Hid (m ≤ 60 ∧ k ≤ 30) := by show _ ∧ _; omega
        have HO2 : Hid (OObjs w3 wr ([⟨ga, m, La, S⟩] ++ ⟨gb, m, Lb, S⟩ :: [])) := HO.out
        obtain ⟨k0, k1, k2, k3, k4, k5, k6⟩ := box7 (HSD.out _ _ (HST3.out.below HO.out.bel))
        clear HO hmk hkn
        go_wp2_with fail
        refine (HDR.out [⟨ga, m, La, S⟩] [] gb m Lb S HO2.out (by have := HM30.out; unfold maxLen; omega) HSA.out).mono ?_
        rintro e w6 ⟨rfl, L6, h6⟩
        have H6 : Hid (OObjs w3 w6 ([] ++ ⟨ga, m, La, S⟩ :: [⟨gb, m, L6, C.dropO S cc⟩])) := h6
        clear h6 HO2 k0 k1 k2 k3 k4 k5 k6
        go_wp2_with fail
        refine (s_alike ⟨ga, m, La, S⟩ ⟨gb, m, L6, C.dropO S cc⟩ H6.out (by simp) (by simp) rfl).mono ?_
        rintro e w7 ⟨rfl, hb7⟩
        have H7 : Hid (OObjs w3 w7 ([] ++ ⟨ga, m, La, S⟩ :: [⟨gb, m, L6, C.dropO S cc⟩])) := H6.out.below hb7
        clear hb7 H6
        go_wp2_with fail
        go_loopw [10] (fun s10 wr => ∃ (j ma : Nat) (La Lb : OLay) (Sa Sb : C.Os), s10 = .int .i64 j ∧ j ≤ q ∧ ma ≤ m + 2 * j ∧ Hid (OObjs w3 wr ([] ++ ⟨ga, ma, La, Sa⟩ :: [⟨gb, ma, Lb, Sb⟩])) ∧ Hid (C.Tidy Sa (k + j)) ∧ Hid (C.Tidy Sb (k + j)) ∧ Hid (C.DropRel cc Sa Sb)) (fun s10 _ => q - (intOf s10).toNat)
        case atStart => exact ⟨0, m, La, L6, S, _, rfl, Nat.zero_le _, Nat.le_refl _, H7.out, HT.out, C.drop_tidy HT.out cc, C.drop_rel S cc⟩
        case round =>
          clear H7 HT HSA
          obtain ⟨j, ma, La, Lb, Sa, Sb, rfl, hjq, hma, HO, HTA, HTB, HDL⟩ := hrel
          by_cases hltj : j < q
          · obtain ⟨a, hja⟩ : ∃ a, r[j]? = some a := ⟨_, List.getElem?_eq_getElem (by have := HQ.out; omega)⟩
            obtain ⟨b, o, rfl, hat⟩ := HR.out.at hja
            have HXS : Hid (a.x.size ≤ maxLen) := HXR.out a (List.mem_of_getElem? hja)
            have HTSA : Hid (C.Tidy (C.stepO Sa a) (k + (j + 1))) := C.stepO_tidy HTA.out a
            have HTSB : Hid (C.Tidy (C.stepO Sb a) (k + (j + 1))) := C.stepO_tidy HTB.out a
            have HFA : Hid (C.Few Sa 100000) := C.few_mono HTA.out.few (by have := HM30.out; omega)
            have HFB : Hid (C.Few Sb 100000) := C.few_mono HTB.out.few (by have := HM30.out; omega)
            have HM : Hid (ma ≤ 1000) := by have := HM30.out; show ma ≤ _; omega
            have hatr := hat.below (bt HB3.out HO.out.bel)
            obtain ⟨qp, ⟨e1, e2⟩, y, ⟨u0, u1, u2, u3, u4, u5, u6⟩⟩ := a
            obtain ⟨c0', c1', c2', c3', c4', c5', c6', c7', c8', c9', c10'⟩ := hatr.cells
            have hbn := below_new wr (.cells #[.int .i64 qp, .int .i64 e1, .int .i64 e2, .string y, .int .i64 u0, .int .i64 u1, .int .i64 u2, .int .i64 u3, .int .i64 u4, .int .i64 u5, .int .i64 u6] 42)
            obtain ⟨k0, k1, k2, k3, k4, k5, k6⟩ := box7 (HSD.out _ _ (HST3.out.below (bt HO.out.bel hbn)))
            have HQ1 : Hid ((wr.alloc (.cells #[.int .i64 qp, .int .i64 e1, .int .i64 e2, .string y, .int .i64 u0, .int .i64 u1, .int .i64 u2, .int .i64 u3, .int .i64 u4, .int .i64 u5, .int .i64 u6] 42)).heap[wr.heap.size]? = some (.cells #[.int .i64 qp, .int .i64 e1, .int .i64 e2, .string y, .int .i64 u0, .int .i64 u1, .int .i64 u2, .int .i64 u3, .int .i64 u4, .int .i64 u5, .int .i64 u6] 42)) := heap_alloc_new _ _
            have HF0 : Hid (OFree ([] ++ ⟨ga, ma, La, Sa⟩ :: [⟨gb, ma, Lb, Sb⟩]) wr.heap.size) := free_new HO.out (Nat.le_refl _)
            have HBN : Hid (Below wr.heap.size wr _) := hbn
            clear hat hatr hja hbn HTA HTB
            by_cases hop : qp = 0
            · subst hop
              have ee : ∀ S, C.stepO S ⟨0, (e1, e2), y, ⟨u0, u1, u2, u3, u4, u5, u6⟩⟩ = C.addO S (e1, e2) y := fun S => if_pos rfl
              rw [ee] at HTSA HTSB
              clear ee
              obtain ⟨z, hz⟩ : ∃ z, C.has cc e1 e2 = z := ⟨_, rfl⟩
              have HAK : Hid (∀ W, _) := fun W => HHS.out e1 e2 z W hz
              try simp only at HAK
              have HZ : Hid (C.has cc e1 e2 = z) := hz
              clear hz
              go_wp2_with fail
              refine (HAK.out _).mono ?_
              rintro e w6 ⟨rfl, hb6⟩
              have HB6 : Hid (Below wr.heap.size wr w6) := bt HBN.out hb6
              have HA6 : Hid (AtO ⟨0, (e1, e2), y, ⟨u0, u1, u2, u3, u4, u5, u6⟩⟩ wr.heap.size 0 w6) := AtO.boxed (keep_on hb6 HQ1.out)
              have H6 : Hid (OObjs w3 w6 ([] ++ ⟨ga, ma, La, Sa⟩ :: [⟨gb, ma, Lb, Sb⟩])) := HO.out.below HB6.out
              have HL6 : Hid (wr.heap.size < w6.heap.size) := by have := (Array.getElem?_eq_some_iff.1 (keep_on hb6 HQ1.out)).1; exact this
              obtain ⟨g1, hg1⟩ : ∃ g1, wr.heap.size = g1 := ⟨_, rfl⟩
              rw [hg1] at HA6 HL6 HF0 ⊢
              clear hb6 hg1 HQ1 HBN HB6 HO k0 k1 k2 k3 k4 k5 k6 HAK
              cases z with
              | true =>
                go_wp2
                go_ret
                exact ⟨rfl, bt HB3.out H6.out.bel⟩
              | false =>
                have HHF : Hid (C.hasd cc (e1, e2) = false) := HZ.out
                obtain ⟨er, her⟩ : ∃ er, C.errO Sa (e1, e2) y = er := ⟨_, rfl⟩
                have HERA : Hid (C.errO Sa (e1, e2) y = er) := her
                have HERB : Hid (C.errO Sb (e1, e2) y = er) := by show _ = _; rw [HDL.out.err HHF.out]; exact her
                have hee : (er == er) = true := beq_self_eq_true er
                clear her
                have hF : ∀ t : HeldW (AtO ⟨0, (e1, e2), y, ⟨u0, u1, u2, u3, u4, u5, u6⟩⟩ g1 0), _ := fun t => t.h.cells
                simp only [Nat.zero_add] at hF
                have z1 := fun t => (hF t).2.1
                have z2 := fun t => (hF t).2.2.1
                have z3 := fun t => (hF t).2.2.2.1
                have z4 := fun t => (hF t).2.2.2.2.1
                have z5 := fun t => (hF t).2.2.2.2.2.1
                have z6 := fun t => (hF t).2.2.2.2.2.2.1
                have z7 := fun t => (hF t).2.2.2.2.2.2.2.1
                have z8 := fun t => (hF t).2.2.2.2.2.2.2.2.1
                have z9 := fun t => (hF t).2.2.2.2.2.2.2.2.2.1
                have z10 := fun t => (hF t).2.2.2.2.2.2.2.2.2.2
                clear hF
                have hne : Nonempty (HeldW (AtO ⟨0, (e1, e2), y, ⟨u0, u1, u2, u3, u4, u5, u6⟩⟩ g1 0)) := ⟨⟨w6, HA6.out⟩⟩
                go_wp2_with fail
                have hA6d : AtO ⟨0, (e1, e2), y, ⟨u0, u1, u2, u3, u4, u5, u6⟩⟩ g1 0 w6.drew := HA6.out
                have hC : ∃ m : HeldW (AtO ⟨0, (e1, e2), y, ⟨u0, u1, u2, u3, u4, u5, u6⟩⟩ g1 0), w6.drew = m.v := ⟨⟨w6.drew, hA6d⟩, rfl⟩
                refine wp_region_held_drew (S := fun w' => ∃ m : HeldW (AtO ⟨0, (e1, e2), y, ⟨u0, u1, u2, u3, u4, u5, u6⟩⟩ g1 0), w' = m.v) (by kernel_rfl) hC (fun _ => ?_)
                have HO0 := H6.out.below ((Below.refl _ w6).drew)
                have HL0 : Hid (g1 < w6.drew.heap.size) := HL6.out
                have HA0 : Hid (AtO ⟨0, (e1, e2), y, ⟨u0, u1, u2, u3, u4, u5, u6⟩⟩ g1 0 w6.drew) := hA6d
                clear hA6d
                generalize w6.drew = W0 at *
                refine takeList (i := 0) rfl (by kernel_rfl) (by kernel_rfl) (by kernel_rfl) (fun _ _ _ _ h => h) rfl rfl hC (fun K hK => ?_)
                go_big_quiet_op
                refine hK _ ?_
                clear hK K
                refine takeList (i := 1) rfl (by kernel_rfl) (by kernel_rfl) (by kernel_rfl) (fun _ _ _ _ h => h) rfl rfl hC (fun K hK => ?_)
                go_big_quiet_op
                refine hK _ ?_
                clear hK K
                refine takeList (i := 2) rfl (by kernel_rfl) (by kernel_rfl) (by kernel_rfl) (fun _ _ _ _ h => h) rfl rfl hC (fun K hK => ?_)
                go_big_quiet_op
                refine hK _ ?_
                clear hK K
                refine takeList (i := 3) rfl (by kernel_rfl) (by kernel_rfl) (by kernel_rfl) (fun _ _ _ _ h => h) rfl rfl hC (fun K hK => ?_)
                go_big_quiet_op
                refine hK _ ?_
                clear hK K
                refine takeList (i := 4) rfl (by kernel_rfl) (by kernel_rfl) (by kernel_rfl) (fun _ _ _ _ h => h) rfl rfl hC (fun K hK => ?_)
                go_big_quiet_op
                refine hK _ ?_
                clear hK K
                refine takeList (i := 6) rfl (by kernel_rfl) (by kernel_rfl) (by kernel_rfl) (fun _ _ _ _ h => h) rfl rfl hC (fun K hK => ?_)
                go_big_quiet_op
                refine hK _ ?_
                clear hK K
                refine takeList (i := 7) rfl (by kernel_rfl) (by kernel_rfl) (by kernel_rfl) (fun _ _ _ _ h => h) rfl rfl hC (fun K hK => ?_)
                go_big_quiet_op
                refine hK _ ?_
                clear hK K
                refine takeList (i := 8) rfl (by kernel_rfl) (by kernel_rfl) (by kernel_rfl) (fun _ _ _ _ h => h) rfl rfl hC (fun K hK => ?_)
                go_big_quiet_op
                refine hK _ ?_
                clear hK K
                refine takeList (i := 9) rfl (by kernel_rfl) (by kernel_rfl) (by kernel_rfl) (fun _ _ _ _ h => h) rfl rfl hC (fun K hK => ?_)
                go_big_quiet_op
                refine hK _ ?_
                clear hK K
                refine takeList (i := 10) rfl (by kernel_rfl) (by kernel_rfl) (by kernel_rfl) (fun _ _ _ _ h => h) rfl rfl hC (fun K hK => ?_)
                go_big_quiet_op
                refine hK _ ?_
                clear hK K
                refine callList (i := 5) rfl (by kernel_rfl) rfl (fun K hK => ?_)
                go_simp
                refine (kd_add [] [⟨gb, ma, Lb, Sb⟩] ga ma La Sa y e1 e2 er HO0 (HK.out _ HM.out) HXS.out HFA.out HERA.out).mono ?_
                rintro e w7 ⟨rfl, L7, h7, hk7⟩
                have H7 : Hid (OObjs w3 w7 ([⟨ga, ma + 2, L7, C.addO Sa (e1, e2) y⟩] ++ ⟨gb, ma, Lb, Sb⟩ :: [])) := h7
                obtain ⟨hc7, hf7, hl7⟩ := hk7.act HL0.out HF0.out HA0.out
                refine hK.out _ _ ⟨⟨_, hc7⟩, rfl⟩ ?_
                try go_simp
                have HC7 : Hid (AtO ⟨0, (e1, e2), y, ⟨u0, u1, u2, u3, u4, u5, u6⟩⟩ g1 0 w7) := hc7
                have HF7 : Hid (OFree ([⟨ga, ma + 2, L7, C.addO Sa (e1, e2) y⟩] ++ ⟨gb, ma, Lb, Sb⟩ :: []) g1) := hf7
                have HL7 : Hid (g1 < w7.heap.size) := hl7
                clear hK K hC h7 hk7 hc7 hf7 hl7 HO0
                refine callList (i := 11) rfl (by kernel_rfl) rfl (fun K hK => ?_)
                go_simp
                refine (kd_add [⟨ga, ma + 2, L7, C.addO Sa (e1, e2) y⟩] [] gb ma Lb Sb y e1 e2 er H7.out (HK.out _ HM.out) HXS.out HFB.out HERB.out).mono ?_
                rintro e w8 ⟨rfl, L8, h8, hk8⟩
                have H8 : Hid (OObjs w3 w8 ([] ++ ⟨ga, ma + 2, L7, C.addO Sa (e1, e2) y⟩ :: [⟨gb, ma + 2, L8, C.addO Sb (e1, e2) y⟩])) := h8
                obtain ⟨hc8, -, -⟩ := hk8.act HL7.out HF7.out HC7.out
                refine hK.out _ _ ⟨⟨_, hc8⟩, rfl⟩ ?_
                try go_simp
                have hC : ∃ m : HeldW (AtO ⟨0, (e1, e2), y, ⟨u0, u1, u2, u3, u4, u5, u6⟩⟩ g1 0), w8 = m.v := ⟨⟨w8, hc8⟩, rfl⟩
                clear hK K h8 hk8 hc8
                refine takeList (i := 12) rfl (by kernel_rfl) (by kernel_rfl) (by kernel_rfl) (fun _ _ _ _ h => h) rfl rfl hC (fun K hK => ?_)
                go_big_quiet_op
                refine hK _ ?_
                clear hK K
                refine wpAnyH_done (by kernel_rfl) ?_ _
                have HDN : Hid (C.DropRel cc (C.addO Sa (e1, e2) y) (C.addO Sb (e1, e2) y)) := HDL.out.add HHF.out y
                clear z1 z2 z3 z4 z5 z6 z7 z8 z9 z10 hne hC hee
                go_wp2_with fail
                refine (s_alike ⟨ga, ma + 2, L7, C.addO Sa (e1, e2) y⟩ ⟨gb, ma + 2, L8, C.addO Sb (e1, e2) y⟩ H8.out (by simp) (by simp) HDN.out.th).mono ?_
                rintro e w9 ⟨rfl, hb9⟩
                have H9 : Hid (OObjs w3 w9 ([] ++ ⟨ga, ma + 2, L7, C.addO Sa (e1, e2) y⟩ :: [⟨gb, ma + 2, L8, C.addO Sb (e1, e2) y⟩])) := H8.out.below hb9
                clear hb9 H8 H7 HC7 HF7
                go_wp2
                go_roundw
                case rel => exact ⟨j + 1, ma + 2, L7, L8, _, _, by go_num, by omega, by omega, H9.out, HTSA.out, HTSB.out, HDN.out⟩
                case measure => simp [intOf]; omega
            · have hopb : (qp == 0) = false := by simpa using hop
              have ee : ∀ S, C.stepO S ⟨qp, (e1, e2), y, ⟨u0, u1, u2, u3, u4, u5, u6⟩⟩ = C.remO S y ⟨u0, u1, u2, u3, u4, u5, u6⟩ := fun S => if_neg hop
              rw [ee] at HTSA HTSB
              clear ee
              obtain ⟨z, hz⟩ : ∃ z, C.le cc ⟨u0, u1, u2, u3, u4, u5, u6⟩ = z := ⟨_, rfl⟩
              have HAK : Hid (∀ W, _) := fun W => HLE.out ⟨u0, u1, u2, u3, u4, u5, u6⟩ z W hz
              try simp only at HAK
              have HZ : Hid (C.le cc ⟨u0, u1, u2, u3, u4, u5, u6⟩ = z) := hz
              clear hz
              go_wp2_with fail
              refine (HAK.out _).mono ?_
              rintro e w6 ⟨rfl, hb6⟩
              have HB6 : Hid (Below wr.heap.size wr w6) := bt HBN.out hb6
              have HA6 : Hid (AtO ⟨qp, (e1, e2), y, ⟨u0, u1, u2, u3, u4, u5, u6⟩⟩ wr.heap.size 0 w6) := AtO.boxed (keep_on hb6 HQ1.out)
              have H6 : Hid (OObjs w3 w6 ([] ++ ⟨ga, ma, La, Sa⟩ :: [⟨gb, ma, Lb, Sb⟩])) := HO.out.below HB6.out
              have HL6 : Hid (wr.heap.size < w6.heap.size) := by have := (Array.getElem?_eq_some_iff.1 (keep_on hb6 HQ1.out)).1; exact this
              obtain ⟨g1, hg1⟩ : ∃ g1, wr.heap.size = g1 := ⟨_, rfl⟩
              rw [hg1] at HA6 HL6 HF0 ⊢
              clear hb6 hg1 HQ1 HBN HB6 HO k0 k1 k2 k3 k4 k5 k6 HAK
              cases z with
              | false =>
                go_wp2
                go_ret
                exact ⟨rfl, bt HB3.out H6.out.bel⟩
              | true =>
                obtain ⟨er, her⟩ : ∃ er, C.errR y ⟨u0, u1, u2, u3, u4, u5, u6⟩ = er := ⟨_, rfl⟩
                have HERA : Hid (C.errR y ⟨u0, u1, u2, u3, u4, u5, u6⟩ = er) := her
                have HERB : Hid (C.errR y ⟨u0, u1, u2, u3, u4, u5, u6⟩ = er) := her
                have hee : (er == er) = true := beq_self_eq_true er
                clear her
                have hF : ∀ t : HeldW (AtO ⟨qp, (e1, e2), y, ⟨u0, u1, u2, u3, u4, u5, u6⟩⟩ g1 0), _ := fun t => t.h.cells
                simp only [Nat.zero_add] at hF
                have z1 := fun t => (hF t).2.1
                have z2 := fun t => (hF t).2.2.1
                have z3 := fun t => (hF t).2.2.2.1
                have z4 := fun t => (hF t).2.2.2.2.1
                have z5 := fun t => (hF t).2.2.2.2.2.1
                have z6 := fun t => (hF t).2.2.2.2.2.2.1
                have z7 := fun t => (hF t).2.2.2.2.2.2.2.1
                have z8 := fun t => (hF t).2.2.2.2.2.2.2.2.1
                have z9 := fun t => (hF t).2.2.2.2.2.2.2.2.2.1
                have z10 := fun t => (hF t).2.2.2.2.2.2.2.2.2.2
                clear hF
                have hne : Nonempty (HeldW (AtO ⟨qp, (e1, e2), y, ⟨u0, u1, u2, u3, u4, u5, u6⟩⟩ g1 0)) := ⟨⟨w6, HA6.out⟩⟩
                go_wp2_with fail
                have hA6d : AtO ⟨qp, (e1, e2), y, ⟨u0, u1, u2, u3, u4, u5, u6⟩⟩ g1 0 w6.drew := HA6.out
                have hC : ∃ m : HeldW (AtO ⟨qp, (e1, e2), y, ⟨u0, u1, u2, u3, u4, u5, u6⟩⟩ g1 0), w6.drew = m.v := ⟨⟨w6.drew, hA6d⟩, rfl⟩
                refine wp_region_held_drew (S := fun w' => ∃ m : HeldW (AtO ⟨qp, (e1, e2), y, ⟨u0, u1, u2, u3, u4, u5, u6⟩⟩ g1 0), w' = m.v) (by kernel_rfl) hC (fun _ => ?_)
                have HO0 := H6.out.below ((Below.refl _ w6).drew)
                have HL0 : Hid (g1 < w6.drew.heap.size) := HL6.out
                have HA0 : Hid (AtO ⟨qp, (e1, e2), y, ⟨u0, u1, u2, u3, u4, u5, u6⟩⟩ g1 0 w6.drew) := hA6d
                clear hA6d
                generalize w6.drew = W0 at *
                refine takeList (i := 0) rfl (by kernel_rfl) (by kernel_rfl) (by kernel_rfl) (fun _ _ _ _ h => h) rfl rfl hC (fun K hK => ?_)
                go_big_quiet_op
                refine hK _ ?_
                clear hK K
                refine takeList (i := 1) rfl (by kernel_rfl) (by kernel_rfl) (by kernel_rfl) (fun _ _ _ _ h => h) rfl rfl hC (fun K hK => ?_)
                go_big_quiet_op
                refine hK _ ?_
                clear hK K
                refine takeList (i := 2) rfl (by kernel_rfl) (by kernel_rfl) (by kernel_rfl) (fun _ _ _ _ h => h) rfl rfl hC (fun K hK => ?_)
                go_big_quiet_op
                refine hK _ ?_
                clear hK K
                refine takeList (i := 3) rfl (by kernel_rfl) (by kernel_rfl) (by kernel_rfl) (fun _ _ _ _ h => h) rfl rfl hC (fun K hK => ?_)
                go_big_quiet_op
                refine hK _ ?_
                clear hK K
                refine takeList (i := 4) rfl (by kernel_rfl) (by kernel_rfl) (by kernel_rfl) (fun _ _ _ _ h => h) rfl rfl hC (fun K hK => ?_)
                go_big_quiet_op
                refine hK _ ?_
                clear hK K
                refine takeList (i := 6) rfl (by kernel_rfl) (by kernel_rfl) (by kernel_rfl) (fun _ _ _ _ h => h) rfl rfl hC (fun K hK => ?_)
                go_big_quiet_op
                refine hK _ ?_
                clear hK K
                refine takeList (i := 7) rfl (by kernel_rfl) (by kernel_rfl) (by kernel_rfl) (fun _ _ _ _ h => h) rfl rfl hC (fun K hK => ?_)
                go_big_quiet_op
                refine hK _ ?_
                clear hK K
                refine takeList (i := 8) rfl (by kernel_rfl) (by kernel_rfl) (by kernel_rfl) (fun _ _ _ _ h => h) rfl rfl hC (fun K hK => ?_)
                go_big_quiet_op
                refine hK _ ?_
                clear hK K
                refine takeList (i := 9) rfl (by kernel_rfl) (by kernel_rfl) (by kernel_rfl) (fun _ _ _ _ h => h) rfl rfl hC (fun K hK => ?_)
                go_big_quiet_op
                refine hK _ ?_
                clear hK K
                refine takeList (i := 10) rfl (by kernel_rfl) (by kernel_rfl) (by kernel_rfl) (fun _ _ _ _ h => h) rfl rfl hC (fun K hK => ?_)
                go_big_quiet_op
                refine hK _ ?_
                clear hK K
                refine callList (i := 5) rfl (by kernel_rfl) rfl (fun K hK => ?_)
                go_simp
                refine (kd_rem [] [⟨gb, ma, Lb, Sb⟩] ga ma La Sa y ⟨u0, u1, u2, u3, u4, u5, u6⟩ er HO0 (HK.out _ HM.out) HXS.out HFA.out HERA.out).mono ?_
                rintro e w7 ⟨rfl, L7, h7, hk7⟩
                have H7 : Hid (OObjs w3 w7 ([⟨ga, ma + 2, L7, C.remO Sa y ⟨u0, u1, u2, u3, u4, u5, u6⟩⟩] ++ ⟨gb, ma, Lb, Sb⟩ :: [])) := h7
                obtain ⟨hc7, hf7, hl7⟩ := hk7.act HL0.out HF0.out HA0.out
                refine hK.out _ _ ⟨⟨_, hc7⟩, rfl⟩ ?_
                try go_simp
                have HC7 : Hid (AtO ⟨qp, (e1, e2), y, ⟨u0, u1, u2, u3, u4, u5, u6⟩⟩ g1 0 w7) := hc7
                have HF7 : Hid (OFree ([⟨ga, ma + 2, L7, C.remO Sa y ⟨u0, u1, u2, u3, u4, u5, u6⟩⟩] ++ ⟨gb, ma, Lb, Sb⟩ :: []) g1) := hf7
                have HL7 : Hid (g1 < w7.heap.size) := hl7
                clear hK K hC h7 hk7 hc7 hf7 hl7 HO0
                refine callList (i := 11) rfl (by kernel_rfl) rfl (fun K hK => ?_)
                go_simp
                refine (kd_rem [⟨ga, ma + 2, L7, C.remO Sa y ⟨u0, u1, u2, u3, u4, u5, u6⟩⟩] [] gb ma Lb Sb y ⟨u0, u1, u2, u3, u4, u5, u6⟩ er H7.out (HK.out _ HM.out) HXS.out HFB.out HERB.out).mono ?_
                rintro e w8 ⟨rfl, L8, h8, hk8⟩
                have H8 : Hid (OObjs w3 w8 ([] ++ ⟨ga, ma + 2, L7, C.remO Sa y ⟨u0, u1, u2, u3, u4, u5, u6⟩⟩ :: [⟨gb, ma + 2, L8, C.remO Sb y ⟨u0, u1, u2, u3, u4, u5, u6⟩⟩])) := h8
                obtain ⟨hc8, -, -⟩ := hk8.act HL7.out HF7.out HC7.out
                refine hK.out _ _ ⟨⟨_, hc8⟩, rfl⟩ ?_
                try go_simp
                have hC : ∃ m : HeldW (AtO ⟨qp, (e1, e2), y, ⟨u0, u1, u2, u3, u4, u5, u6⟩⟩ g1 0), w8 = m.v := ⟨⟨w8, hc8⟩, rfl⟩
                clear hK K h8 hk8 hc8
                refine takeList (i := 12) rfl (by kernel_rfl) (by kernel_rfl) (by kernel_rfl) (fun _ _ _ _ h => h) rfl rfl hC (fun K hK => ?_)
                go_big_quiet_op
                refine hK _ ?_
                clear hK K
                refine wpAnyH_done (by kernel_rfl) ?_ _
                have HDN : Hid (C.DropRel cc (C.remO Sa y ⟨u0, u1, u2, u3, u4, u5, u6⟩) (C.remO Sb y ⟨u0, u1, u2, u3, u4, u5, u6⟩)) := HDL.out.rem y ⟨u0, u1, u2, u3, u4, u5, u6⟩
                clear z1 z2 z3 z4 z5 z6 z7 z8 z9 z10 hne hC hee
                go_wp2_with fail
                refine (s_alike ⟨ga, ma + 2, L7, C.remO Sa y ⟨u0, u1, u2, u3, u4, u5, u6⟩⟩ ⟨gb, ma + 2, L8, C.remO Sb y ⟨u0, u1, u2, u3, u4, u5, u6⟩⟩ H8.out (by simp) (by simp) HDN.out.th).mono ?_
                rintro e w9 ⟨rfl, hb9⟩
                have H9 : Hid (OObjs w3 w9 ([] ++ ⟨ga, ma + 2, L7, C.remO Sa y ⟨u0, u1, u2, u3, u4, u5, u6⟩⟩ :: [⟨gb, ma + 2, L8, C.remO Sb y ⟨u0, u1, u2, u3, u4, u5, u6⟩⟩])) := H8.out.below hb9
                clear hb9 H8 H7 HC7 HF7
                go_wp2
                go_roundw
                case rel => exact ⟨j + 1, ma + 2, L7, L8, _, _, by go_num, by omega, by omega, H9.out, HTSA.out, HTSB.out, HDN.out⟩
                case measure => simp [intOf]; omega
          · obtain rfl : j = q := by omega
            go_wp2
            go_ret
            exact ⟨rfl, bt HB3.out HO.out.bel⟩
theorem drop_all (pa : Option Addr) (l : List ActO) (ca : Nat) (c : V7) (hc : C.fits7 c) (pb : Option Addr) (r : List ActO) (cb : Nat) (w : World) (ha : ArgO w pa l) (hxl : ∀ x ∈ l, x.x.size ≤ maxLen) (h1 : l.length ≤ ca) (h2 : ca ≤ maxLen) (hb : ArgO w pb r) (hxr : ∀ x ∈ r, x.x.size ≤ maxLen) (h3 : r.length ≤ cb) (h4 : cb ≤ maxLen) :
    Calls Try.prog 6 #[.slice pa l.length ca, .agg #[.int .i64 c.x0, .int .i64 c.x1, .int .i64 c.x2, .int .i64 c.x3, .int .i64 c.x4, .int .i64 c.x5, .int .i64 c.x6], .slice pb r.length cb] w fun e w' => e = .returned (.bool true) ∧ Below w.heap.size w w' :=
  drop_walk pa l ca c pb r cb w ha (Nat.le_trans h1 h2) hxl hb (Nat.le_trans h3 h4) hxr
end Go.Proofs.Ytoglhhoniojbaaa
