/-
  VecSays: clocks compared, merged, counted on, in bytes, as the document says.
-/
import Derived.Test.YtmjkablhambelaaWRef7d
import Derived.Test.YtmjkablhambelaaVBack
import Derived.Test.YtmjkablhambelaaBStructs
import Derived.Test.YtmjkablhambelaaBTake
import Derived.Deep.CutRange
import Derived.Deep.RegionLaw
namespace Go.Proofs.Ytmjkablhambelaa
open Go.RowKit Go.Lib
set_option linter.unusedVariables false

theorem bA {w1 c : World} {o : Obj} (h : Below w1.heap.size w1 c) : Below w1.heap.size w1 (c.alloc o) := bt h (below_new _ _)
theorem bS {w1 c : World} {b k : Nat} {v : Value} (h : Below w1.heap.size w1 c) (hb : w1.heap.size ≤ b) : Below w1.heap.size w1 (c.setCell ⟨b, k, none⟩ v) := Below.setCell h hb v
theorem heap_of_drew (w : World) : w.drew.heap = w.heap := rfl
theorem heap_of_alloc (w : World) (o : Obj) (k : Nat) : (w.alloc o).heap[k]? = if k = w.heap.size then some o else w.heap[k]? := by
  by_cases h : k = w.heap.size
  · rw [if_pos h, h]; exact heap_alloc_new _ _
  · rw [if_neg h]
    rcases Nat.lt_or_ge k w.heap.size with h1 | h1
    · exact (below_new w o).block k h1
    · rw [Array.getElem?_eq_none h1, Array.getElem?_eq_none (by simp; omega)]
theorem size_of_alloc (w : World) (o : Obj) : (w.alloc o).heap.size = w.heap.size + 1 := by simp
/-- Both count on alike. -/
theorem next_both (a : V7) (r : Int) : ∃ (m : V7) (q1 q2 f : Int), (∀ w, Calls Try.prog 10 #[a.v, .int .i64 r] w fun e w' => e = .returned (.tuple #[m.v, .agg #[.int .i64 q1, .int .i64 q2], .int .i64 f]) ∧ Below w.heap.size w w') ∧
    (∀ w, Calls Try.prog 20 #[a.v, .int .i64 r] w fun e w' => e = .returned (.tuple #[m.v, .agg #[.int .i64 q1, .int .i64 q2], .int .i64 f]) ∧ Below w.heap.size w w') := by
  cases h : (C.isRep r && C.good a) with
  | false => exact ⟨_, _, _, _, fun w => next_arg a r w h, fun w => rnext_arg a r w h⟩
  | true =>
    rw [Bool.and_eq_true] at h
    obtain ⟨k, hk, rfl⟩ := isrep_cases h.1
    by_cases hl : C.at7 a k = 1099511627776
    · exact ⟨_, _, _, _, fun w => next_lim a k w hk h.2 hl, fun w => rnext_lim a k w hk h.2 hl⟩
    · exact ⟨_, _, _, _, fun w => next_ok a k w hk h.2 hl, fun w => rnext_ok a k w hk h.2 hl⟩
theorem eq_ref (a : V7) (w : World) : (Op.equalIn 10000 37 a.v a.v).run Try.prog w = .ok true w := by rw [eq7_ref, C.same_self]
theorem has_any' (a : V7) (r n : Int) (w : World) : Calls Try.prog 14 #[a.v, .agg #[.int .i64 r, .int .i64 n]] w fun e w' => e = .returned (.bool (C.has a r n)) ∧ Below w.heap.size w w' := has_any a r n w
set_option maxRecDepth 100000 in
set_option maxHeartbeats 16000000 in
theorem says_law (a : V7) (ha : C.fits7 a) (b : V7) (hb : C.fits7 b) (r n rep : Int) (pc : Option Addr) (lc : List UInt8) (cc : Nat) (w : World) (hx : Is w pc lc.length cc lc) (hlc : lc.length ≤ cc) (hcm : cc ≤ maxLen) (hat : 0 < cc → ∃ b o, pc = some ⟨b, o, none⟩) :
    Calls Try.prog 4 #[a.v, b.v, .agg #[.int .i64 r, .int .i64 n], .int .i64 rep, .slice pc lc.length cc] w fun e w' => e = .returned (.bool true) ∧ Below w.heap.size w w' := by
  obtain ⟨v, s1, hv⟩ : ∃ v s1, C.getV (some lc) = (v, s1) := ⟨_, _, rfl⟩
  obtain ⟨m, q1, q2, f, hn1, hn2⟩ := next_both a rep
  obtain ⟨zg, hzg⟩ : ∃ z, C.good a = z := ⟨_, rfl⟩
  obtain ⟨zh, hzh⟩ : ∃ z, C.has a r n = z := ⟨_, rfl⟩
  obtain ⟨u, hu⟩ : ∃ z, C.mrg a b = z := ⟨_, rfl⟩
  obtain ⟨s, hs⟩ : ∃ z, C.lst a b = z := ⟨_, rfl⟩
  obtain ⟨zl, hzl⟩ : ∃ z, C.le a b = z := ⟨_, rfl⟩
  obtain ⟨zc, hzc⟩ : ∃ z, C.cmp a b = z := ⟨_, rfl⟩
  have G1 : Hid (∀ w, _) := fun w => good_at hzg w
  have R1 : Hid (∀ w, _) := fun w => rgood_at hzg w
  have G2 : Hid (∀ w, _) := fun w => has_at hzh w
  have R2 : Hid (∀ (w : World), Calls Try.prog 22 #[a.v, .agg #[.int .i64 r, .int .i64 n]] w fun e w' => e = .returned (.bool zh) ∧ Below w.heap.size w w') := fun w => by have := rhas_any a r n w; rw [hzh] at this; exact this
  have G3 : Hid (∀ w, _) := fun w => merge_at hu w
  have R3 : Hid (∀ w, _) := fun w => rmerge_at hu w
  have G4 : Hid (∀ w, _) := fun w => least_at hs w
  have R4 : Hid (∀ w, _) := fun w => rleast_at hs w
  have G5 : Hid (∀ w, _) := fun w => le_at hzl w
  have R5 : Hid (∀ w, _) := fun w => rle_at hzl w
  have G6 : Hid (∀ w, _) := fun w => cmp_at hzc w
  have R6 : Hid (∀ (w : World), Calls Try.prog 30 #[a.v, b.v] w fun e w' => e = .returned (.int .i64 zc) ∧ Below w.heap.size w w') := fun w => by have := rcmp_any a b w; rw [hzc] at this; exact this
  have GN : Hid (∀ w, _) := hn1
  have RN : Hid (∀ w, _) := hn2
  have HLV : Hid (lc.length ≤ 100 → (lc ++ C.vbytes a).length ≤ 100000) := fun h => by have := vbytes_len ha; simp only [List.length_append]; omega
  have GP : Hid (lc.length ≤ 100 → ∀ (w : World), Is w pc lc.length cc lc → Calls Try.prog 16 #[.slice pc lc.length cc, a.v] w fun e w' => (∃ p n c, e = .returned (.slice p n c) ∧ Is w' p n c (lc ++ C.vbytes a)) ∧ Below w.heap.size w w') := fun h w hi => put_any pc lc.length cc lc a w hi ha (by omega)
  have RP : Hid (lc.length ≤ 100 → ∀ (w : World), Is w pc lc.length cc lc → Calls Try.prog 31 #[.slice pc lc.length cc, a.v] w fun e w' => (∃ p n c, e = .returned (.slice p n c) ∧ Is w' p n c (lc ++ C.vbytes a)) ∧ Below w.heap.size w w') := fun h w hi => rput_any pc lc.length cc lc a w hi ha (by omega)
  obtain ⟨lp, hlp⟩ : ∃ lp, lp = lc ++ C.vbytes a := ⟨_, rfl⟩
  rw [← hlp] at GP RP HLV
  have E1 : ∀ w, _ := fun w => eq_ref v w
  have E2 : ∀ w, _ := fun w => eq_ref m w
  have E3 : ∀ w, _ := fun w => eq_ref u w
  have E4 : ∀ w, _ := fun w => eq_ref s w
  have E5 : ∀ w, _ := fun w => eq2_dot q1 q2 q1 q2 w
  have HX : Hid (Is w pc lc.length cc lc) := hx
  have HGV : Hid (C.getV (some lc) = (v, s1)) := hv
  have HAT : Hid (0 < cc → ∃ b o, pc = some ⟨b, o, none⟩) := hat
  have HCM : Hid (lc.length ≤ cc ∧ cc ≤ maxLen) := ⟨hlc, hcm⟩
  obtain ⟨nx, hnx⟩ : ∃ n, n = lc.length := ⟨_, rfl⟩
  have HNX : Hid (nx = lc.length) := hnx
  rw [← hnx] at HX GP RP HCM HLV ⊢
  clear hx hv hat hlc hcm hnx hzg hzh hu hs hzl hzc hn1 hn2 ha hb hlp
  obtain ⟨a0, a1, a2, a3, a4, a5, a6⟩ := a
  obtain ⟨b0, b1, b2, b3, b4, b5, b6⟩ := b
  obtain ⟨v0, v1, v2, v3, v4, v5, v6⟩ := v
  obtain ⟨m0, m1, m2, m3, m4, m5, m6⟩ := m
  obtain ⟨u0, u1, u2, u3, u4, u5, u6⟩ := u
  obtain ⟨s0, s2, s3, s4, s5, s6, s7⟩ := s
  simp only [V7.v, beq_self_eq_true, Bool.and_self] at *
  go_enter Try.func4, Try.ntmps4
  go_wp2_with fail
  refine (awake_any _).mono ?_
  rintro e w1 ⟨rfl, h1⟩
  obtain ⟨k1, k2, k3⟩ := three_boxes w _ _ _ h1
  have HB1 : Hid (Below w.heap.size w w1) := three_below w _ _ _ h1
  clear h1
  by_cases hbig : (100 : Int) < nx
  · go_wp2
    go_ret
    exact ⟨rfl, HB1.out⟩
  have HN100 : Hid (lc.length ≤ 100) := by have := HNX.out; show _ ≤ _; omega
  have HN1 : Hid (nx ≤ 100) := by show _ ≤ _; omega
  have HQ1 : Hid (∀ w', Below w1.heap.size w1 w' → _) := fun w' hb => box7 (keep_on hb k1)
  have HQ2 : Hid (∀ w', Below w1.heap.size w1 w' → _) := fun w' hb => box7 (keep_on hb k2)
  have HA1 : Hid _ := k1
  have HA2 : Hid _ := k2
  have HA3 : Hid _ := k3
  clear k1 k2 k3
  go_wp2_with fail
  go_cut [11, 12] from 11 to 27 (fun r11 r12 wx => ∃ B11 B12, r11 = .pointer (some ⟨B11, 0, none⟩) ∧ r12 = .pointer (some ⟨B12, 0, none⟩) ∧ Below w1.heap.size w1 wx ∧ RB wx B11 ⟨a0, a1, a2, a3, a4, a5, a6⟩ ∧ RB wx B12 ⟨b0, b1, b2, b3, b4, b5, b6⟩)
  case first =>
    go_region_held_law (fun w' => (w'.cell? ⟨w.heap.size, 0, none⟩ = some (.int .i64 a0) ∧ w'.cell? ⟨w.heap.size, 1, none⟩ = some (.int .i64 a1) ∧ w'.cell? ⟨w.heap.size, 2, none⟩ = some (.int .i64 a2) ∧ w'.cell? ⟨w.heap.size, 3, none⟩ = some (.int .i64 a3) ∧ w'.cell? ⟨w.heap.size, 4, none⟩ = some (.int .i64 a4) ∧ w'.cell? ⟨w.heap.size, 5, none⟩ = some (.int .i64 a5) ∧ w'.cell? ⟨w.heap.size, 6, none⟩ = some (.int .i64 a6)) ∧ (w'.cell? ⟨w.heap.size + 1, 0, none⟩ = some (.int .i64 b0) ∧ w'.cell? ⟨w.heap.size + 1, 1, none⟩ = some (.int .i64 b1) ∧ w'.cell? ⟨w.heap.size + 1, 2, none⟩ = some (.int .i64 b2) ∧ w'.cell? ⟨w.heap.size + 1, 3, none⟩ = some (.int .i64 b3) ∧ w'.cell? ⟨w.heap.size + 1, 4, none⟩ = some (.int .i64 b4) ∧ w'.cell? ⟨w.heap.size + 1, 5, none⟩ = some (.int .i64 b5) ∧ w'.cell? ⟨w.heap.size + 1, 6, none⟩ = some (.int .i64 b6)))
      ((refine ⟨HQ1.out _ ?_, HQ2.out _ ?_⟩ <;> (repeat' (first | (with_reducible refine bA ?_) | (with_reducible refine Below.drew ?_) | (with_reducible exact Below.refl _ _) | (with_reducible refine bS ?_ (by simp <;> omega)))))) (fail)
    all_goals
      go_wp2_with fail
      go_meet
    all_goals
      refine ⟨_, _, rfl, rfl, ?_, ?_, ?_⟩
      · (repeat' (first | (with_reducible refine bA ?_) | (with_reducible refine Below.drew ?_) | (with_reducible exact Below.refl _ _) | (with_reducible refine bS ?_ (by simp <;> omega))))
      all_goals
        try unfold RB
        simp only [heap_of_drew, heap_of_alloc, size_of_alloc]
        repeat' split
        all_goals first | rfl | (exfalso; omega) | exact absurd trivial ‹¬True›
  case rest =>
    obtain ⟨B11, B12, rfl, rfl, hbx, q11, q12⟩ := hcut
    have HX1 : Hid _ := hbx
    have HBc : Hid (Below w.heap.size w wc) := bt HB1.out hbx
    have HAc : Hid _ := keep_on hbx HA1.out
    have HBbc : Hid _ := keep_on hbx HA2.out
    have HDc : Hid _ := keep_on hbx HA3.out
    have HXc : Hid _ := q11
    have HYc : Hid _ := q12
    clear hbx q11 q12 HQ1 HQ2 HA1 HA2 HA3
    go_wp2_with fail
    refine (read_at wc pc nx cc lc (HX.out.below HBc.out) (Nat.le_trans HN100.out (by decide))).mono ?_
    rintro e w2 ⟨⟨g, p2, n2, c2, rfl, hlo, hlt, hr2⟩, h2⟩
    have HR2 : Hid _ := hr2
    have HG2 : Hid (wc.heap.size ≤ g ∧ g < w2.heap.size) := ⟨hlo, hlt⟩
    have H2 : Hid _ := h2
    clear hr2 hlo hlt h2
    go_wp2_with fail
    obtain ⟨y, hy⟩ : ∃ y, s1.isNone = y := ⟨_, rfl⟩
    obtain ⟨z, hz⟩ : ∃ z, (s1 == some []) = z := ⟨_, rfl⟩
    have KBad : Hid (∀ (w : World) (p : Option Addr) (n c : Nat), Rd w g s1 p n c → Calls Try.prog 15 #[.pointer (some ⟨g, 0, none⟩)] w fun e w' => e = .returned (.bool y) ∧ w' = w) := fun w p n c h => by have := bad_any w g s1 p n c h; rw [hy] at this; exact this
    have KEnd : Hid (∀ (w : World) (p : Option Addr) (n c : Nat), Rd w g s1 p n c → Calls Try.prog 18 #[.pointer (some ⟨g, 0, none⟩)] w fun e w' => e = .returned (.bool z) ∧ w' = w) := fun w p n c h => by have := end_any w g s1 p n c h; rw [hz] at this; exact this
    have KREnd : Hid (∀ (w : World), Rs w w2.heap.size pc nx cc lc s1 → Calls Try.prog 19 #[.pointer (some ⟨w2.heap.size, 0, none⟩)] w fun e w' => e = .returned (.bool z) ∧ Below w.heap.size w w') := fun w h => by have := refend_any w w2.heap.size pc nx cc lc s1 h (Nat.le_trans HN100.out (by decide)); rw [hz] at this; exact this
    have KC : Hid (∀ (w : World), Rs w w2.heap.size pc nx cc lc s1 → w.cell? ⟨w2.heap.size, 2, none⟩ = some (.bool y)) := fun w h => by
      obtain ⟨a', hrr, _⟩ := h
      have := hrr.c2
      rw [hy] at this; exact this
    have KGet : Hid (∀ (w : World) (p : Option Addr) (n c : Nat), Rd w g (some lc) p n c → _) := fun w p n c h => get_at w g (some lc) p n c ⟨v0, v1, v2, v3, v4, v5, v6⟩ s1 h (Nat.le_trans HN100.out (by decide)) HGV.out
    have KRGet : Hid (∀ (w : World), Rs w w2.heap.size pc nx cc lc (some lc) → _) := fun w h => rget_at w w2.heap.size pc nx cc lc (some lc) s1 ⟨v0, v1, v2, v3, v4, v5, v6⟩ h (Nat.le_trans HN100.out (by decide)) HGV.out
    have HSG : Hid (w2.heap.size ≠ g) := by have := HG2.out.2; show ¬ _; omega
    clear hy hz
    simp only [V7.v] at KGet KRGet
    refine wp_letter (fun W => Rd W g (some lc) p2 n2 c2 ∧ Rs W w2.heap.size pc nx cc lc (some lc) ∧ Below wc.heap.size wc W) ⟨HR2.out.below (below_new _ _), ⟨0, ⟨heap_alloc_new _ _, Is.below (HX.out.below HBc.out) (bt H2.out (below_new _ _)), HCM.out.1, HCM.out.2, Nat.zero_le _, HAT.out⟩, fun r hr => by cases hr; rfl⟩, bt H2.out (below_new _ _)⟩ ?_
    rintro W ⟨hrW, hsW, hbW⟩
    have HRW : Hid (Rd W.drew g (some lc) p2 n2 c2) := hrW.below (Below.refl _ _).drew
    have HSW : Hid (Rs W.drew w2.heap.size pc nx cc lc (some lc)) := hsW.below (Below.refl _ _).drew
    have HBW : Hid (Below wc.heap.size wc W.drew) := hbW.drew
    have HGB : Hid (wc.heap.size ≤ g ∧ wc.heap.size ≤ w2.heap.size) := ⟨HG2.out.1, H2.out.size⟩
    clear hrW hsW hbW
    go_cut [53] from 33 to 53 (fun r53 wx => r53 = .bool false ∧ Below wc.heap.size wc wx)
    case first =>
      have hyy : (y == y) = true := beq_self_eq_true y
      have hzz : (z == z) = true := beq_self_eq_true z
      all_goals
        (go_region_with (first
            | (go_at_call 19; refine (KREnd.out _ hs4).mono ?_; rintro e w5 ⟨rfl, hb5⟩)
            | (go_at_call 18; refine (KEnd.out _ _ _ _ hr4).mono ?_; rintro e w5 ⟨rfl, hw5⟩; subst w5)
            | (go_at_call 15; refine (KBad.out _ _ _ _ hr4).mono ?_; rintro e w5 ⟨rfl, hw5⟩; subst w5)
            | (go_at_call 17; refine (KRGet.out _ hs3).mono ?_; rintro e w4 ⟨rfl, hs4, hg4⟩; have hr4 := hr3.kept hg4 hs3.nb HSG.out.symm; have c4 := KC.out w4 hs4)
            | (go_at_call 12; refine (KGet.out _ _ _ _ HRW.out).mono ?_; rintro e w3 ⟨rfl, ⟨p3, n3, c3, hr3⟩, hg3⟩; have hs3 := HSW.out.kept hg3 HRW.out.nb HSG.out)))
      all_goals
        go_wp2_with fail
        go_meet
        case rel => exact ⟨rfl, bt (Below.grown (Below.grown HBW.out hg3 HBW.out.size (fun k hk => by cases hk; exact HGB.out.1)) hg4 (Nat.le_trans HBW.out.size hg3.size) (fun k hk => by cases hk; exact HGB.out.2)) hb5⟩
    case rest =>
      obtain ⟨rfl, hbx⟩ := hcut
      have HBd : Hid (Below w.heap.size w wc) := bt HBc.out hbx
      have HAd : Hid _ := keep_on hbx HAc.out
      have HBbd : Hid _ := keep_on hbx HBbc.out
      have HDd : Hid _ := keep_on hbx HDc.out
      have HXd : Hid _ := keep_on hbx HXc.out
      have HYd : Hid _ := keep_on hbx HYc.out
      clear hbx HAc HBbc HDc HXc HYc HBc KBad KEnd KREnd KC KGet KRGet HSG HRW HSW HBW HGB HR2 HG2 H2 HX1
      obtain ⟨A0, A1, A2, A3, A4, A5, A6⟩ := box7 HAd.out
      go_wp2_with fail
      refine (GN.out _).mono ?_
      rintro e w3 ⟨rfl, h3⟩
      have HBe : Hid (Below w.heap.size w w3) := bt HBd.out h3
      have HAe : Hid _ := keep_on h3 HAd.out
      have HBbe : Hid _ := keep_on h3 HBbd.out
      have HDe : Hid _ := keep_on h3 HDd.out
      have HXe : Hid _ := keep_on h3 HXd.out
      have HYe : Hid _ := keep_on h3 HYd.out
      clear h3 A0 A1 A2 A3 A4 A5 A6 HAd HBbd HDd HXd HYd HBd
      go_upto_region 10 with fail
      refine wp_letter (fun W => Below w3.heap.size w3 W ∧ W.heap[w3.heap.size]? = some (.cells #[.int .i64 m0, .int .i64 m1, .int .i64 m2, .int .i64 m3, .int .i64 m4, .int .i64 m5, .int .i64 m6] 24) ∧ W.heap[w3.heap.size + 1]? = some (.cells #[.int .i64 q1, .int .i64 q2] 26)) ⟨bt (below_new _ _) (below_new _ _), two_boxes w3 _ _ (Below.refl _ _)⟩ ?_
      rintro W3 ⟨hb3, k15, k16⟩
      have HBe3 : Hid (Below w.heap.size w W3) := bt HBe.out hb3
      have HAe3 : Hid _ := keep_on hb3 HAe.out
      have HBbe3 : Hid _ := keep_on hb3 HBbe.out
      have HDe3 : Hid _ := keep_on hb3 HDe.out
      have HXe3 : Hid _ := keep_on hb3 HXe.out
      have HYe3 : Hid _ := keep_on hb3 HYe.out
      have HK15 : Hid _ := k15
      have HK16 : Hid _ := k16
      clear hb3 k15 k16 HAe HBbe HDe HXe HYe HBe
      obtain ⟨A0, A1, A2, A3, A4, A5, A6⟩ := box7 HXe3.out
      go_wp2_with fail
      refine (RN.out _).mono ?_
      rintro e w4 ⟨rfl, h4⟩
      go_upto_region 11 with fail
      refine wp_letter (fun W => Below w4.heap.size w4 W ∧ W.heap[w4.heap.size]? = some (.cells #[.int .i64 m0, .int .i64 m1, .int .i64 m2, .int .i64 m3, .int .i64 m4, .int .i64 m5, .int .i64 m6] 37) ∧ W.heap[w4.heap.size + 1]? = some (.cells #[.int .i64 q1, .int .i64 q2] 26)) ⟨bt (below_new _ _) (below_new _ _), two_boxes w4 _ _ (Below.refl _ _)⟩ ?_
      rintro W4 ⟨hb4', k18, k19⟩
      have hb4 := bt h4 hb4'
      have HBf : Hid (Below w.heap.size w W4) := bt HBe3.out hb4
      have hne : Nonempty (NewW W4) := ⟨NewW.start W4⟩
      clear A0 A1 A2 A3 A4 A5 A6
      obtain ⟨A0, A1, A2, A3, A4, A5, A6⟩ := box7_all (w := W4) (keep_on hb4 HAe3.out)
      obtain ⟨B0, B1, B2, B3, B4, B5, B6⟩ := box7_all (w := W4) (keep_on hb4 HBbe3.out)
      obtain ⟨X0, X1, X2, X3, X4, X5, X6⟩ := box7_all (w := W4) (keep_on hb4 HXe3.out)
      obtain ⟨Y0, Y1, Y2, Y3, Y4, Y5, Y6⟩ := box7_all (w := W4) (keep_on hb4 HYe3.out)
      obtain ⟨M0, M1, M2, M3, M4, M5, M6⟩ := box7_all (w := W4) (keep_on hb4 HK15.out)
      obtain ⟨N0, N1, N2, N3, N4, N5, N6⟩ := box7_all (w := W4) k18
      obtain ⟨D0, D1⟩ := box2_all (w := W4) (keep_on hb4 HDe3.out)
      obtain ⟨P0, P1⟩ := box2_all (w := W4) (keep_on hb4 HK16.out)
      obtain ⟨Q0, Q1⟩ := box2_all (w := W4) k19
      have HXf : Hid _ := keep_on hb4 HXe3.out
      clear hb4 hb4' h4 k18 k19 HAe3 HBbe3 HDe3 HXe3 HYe3 HK15 HK16 HBe3
      have HLP : (lp == lp) = true := beq_self_eq_true lp
      have hff : (f == f) = true := beq_self_eq_true f
      have hgg : (zg == zg) = true := beq_self_eq_true zg
      have hhh : (zh == zh) = true := beq_self_eq_true zh
      have hll : (zl == zl) = true := beq_self_eq_true zl
      have hcc : (zc == zc) = true := beq_self_eq_true zc
      dsimp only [List.append]
      refine wp_region_held_drew (S := fun w' => ∃ n : NewW W4, w' = n.v) (by kernel_rfl) ⟨NewW.start W4, rfl⟩ (fun hC => ?_)
      have hB : Below W4.heap.size W4 W4.drew := (Below.refl _ _).drew
      refine takeList (i := 0) rfl (by kernel_rfl) (by kernel_rfl) (by kernel_rfl) (fun _ _ _ _ h => h) rfl rfl hC (fun K hK => ?_)
      go_big_quiet_op
      refine hK _ ?_
      clear hK K
      refine takeList (i := 1) rfl (by kernel_rfl) (by kernel_rfl) (by kernel_rfl) (fun _ _ _ _ h => h) rfl rfl hC (fun K hK => ?_)
      go_big_quiet_op
      refine hK _ ?_
      clear hK K
      refine takeList (i := 2) rfl (by kernel_rfl) (by kernel_rfl) (by kernel_rfl) (fun _ _ _ _ h => h) rfl rfl hC (fun K hK => ?_)
      go_big_quiet_op
      refine hK _ ?_
      clear hK K
      refine takeList (i := 3) rfl (by kernel_rfl) (by kernel_rfl) (by kernel_rfl) (fun _ _ _ _ h => h) rfl rfl hC (fun K hK => ?_)
      go_big_quiet_op
      refine hK _ ?_
      clear hK K
      refine takeList (i := 4) rfl (by kernel_rfl) (by kernel_rfl) (by kernel_rfl) (fun _ _ _ _ h => h) rfl rfl hC (fun K hK => ?_)
      go_big_quiet_op
      refine hK _ ?_
      clear hK K
      refine takeList (i := 5) rfl (by kernel_rfl) (by kernel_rfl) (by kernel_rfl) (fun _ _ _ _ h => h) rfl rfl hC (fun K hK => ?_)
      go_big_quiet_op
      refine hK _ ?_
      clear hK K
      refine takeList (i := 6) rfl (by kernel_rfl) (by kernel_rfl) (by kernel_rfl) (fun _ _ _ _ h => h) rfl rfl hC (fun K hK => ?_)
      go_big_quiet_op
      refine hK _ ?_
      clear hK K
      refine takeList (i := 7) rfl (by kernel_rfl) (by kernel_rfl) (by kernel_rfl) (fun _ _ _ _ h => h) rfl rfl hC (fun K hK => ?_)
      go_big_quiet_op
      refine hK _ ?_
      clear hK K
      refine takeList (i := 8) rfl (by kernel_rfl) (by kernel_rfl) (by kernel_rfl) (fun _ _ _ _ h => h) rfl rfl hC (fun K hK => ?_)
      go_big_quiet_op
      refine hK _ ?_
      clear hK K
      refine takeList (i := 9) rfl (by kernel_rfl) (by kernel_rfl) (by kernel_rfl) (fun _ _ _ _ h => h) rfl rfl hC (fun K hK => ?_)
      go_big_quiet_op
      refine hK _ ?_
      clear hK K
      refine takeList (i := 10) rfl (by kernel_rfl) (by kernel_rfl) (by kernel_rfl) (fun _ _ _ _ h => h) rfl rfl hC (fun K hK => ?_)
      go_big_quiet_op
      refine hK _ ?_
      clear hK K
      refine takeList (i := 11) rfl (by kernel_rfl) (by kernel_rfl) (by kernel_rfl) (fun _ _ _ _ h => h) rfl rfl hC (fun K hK => ?_)
      go_big_quiet_op
      refine hK _ ?_
      clear hK K
      refine takeList (i := 12) rfl (by kernel_rfl) (by kernel_rfl) (by kernel_rfl) (fun _ _ _ _ h => h) rfl rfl hC (fun K hK => ?_)
      go_big_quiet_op
      refine hK _ ?_
      clear hK K
      refine takeList (i := 13) rfl (by kernel_rfl) (by kernel_rfl) (by kernel_rfl) (fun _ _ _ _ h => h) rfl rfl hC (fun K hK => ?_)
      go_big_quiet_op
      refine hK _ ?_
      clear hK K
      refine takeList (i := 14) rfl (by kernel_rfl) (by kernel_rfl) (by kernel_rfl) (fun _ _ _ _ h => h) rfl rfl hC (fun K hK => ?_)
      go_big_quiet_op
      refine hK _ ?_
      clear hK K
      refine takeList (i := 16) rfl (by kernel_rfl) (by kernel_rfl) (by kernel_rfl) (fun _ _ _ _ h => h) rfl rfl hC (fun K hK => ?_)
      go_big_quiet_op
      refine hK _ ?_
      clear hK K
      refine callList (i := 15) rfl (by kernel_rfl) rfl (fun K hK => ?_)
      go_simp
      refine (G1.out _).mono ?_
      rintro e wk ⟨rfl, hk⟩
      replace hB := bt hB hk
      refine hK.out _ _ ⟨⟨wk, hB⟩, rfl⟩ ?_
      clear hK K hC hk
      have hC : ∃ n : NewW W4, wk = n.v := ⟨⟨wk, hB⟩, rfl⟩
      refine callList (i := 17) rfl (by kernel_rfl) rfl (fun K hK => ?_)
      go_simp
      refine (R1.out _).mono ?_
      rintro e wk ⟨rfl, hk⟩
      replace hB := bt hB hk
      refine hK.out _ _ ⟨⟨wk, hB⟩, rfl⟩ ?_
      clear hK K hC hk
      have hC : ∃ n : NewW W4, wk = n.v := ⟨⟨wk, hB⟩, rfl⟩
      refine takeList (i := 18) rfl (by kernel_rfl) (by kernel_rfl) (by kernel_rfl) (fun _ _ _ _ h => h) rfl rfl hC (fun K hK => ?_)
      go_big_quiet_op
      refine hK _ ?_
      clear hK K
      refine takeList (i := 19) rfl (by kernel_rfl) (by kernel_rfl) (by kernel_rfl) (fun _ _ _ _ h => h) rfl rfl hC (fun K hK => ?_)
      go_big_quiet_op
      refine hK _ ?_
      clear hK K
      refine takeList (i := 20) rfl (by kernel_rfl) (by kernel_rfl) (by kernel_rfl) (fun _ _ _ _ h => h) rfl rfl hC (fun K hK => ?_)
      go_big_quiet_op
      refine hK _ ?_
      clear hK K
      refine takeList (i := 21) rfl (by kernel_rfl) (by kernel_rfl) (by kernel_rfl) (fun _ _ _ _ h => h) rfl rfl hC (fun K hK => ?_)
      go_big_quiet_op
      refine hK _ ?_
      clear hK K
      refine takeList (i := 22) rfl (by kernel_rfl) (by kernel_rfl) (by kernel_rfl) (fun _ _ _ _ h => h) rfl rfl hC (fun K hK => ?_)
      go_big_quiet_op
      refine hK _ ?_
      clear hK K
      refine takeList (i := 24) rfl (by kernel_rfl) (by kernel_rfl) (by kernel_rfl) (fun _ _ _ _ h => h) rfl rfl hC (fun K hK => ?_)
      go_big_quiet_op
      refine hK _ ?_
      clear hK K
      refine takeList (i := 25) rfl (by kernel_rfl) (by kernel_rfl) (by kernel_rfl) (fun _ _ _ _ h => h) rfl rfl hC (fun K hK => ?_)
      go_big_quiet_op
      refine hK _ ?_
      clear hK K
      refine callList (i := 23) rfl (by kernel_rfl) rfl (fun K hK => ?_)
      go_simp
      refine (G2.out _).mono ?_
      rintro e wk ⟨rfl, hk⟩
      replace hB := bt hB hk
      refine hK.out _ _ ⟨⟨wk, hB⟩, rfl⟩ ?_
      clear hK K hC hk
      have hC : ∃ n : NewW W4, wk = n.v := ⟨⟨wk, hB⟩, rfl⟩
      refine callList (i := 26) rfl (by kernel_rfl) rfl (fun K hK => ?_)
      go_simp
      refine (R2.out _).mono ?_
      rintro e wk ⟨rfl, hk⟩
      replace hB := bt hB hk
      refine hK.out _ _ ⟨⟨wk, hB⟩, rfl⟩ ?_
      clear hK K hC hk
      have hC : ∃ n : NewW W4, wk = n.v := ⟨⟨wk, hB⟩, rfl⟩
      refine takeList (i := 27) rfl (by kernel_rfl) (by kernel_rfl) (by kernel_rfl) (fun _ _ _ _ h => h) rfl rfl hC (fun K hK => ?_)
      go_big_quiet_op
      refine hK _ ?_
      clear hK K
      refine takeList (i := 28) rfl (by kernel_rfl) (by kernel_rfl) (by kernel_rfl) (fun _ _ _ _ h => h) rfl rfl hC (fun K hK => ?_)
      go_big_quiet_op
      refine hK _ ?_
      clear hK K
      refine takeList (i := 29) rfl (by kernel_rfl) (by kernel_rfl) (by kernel_rfl) (fun _ _ _ _ h => h) rfl rfl hC (fun K hK => ?_)
      go_big_quiet_op
      refine hK _ ?_
      clear hK K
      refine takeList (i := 30) rfl (by kernel_rfl) (by kernel_rfl) (by kernel_rfl) (fun _ _ _ _ h => h) rfl rfl hC (fun K hK => ?_)
      go_big_quiet_op
      refine hK _ ?_
      clear hK K
      refine takeList (i := 31) rfl (by kernel_rfl) (by kernel_rfl) (by kernel_rfl) (fun _ _ _ _ h => h) rfl rfl hC (fun K hK => ?_)
      go_big_quiet_op
      refine hK _ ?_
      clear hK K
      refine takeList (i := 33) rfl (by kernel_rfl) (by kernel_rfl) (by kernel_rfl) (fun _ _ _ _ h => h) rfl rfl hC (fun K hK => ?_)
      go_big_quiet_op
      refine hK _ ?_
      clear hK K
      refine takeList (i := 34) rfl (by kernel_rfl) (by kernel_rfl) (by kernel_rfl) (fun _ _ _ _ h => h) rfl rfl hC (fun K hK => ?_)
      go_big_quiet_op
      refine hK _ ?_
      clear hK K
      refine callList (i := 32) rfl (by kernel_rfl) rfl (fun K hK => ?_)
      go_simp
      refine (G3.out _).mono ?_
      rintro e wk ⟨rfl, hk⟩
      replace hB := bt hB hk
      refine hK.out _ _ ⟨⟨wk, hB⟩, rfl⟩ ?_
      clear hK K hC hk
      have hC : ∃ n : NewW W4, wk = n.v := ⟨⟨wk, hB⟩, rfl⟩
      refine callList (i := 35) rfl (by kernel_rfl) rfl (fun K hK => ?_)
      go_simp
      refine (R3.out _).mono ?_
      rintro e wk ⟨rfl, hk⟩
      replace hB := bt hB hk
      refine hK.out _ _ ⟨⟨wk, hB⟩, rfl⟩ ?_
      clear hK K hC hk
      have hC : ∃ n : NewW W4, wk = n.v := ⟨⟨wk, hB⟩, rfl⟩
      refine takeList (i := 36) rfl (by kernel_rfl) (by kernel_rfl) (by kernel_rfl) (fun _ _ _ _ h => h) rfl rfl hC (fun K hK => ?_)
      go_big_quiet_op
      refine hK _ ?_
      clear hK K
      refine takeList (i := 37) rfl (by kernel_rfl) (by kernel_rfl) (by kernel_rfl) (fun _ _ _ _ h => h) rfl rfl hC (fun K hK => ?_)
      go_big_quiet_op
      refine hK _ ?_
      clear hK K
      refine takeList (i := 38) rfl (by kernel_rfl) (by kernel_rfl) (by kernel_rfl) (fun _ _ _ _ h => h) rfl rfl hC (fun K hK => ?_)
      go_big_quiet_op
      refine hK _ ?_
      clear hK K
      refine takeList (i := 39) rfl (by kernel_rfl) (by kernel_rfl) (by kernel_rfl) (fun _ _ _ _ h => h) rfl rfl hC (fun K hK => ?_)
      go_big_quiet_op
      refine hK _ ?_
      clear hK K
      refine takeList (i := 40) rfl (by kernel_rfl) (by kernel_rfl) (by kernel_rfl) (fun _ _ _ _ h => h) rfl rfl hC (fun K hK => ?_)
      go_big_quiet_op
      refine hK _ ?_
      clear hK K
      refine takeList (i := 42) rfl (by kernel_rfl) (by kernel_rfl) (by kernel_rfl) (fun _ _ _ _ h => h) rfl rfl hC (fun K hK => ?_)
      go_big_quiet_op
      refine hK _ ?_
      clear hK K
      refine takeList (i := 43) rfl (by kernel_rfl) (by kernel_rfl) (by kernel_rfl) (fun _ _ _ _ h => h) rfl rfl hC (fun K hK => ?_)
      go_big_quiet_op
      refine hK _ ?_
      clear hK K
      refine callList (i := 41) rfl (by kernel_rfl) rfl (fun K hK => ?_)
      go_simp
      refine (G4.out _).mono ?_
      rintro e wk ⟨rfl, hk⟩
      replace hB := bt hB hk
      refine hK.out _ _ ⟨⟨wk, hB⟩, rfl⟩ ?_
      clear hK K hC hk
      have hC : ∃ n : NewW W4, wk = n.v := ⟨⟨wk, hB⟩, rfl⟩
      refine callList (i := 44) rfl (by kernel_rfl) rfl (fun K hK => ?_)
      go_simp
      refine (R4.out _).mono ?_
      rintro e wk ⟨rfl, hk⟩
      replace hB := bt hB hk
      refine hK.out _ _ ⟨⟨wk, hB⟩, rfl⟩ ?_
      clear hK K hC hk
      have hC : ∃ n : NewW W4, wk = n.v := ⟨⟨wk, hB⟩, rfl⟩
      refine takeList (i := 45) rfl (by kernel_rfl) (by kernel_rfl) (by kernel_rfl) (fun _ _ _ _ h => h) rfl rfl hC (fun K hK => ?_)
      go_big_quiet_op
      refine hK _ ?_
      clear hK K
      refine takeList (i := 46) rfl (by kernel_rfl) (by kernel_rfl) (by kernel_rfl) (fun _ _ _ _ h => h) rfl rfl hC (fun K hK => ?_)
      go_big_quiet_op
      refine hK _ ?_
      clear hK K
      refine takeList (i := 47) rfl (by kernel_rfl) (by kernel_rfl) (by kernel_rfl) (fun _ _ _ _ h => h) rfl rfl hC (fun K hK => ?_)
      go_big_quiet_op
      refine hK _ ?_
      clear hK K
      refine takeList (i := 48) rfl (by kernel_rfl) (by kernel_rfl) (by kernel_rfl) (fun _ _ _ _ h => h) rfl rfl hC (fun K hK => ?_)
      go_big_quiet_op
      refine hK _ ?_
      clear hK K
      refine takeList (i := 49) rfl (by kernel_rfl) (by kernel_rfl) (by kernel_rfl) (fun _ _ _ _ h => h) rfl rfl hC (fun K hK => ?_)
      go_big_quiet_op
      refine hK _ ?_
      clear hK K
      refine takeList (i := 51) rfl (by kernel_rfl) (by kernel_rfl) (by kernel_rfl) (fun _ _ _ _ h => h) rfl rfl hC (fun K hK => ?_)
      go_big_quiet_op
      refine hK _ ?_
      clear hK K
      refine takeList (i := 52) rfl (by kernel_rfl) (by kernel_rfl) (by kernel_rfl) (fun _ _ _ _ h => h) rfl rfl hC (fun K hK => ?_)
      go_big_quiet_op
      refine hK _ ?_
      clear hK K
      refine callList (i := 50) rfl (by kernel_rfl) rfl (fun K hK => ?_)
      go_simp
      refine (G5.out _).mono ?_
      rintro e wk ⟨rfl, hk⟩
      replace hB := bt hB hk
      refine hK.out _ _ ⟨⟨wk, hB⟩, rfl⟩ ?_
      clear hK K hC hk
      have hC : ∃ n : NewW W4, wk = n.v := ⟨⟨wk, hB⟩, rfl⟩
      refine callList (i := 53) rfl (by kernel_rfl) rfl (fun K hK => ?_)
      go_simp
      refine (R5.out _).mono ?_
      rintro e wk ⟨rfl, hk⟩
      replace hB := bt hB hk
      refine hK.out _ _ ⟨⟨wk, hB⟩, rfl⟩ ?_
      clear hK K hC hk
      have hC : ∃ n : NewW W4, wk = n.v := ⟨⟨wk, hB⟩, rfl⟩
      refine takeList (i := 54) rfl (by kernel_rfl) (by kernel_rfl) (by kernel_rfl) (fun _ _ _ _ h => h) rfl rfl hC (fun K hK => ?_)
      go_big_quiet_op
      refine hK _ ?_
      clear hK K
      refine takeList (i := 55) rfl (by kernel_rfl) (by kernel_rfl) (by kernel_rfl) (fun _ _ _ _ h => h) rfl rfl hC (fun K hK => ?_)
      go_big_quiet_op
      refine hK _ ?_
      clear hK K
      refine takeList (i := 56) rfl (by kernel_rfl) (by kernel_rfl) (by kernel_rfl) (fun _ _ _ _ h => h) rfl rfl hC (fun K hK => ?_)
      go_big_quiet_op
      refine hK _ ?_
      clear hK K
      refine takeList (i := 57) rfl (by kernel_rfl) (by kernel_rfl) (by kernel_rfl) (fun _ _ _ _ h => h) rfl rfl hC (fun K hK => ?_)
      go_big_quiet_op
      refine hK _ ?_
      clear hK K
      refine takeList (i := 58) rfl (by kernel_rfl) (by kernel_rfl) (by kernel_rfl) (fun _ _ _ _ h => h) rfl rfl hC (fun K hK => ?_)
      go_big_quiet_op
      refine hK _ ?_
      clear hK K
      refine takeList (i := 60) rfl (by kernel_rfl) (by kernel_rfl) (by kernel_rfl) (fun _ _ _ _ h => h) rfl rfl hC (fun K hK => ?_)
      go_big_quiet_op
      refine hK _ ?_
      clear hK K
      refine takeList (i := 61) rfl (by kernel_rfl) (by kernel_rfl) (by kernel_rfl) (fun _ _ _ _ h => h) rfl rfl hC (fun K hK => ?_)
      go_big_quiet_op
      refine hK _ ?_
      clear hK K
      refine callList (i := 59) rfl (by kernel_rfl) rfl (fun K hK => ?_)
      go_simp
      refine (G6.out _).mono ?_
      rintro e wk ⟨rfl, hk⟩
      replace hB := bt hB hk
      refine hK.out _ _ ⟨⟨wk, hB⟩, rfl⟩ ?_
      clear hK K hC hk
      have hC : ∃ n : NewW W4, wk = n.v := ⟨⟨wk, hB⟩, rfl⟩
      refine callList (i := 62) rfl (by kernel_rfl) rfl (fun K hK => ?_)
      go_simp
      refine (R6.out _).mono ?_
      rintro e wk ⟨rfl, hk⟩
      replace hB := bt hB hk
      refine hK.out _ _ ⟨⟨wk, hB⟩, rfl⟩ ?_
      clear hK K hC hk
      have hC : ∃ n : NewW W4, wk = n.v := ⟨⟨wk, hB⟩, rfl⟩
      refine takeList (i := 63) rfl (by kernel_rfl) (by kernel_rfl) (by kernel_rfl) (fun _ _ _ _ h => h) rfl rfl hC (fun K hK => ?_)
      go_big_quiet_op
      refine hK _ ?_
      clear hK K
      refine takeList (i := 64) rfl (by kernel_rfl) (by kernel_rfl) (by kernel_rfl) (fun _ _ _ _ h => h) rfl rfl hC (fun K hK => ?_)
      go_big_quiet_op
      refine hK _ ?_
      clear hK K
      refine takeList (i := 65) rfl (by kernel_rfl) (by kernel_rfl) (by kernel_rfl) (fun _ _ _ _ h => h) rfl rfl hC (fun K hK => ?_)
      go_big_quiet_op
      refine hK _ ?_
      clear hK K
      refine takeList (i := 66) rfl (by kernel_rfl) (by kernel_rfl) (by kernel_rfl) (fun _ _ _ _ h => h) rfl rfl hC (fun K hK => ?_)
      go_big_quiet_op
      refine hK _ ?_
      clear hK K
      refine takeList (i := 67) rfl (by kernel_rfl) (by kernel_rfl) (by kernel_rfl) (fun _ _ _ _ h => h) rfl rfl hC (fun K hK => ?_)
      go_big_quiet_op
      refine hK _ ?_
      clear hK K
      refine takeList (i := 70) rfl (by kernel_rfl) (by kernel_rfl) (by kernel_rfl) (fun _ _ _ _ h => h) rfl rfl hC (fun K hK => ?_)
      go_big_quiet_op
      refine hK _ ?_
      clear hK K
      refine takeList (i := 71) rfl (by kernel_rfl) (by kernel_rfl) (by kernel_rfl) (fun _ _ _ _ h => h) rfl rfl hC (fun K hK => ?_)
      go_big_quiet_op
      refine hK _ ?_
      clear hK K
      refine callList (i := 68) rfl (by kernel_rfl) rfl (fun K hK => ?_)
      go_simp
      refine (GP.out HN1.out _ (HX.out.below (bt HBf.out hB))).mono ?_
      rintro e w5 ⟨⟨p5, n5, c5, rfl, hi5⟩, hk⟩
      replace hB := bt hB hk
      refine hK.out _ _ ⟨⟨w5, hB⟩, rfl⟩ ?_
      clear hK K hC hk
      refine wpAnyH_strengthen (S' := fun w' => ∃ n : NewW w5, w' = n.v) (fun w' ⟨n, hn⟩ => ⟨⟨n.v, bt hB n.h⟩, hn⟩) _ _ _ _ ?_
      have hne5 : Nonempty (NewW w5) := ⟨NewW.start w5⟩
      have k5 : ∀ n : NewW w5, (convert 32 9 (.slice p5 n5 c5)).run Try.prog n.v = .ok (.string ⟨lp.toArray⟩) n.v := fun n => conv_is (hi5.below n.h)
      have hBw5 : Below w.heap.size w w5 := bt HBf.out hB
      clear A0 A1 A2 A3 A4 A5 A6 B0 B1 B2 B3 B4 B5 B6 X0 X1 X2 X3 X4 X5 X6 Y0 Y1 Y2 Y3 Y4 Y5 Y6 M0 M1 M2 M3 M4 M5 M6 N0 N1 N2 N3 N4 N5 N6 D0 D1 P0 P1 Q0 Q1
      obtain ⟨X0, X1, X2, X3, X4, X5, X6⟩ := box7_all (w := w5) (keep_on hB HXf.out)
      have hC : ∃ n : NewW w5, w5 = n.v := ⟨⟨w5, Below.refl _ _⟩, rfl⟩
      clear hB
      refine takeList (i := 69) rfl (by kernel_rfl) (by kernel_rfl) (by kernel_rfl) (fun _ _ _ _ h => h) rfl rfl hC (fun K hK => ?_)
      go_big_quiet_op
      refine hK _ ?_
      clear hK K
      refine callList (i := 72) rfl (by kernel_rfl) rfl (fun K hK => ?_)
      go_simp
      refine (RP.out HN1.out _ (HX.out.below hBw5)).mono ?_
      rintro e w6 ⟨⟨p6, n6, c6, rfl, hi6⟩, hk⟩
      refine hK.out _ _ ⟨⟨w6, hk⟩, rfl⟩ ?_
      clear hK K hC k5 X0 X1 X2 X3 X4 X5 X6
      refine wpAnyH_strengthen (S' := fun w' => ∃ n : NewW w6, w' = n.v) (fun w' ⟨n, hn⟩ => ⟨⟨n.v, bt hk n.h⟩, hn⟩) _ _ _ _ ?_
      have hne6 : Nonempty (NewW w6) := ⟨NewW.start w6⟩
      have k6 : ∀ n : NewW w6, (convert 32 9 (.slice p6 n6 c6)).run Try.prog n.v = .ok (.string ⟨lp.toArray⟩) n.v := fun n => conv_is (hi6.below n.h)
      have hBw6 : Below w.heap.size w w6 := bt hBw5 hk
      have hC : ∃ n : NewW w6, w6 = n.v := ⟨⟨w6, Below.refl _ _⟩, rfl⟩
      clear hk
      refine takeList (i := 73) rfl (by kernel_rfl) (by kernel_rfl) (by kernel_rfl) (fun _ _ _ _ h => h) rfl rfl hC (fun K hK => ?_)
      go_big_quiet_op
      refine hK _ ?_
      clear hK K
      refine takeList (i := 74) rfl (by kernel_rfl) (by kernel_rfl) (by kernel_rfl) (fun _ _ _ _ h => h) rfl rfl hC (fun K hK => ?_)
      go_big_quiet_op
      refine hK _ ?_
      clear hK K
      refine takeList (i := 75) rfl (by kernel_rfl) (by kernel_rfl) (by kernel_rfl) (fun _ _ _ _ h => h) rfl rfl hC (fun K hK => ?_)
      go_big_quiet_op
      refine hK _ ?_
      clear hK K
      refine takeList (i := 76) rfl (by kernel_rfl) (by kernel_rfl) (by kernel_rfl) (fun _ _ _ _ h => h) rfl rfl hC (fun K hK => ?_)
      go_big_quiet_op
      refine hK _ ?_
      clear hK K
      refine wpAnyH_done (by kernel_rfl) ?_ _
      go_wp2
      go_ret
      exact ⟨rfl, hBw6⟩
theorem says_all (a : V7) (ha : C.fits7 a) (b : V7) (hb : C.fits7 b) (r n : Int) (hr : C.fits r) (hn : C.fits n) (rep : Int) (hrep : (Lit.int .i64 rep).wf = true) (pc : Option Addr) (lc : List UInt8) (cc : Nat) (w : World)
    (hx : (Part.mk pc lc cc).ok w ∧ lc.length ≤ cc ∧ cc ≤ maxLen) (hat : 0 < cc → ∃ b o, pc = some ⟨b, o, none⟩) :
    Calls Try.prog 4 #[.agg #[.int .i64 a.x0, .int .i64 a.x1, .int .i64 a.x2, .int .i64 a.x3, .int .i64 a.x4, .int .i64 a.x5, .int .i64 a.x6], .agg #[.int .i64 b.x0, .int .i64 b.x1, .int .i64 b.x2, .int .i64 b.x3, .int .i64 b.x4, .int .i64 b.x5, .int .i64 b.x6], .agg #[.int .i64 r, .int .i64 n], .int .i64 rep, .slice pc lc.length cc] w fun e w' => e = .returned (.bool true) ∧ Below w.heap.size w w' :=
  says_law a ha b hb r n rep pc lc cc w ⟨rfl, hx.1⟩ hx.2.1 hx.2.2 hat
end Go.Proofs.Ytmjkablhambelaa
