/-
  dots.areLoose.
-/
import Derived.Test.YtadafllhionhhaaTArg
namespace Go.Proofs.Ytadafllhionhhaa
open Go.RowKit Go.Lib
set_option linter.unusedVariables false

/-- A Bool is handed back that tells of Q. -/
def RetB (Q : Prop) (e : Ending) : Prop := ∃ b, e = .returned (.bool b) ∧ (b = true ↔ Q)
/-- Loose beside a clock, each once, in order. -/
def LooseP (c : V7) (l : List C.Dt) : Prop := C.Up l ∧ ∀ d ∈ l, C.Far c d
namespace C
theorem loose_snoc {c : V7} {l : List Dt} {k : Nat} {x : Dt} (hx : l[k]? = some x) (h : LooseP c (l.take k)) (hm : may x = true) (h1 : hasd c x = false) (h2 : nextd c x = false) (h3 : ∀ y, 0 < k → l[k - 1]? = some y → dlt y x = true) : LooseP c (l.take (k + 1)) := by
  have hmx := (may_iff x).1 hm
  have hf : Far c x := by
    refine ⟨hmx.1, hmx.2.1, ?_, hmx.2.2.2⟩
    have e1 : ¬ x.2 ≤ at7 c x.1.toNat := fun h => by rw [(hasd_iff c x).2 ⟨hmx.1, hmx.2.1, hmx.2.2.1, h⟩] at h1; cases h1
    have e2 : ¬ x.2 = at7 c x.1.toNat + 1 := fun h => by rw [(nextd_iff c x).2 h] at h2; cases h2
    omega
  rw [take_snoc hx]
  refine ⟨List.pairwise_append.2 ⟨h.1, List.pairwise_singleton _ _, fun a ha b hb => ?_⟩, fun d hd => ?_⟩
  · obtain rfl : b = x := by simpa using hb
    have hk0 : 0 < k := by
      rcases Nat.eq_zero_or_pos k with h | h
      · subst h; simp at ha
      · exact h
    obtain ⟨hkl, _⟩ := List.getElem?_eq_some_iff.1 hx
    have hy : l[k - 1]? = some l[k - 1] := List.getElem?_eq_getElem (by omega)
    have hyx := h3 _ hk0 hy
    obtain ⟨i, hi, e⟩ := List.getElem_of_mem ha
    rw [List.length_take] at hi
    by_cases hik : i = k - 1
    · subst hik
      rw [List.getElem_take] at e
      rw [← e]; exact hyx
    · have hp := List.pairwise_iff_getElem.1 h.1 i (k - 1) (by rw [List.length_take]; omega) (by rw [List.length_take]; omega) (by omega)
      rw [e, List.getElem_take] at hp
      exact dlt_trans hp hyx
  · rcases List.mem_append.1 hd with hd | hd
    · exact h.2 d hd
    · obtain rfl : d = x := by simpa using hd
      exact hf
theorem far_no {c : V7} {x : Dt} (h : Far c x) : hasd c x = false ∧ nextd c x = false := by
  obtain ⟨a, b, e, f⟩ := h
  constructor
  · rw [Bool.eq_false_iff]; intro k; have := ((hasd_iff c x).1 k).2.2.2; omega
  · rw [Bool.eq_false_iff]; intro k; have := (nextd_iff c x).1 k; omega
end C
set_option maxRecDepth 100000 in
set_option maxHeartbeats 8000000 in
theorem loose_ok (c : V7) (v : Value) (l : List C.Dt) (w : World) (h : OwnD w v l) (hl : l.length ≤ 1000000) (hg : C.good c = true) (hm : ∀ d ∈ l, C.may d = true) :
    Calls Try.prog 40 #[c.v, v] w fun e w' => RetB (LooseP c l) e ∧ Below w.heap.size w w' := by
  obtain ⟨q, cp, hv⟩ := h.len
  subst hv
  obtain ⟨n, hn⟩ : ∃ n, n = l.length := ⟨_, rfl⟩
  have HN : Hid (n = l.length) := hn
  have HO : Hid (OwnD w (.slice q n cp) l) := by show OwnD _ _ _; rw [hn]; exact h
  have HM : Hid (∀ d ∈ l, C.may d = true) := hm
  have HG : Hid (C.good c = true) := hg
  rw [← hn] at hl ⊢
  have HH : Hid (∀ (d1 d2 : Int) W, Calls Try.prog 29 #[c.v, .agg #[.int .i64 d1, .int .i64 d2]] W fun e w' => e = .returned (.bool (C.hasd c (d1, d2))) ∧ Below W.heap.size W w') := fun d1 d2 W => has_at rfl W
  have HI : Hid (∀ (d1 d2 : Int) W, C.may (d1, d2) = true → Calls Try.prog 31 #[c.v, .agg #[.int .i64 d1, .int .i64 d2]] W fun e w' => e = .returned (.bool (C.nextd c (d1, d2))) ∧ Below W.heap.size W w') := fun d1 d2 W hmx => by
    have h1 := (C.may_iff _).1 hmx
    have h2 := C.good_at7 HG.out d1.toNat
    exact isnext_any c d1 d2 _ W h1.1 h1.2.1 (by omega) rfl
  clear h hm hg hn
  obtain ⟨LP, hLP⟩ : ∃ LP : List C.Dt → Prop, LP = LooseP c := ⟨_, rfl⟩
  have HLP : Hid (LP = LooseP c) := hLP
  rw [← hLP]
  clear hLP
  obtain ⟨ch, hch⟩ : ∃ ch, ch = C.hasd c := ⟨_, rfl⟩
  obtain ⟨cn, hcn⟩ : ∃ cn, cn = C.nextd c := ⟨_, rfl⟩
  have HCH : Hid (ch = C.hasd c) := hch
  have HCN : Hid (cn = C.nextd c) := hcn
  rw [← hch] at HH
  rw [← hcn] at HI
  clear hch hcn
  have HQ0 : Hid ((w.alloc (.cells #[.int .i64 c.x0, .int .i64 c.x1, .int .i64 c.x2, .int .i64 c.x3, .int .i64 c.x4, .int .i64 c.x5, .int .i64 c.x6] 43)).heap[w.heap.size]? = some (.cells #[.int .i64 c.x0, .int .i64 c.x1, .int .i64 c.x2, .int .i64 c.x3, .int .i64 c.x4, .int .i64 c.x5, .int .i64 c.x6] 43)) := heap_alloc_new _ _
  have HB0 : Hid (Below w.heap.size w (w.alloc (.cells #[.int .i64 c.x0, .int .i64 c.x1, .int .i64 c.x2, .int .i64 c.x3, .int .i64 c.x4, .int .i64 c.x5, .int .i64 c.x6] 43))) := below_new _ _
  obtain ⟨x0, x1, x2, x3, x4, x5, x6⟩ := c
  simp only [V7.v] at HH HI
  simp only at HQ0 HB0
  simp only [V7.v]
  go_enter Try.func40, Try.ntmps40
  go_wp2_with fail
  generalize w.alloc (.cells #[.int .i64 x0, .int .i64 x1, .int .i64 x2, .int .i64 x3, .int .i64 x4, .int .i64 x5, .int .i64 x6] 43) = W0 at *
  go_loopw [9] (fun s9 wr => ∃ (k : Nat), s9 = .int .i64 k ∧ k ≤ n ∧ Hid (LP (l.take k)) ∧ Hid (Below W0.heap.size W0 wr)) (fun s9 _ => n - (intOf s9).toNat)
  case atStart => exact ⟨0, rfl, Nat.zero_le _, by show LP _; rw [HLP.out]; exact ⟨C.Up.nil, fun d hd => (by cases hd)⟩, Below.refl _ _⟩
  case round =>
    obtain ⟨k, rfl, hkn, HK, HB⟩ := hrel
    by_cases hlt : k < n
    · obtain ⟨x, hx⟩ : ∃ x, l[k]? = some x := ⟨_, List.getElem?_eq_getElem (by have := HN.out; omega)⟩
      have hmx := HM.out x (List.mem_of_getElem? hx)
      have hrow := (HO.out.below HB0.out).below HB.out
      obtain ⟨gb, cap, hvs⟩ := OwnD.at hrow (by have := HN.out; omega)
      rw [← HN.out] at hvs
      cases hvs
      obtain ⟨a0, a1⟩ := OwnD.cell hrow k x hx
      have HX : Hid (l[k]? = some x) := hx
      have HMX : Hid (C.may x = true) := hmx
      have HROW : Hid (OwnD wr (.slice (some ⟨gb, 0, none⟩) n cp) l) := hrow
      clear hx hmx hrow
      obtain ⟨bh, hbh⟩ : ∃ bh, ch x = bh := ⟨_, rfl⟩
      obtain ⟨bn, hbn⟩ : ∃ bn, cn x = bn := ⟨_, rfl⟩
      have HBH : Hid (ch x = bh) := hbh
      have HBN : Hid (cn x = bn) := hbn
      obtain ⟨d1, d2⟩ := x
      simp only at a0 a1
      have HH1 : Hid (∀ W, Calls Try.prog 29 #[.agg #[.int .i64 x0, .int .i64 x1, .int .i64 x2, .int .i64 x3, .int .i64 x4, .int .i64 x5, .int .i64 x6], .agg #[.int .i64 d1, .int .i64 d2]] W fun e w' => e = .returned (.bool bh) ∧ Below W.heap.size W w') := fun W => by rw [← hbh]; exact HH.out d1 d2 W
      have HI1 : Hid (∀ W, Calls Try.prog 31 #[.agg #[.int .i64 x0, .int .i64 x1, .int .i64 x2, .int .i64 x3, .int .i64 x4, .int .i64 x5, .int .i64 x6], .agg #[.int .i64 d1, .int .i64 d2]] W fun e w' => e = .returned (.bool bn) ∧ Below W.heap.size W w') := fun W => by rw [← hbn]; exact HI.out d1 d2 W HMX.out
      clear hbh hbn
      obtain ⟨W1, hW1⟩ : ∃ W1, W1 = wr.alloc (.cells #[.int .i64 d1, .int .i64 d2] 29) := ⟨_, rfl⟩
      have HB1 : Hid (Below wr.heap.size wr W1) := by show Below _ _ _; rw [hW1]; exact below_new _ _
      have HD1 : Hid (W1.heap[wr.heap.size]? = some (.cells #[.int .i64 d1, .int .i64 d2] 29)) := by show _ = _; rw [hW1]; exact heap_alloc_new _ _
      have HQ1 : Hid _ := keep_on (bt HB.out HB1.out) HQ0.out
      obtain ⟨b0, b1, b2, b3, b4, b5, b6⟩ := box7 HQ1.out
      obtain ⟨z0, z1⟩ := box2 HD1.out
      rw [hW1] at b0 b1 b2 b3 b4 b5 b6 z0 z1
      go_wp2_with fail
      rw [← hW1]
      clear a0 a1
      refine (HH1.out _).mono ?_
      rintro e w2 ⟨rfl, hb2⟩
      have HB2 : Hid (Below wr.heap.size wr w2) := bt HB1.out hb2
      have HD2 : Hid (w2.heap[wr.heap.size]? = some (.cells #[.int .i64 d1, .int .i64 d2] 29)) := keep_on hb2 HD1.out
      clear hb2 b0 b1 b2 b3 b4 b5 b6 z0 z1 HB1 HD1 HQ1 hW1
      cases bh with
      | true =>
        go_wp2
        go_ret
        refine ⟨⟨false, rfl, ?_⟩, bt HB0.out (bt HB.out HB2.out)⟩
        rw [HLP.out]
        exact ⟨fun k => (by cases k), fun k => by have h1 := (C.far_no (k.2 _ (List.mem_of_getElem? HX.out))).1; rw [← HCH.out, HBH.out] at h1; cases h1⟩
      | false =>
        obtain ⟨b0, b1, b2, b3, b4, b5, b6⟩ := box7 (keep_on (bt HB.out HB2.out) HQ0.out)
        obtain ⟨z0, z1⟩ := box2 HD2.out
        go_wp2_with fail
        refine (HI1.out _).mono ?_
        rintro e w3 ⟨rfl, hb3⟩
        have HB3 : Hid (Below wr.heap.size wr w3) := bt HB2.out hb3
        have HD3 : Hid (w3.heap[wr.heap.size]? = some (.cells #[.int .i64 d1, .int .i64 d2] 29)) := keep_on hb3 HD2.out
        clear hb3 b0 b1 b2 b3 b4 b5 b6 z0 z1 HB2 HD2
        cases bn with
        | true =>
          go_wp2
          go_ret
          refine ⟨⟨false, rfl, ?_⟩, bt HB0.out (bt HB.out HB3.out)⟩
          rw [HLP.out]
          exact ⟨fun k => (by cases k), fun k => by have h1 := (C.far_no (k.2 _ (List.mem_of_getElem? HX.out))).2; rw [← HCN.out, HBN.out] at h1; cases h1⟩
        | false =>
          have hne : Nonempty (NewW w3) := ⟨NewW.start w3⟩
          obtain ⟨z0, z1⟩ := box2_all HD3.out
          rcases Nat.eq_zero_or_pos k with hk0 | hk0
          · subst hk0
            go_wp2_with fail
            refine wp_region_new (by kernel_rfl) (by kernel_rfl) ?_
            repeat (go_big_quiet_step (fail))
            refine wpQuiet_nil ?_
            rintro _ ⟨w4, rfl⟩
            go_wp2
            go_roundw
            case rel =>
              refine ⟨0 + 1, by go_num, by omega, ?_, bt HB.out (bt HB3.out w4.h)⟩
              show LP _
              rw [HLP.out]
              exact C.loose_snoc HX.out (by rw [← HLP.out]; exact HK.out) HMX.out (by rw [← HCH.out]; exact HBH.out) (by rw [← HCN.out]; exact HBN.out) fun y h => absurd h (Nat.lt_irrefl _)
            case measure => simp [intOf]; omega
          · obtain ⟨j, rfl⟩ : ∃ j, k = j + 1 := ⟨k - 1, by omega⟩
            obtain ⟨y, hy⟩ : ∃ y, l[j]? = some y := ⟨_, List.getElem?_eq_getElem (by have := HN.out; omega)⟩
            have u0 : ∀ m : NewW w3, m.v.cell? ⟨gb, j * 2, none⟩ = some (.int .i64 y.1) := fun m => ((HROW.out.below (bt HB3.out m.h)).cell j y hy).1
            have u1 : ∀ m : NewW w3, m.v.cell? ⟨gb, j * 2 + 1, none⟩ = some (.int .i64 y.2) := fun m => ((HROW.out.below (bt HB3.out m.h)).cell j y hy).2
            have HY : Hid (l[j + 1 - 1]? = some y) := hy
            clear hy
            obtain ⟨z, hz⟩ : ∃ z, C.cmpD y (d1, d2) = z := ⟨_, rfl⟩
            have HZ : Hid (z < 0 ↔ C.dlt y (d1, d2) = true) := by show _ ↔ _; rw [← hz]; exact C.cmpD_lt _ _
            obtain ⟨y1, y2⟩ := y
            simp only at u0 u1
            have HC : Hid (∀ W', Calls Try.prog 50 #[.agg #[.int .i64 y1, .int .i64 y2], .agg #[.int .i64 d1, .int .i64 d2]] W' fun e w' => e = .returned (.int .i64 z) ∧ Below W'.heap.size W' w') := fun W' => compare_new _ _ _ _ _ _ _ W' rfl rfl rfl rfl hz
            clear hz
            go_wp2_with fail
            refine wp_region_new (by kernel_rfl) (by kernel_rfl) ?_
            repeat (go_big_quiet_step ((first | (exact new_of (HC.out _)))))
            refine wpQuiet_nil ?_
            rintro _ ⟨w4, rfl⟩
            by_cases hzl : z < 0
            · go_wp2
              go_roundw
              case rel =>
                refine ⟨j + 1 + 1, by go_num, by omega, ?_, bt HB.out (bt HB3.out w4.h)⟩
                show LP _
                rw [HLP.out]
                exact C.loose_snoc HX.out (by rw [← HLP.out]; exact HK.out) HMX.out (by rw [← HCH.out]; exact HBH.out) (by rw [← HCN.out]; exact HBN.out) fun y' _ hy' => by rw [HY.out] at hy'; cases hy'; exact HZ.out.1 hzl
              case measure => simp [intOf]; omega
            · go_wp2
              go_ret
              refine ⟨⟨false, rfl, ?_⟩, bt HB0.out (bt HB.out (bt HB3.out w4.h))⟩
              rw [HLP.out]
              refine ⟨fun k => (by cases k), fun k => absurd (HZ.out.2 ?_) (by omega)⟩
              have h1 := List.getElem?_eq_some_iff.1 HY.out
              have h2 := List.getElem?_eq_some_iff.1 HX.out
              have h3 := List.pairwise_iff_getElem.1 k.1 (j + 1 - 1) (j + 1) h1.1 h2.1 (by omega)
              rw [h1.2, h2.2] at h3
              exact h3
    · obtain rfl : k = n := by omega
      go_wp2
      go_ret
      refine ⟨⟨true, rfl, ?_⟩, bt HB0.out HB.out⟩
      have h := HK.out
      rw [List.take_of_length_le (by have := HN.out; omega)] at h
      exact ⟨fun _ => h, fun _ => rfl⟩
end Go.Proofs.Ytadafllhionhhaa
