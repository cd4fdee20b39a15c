/-
  slices.BinarySearchFunc at dots.
-/
import Derived.Test.YtoglhhoniojbaaaTCmp
import Derived.Test.YtoglhhoniojbaaaBNew
namespace Go.Proofs.Ytoglhhoniojbaaa
open Go.RowKit Go.Lib
set_option linter.unusedVariables false

theorem compare_new (a b : C.Dt) (x1 x2 y1 y2 z : Int) (w : World) (h1 : a.1 = x1) (h2 : a.2 = x2) (h3 : b.1 = y1) (h4 : b.2 = y2) (h : C.cmpD a b = z) : Calls Try.prog 86 #[.agg #[.int .i64 x1, .int .i64 x2], .agg #[.int .i64 y1, .int .i64 y2]] w fun e w' => e = .returned (.int .i64 z) ∧ Below w.heap.size w w' := by
  subst h1 h2 h3 h4 h
  refine (compare_any a b w).mono ?_
  rintro e w' ⟨rfl, q, os, rfl⟩
  refine ⟨rfl, ⟨rfl, rfl, rfl, ?_, fun k hk => ?_⟩⟩
  · simp [Sort.grow, World.drewN]
  · simp [Sort.grow, World.drewN, Array.getElem?_append_left, hk]
theorem search_nil (d : C.Dt) (w : World) : Calls Try.prog 36 #[.slice none 0 0, .agg #[.int .i64 d.1, .int .i64 d.2], .func (.func 86) #[] #[]] w fun e w' => e = .returned (.tuple #[.int .i64 0, .bool false]) ∧ Below w.heap.size w w' := by
  go_enter Try.func36, Try.ntmps36
  go_wp2
  refine wp_loop_rounds 2 ?_
  rw [rounds_succ]
  have hne : Nonempty (NewW (w.alloc (.cells #[.int .i64 d.1, .int .i64 d.2] 31))) := ⟨NewW.start _⟩
  go_wp2
  refine wp_region_new (by kernel_rfl) (by kernel_rfl) ?_
  repeat (go_big_quiet_step (fail))
  refine wpQuiet_nil ?_
  rintro _ ⟨w2, rfl⟩
  go_wp2
  go_ret2
  exact ⟨rfl, bt (below_new _ _) w2.h⟩
set_option maxRecDepth 100000 in
set_option maxHeartbeats 4000000 in
theorem search_some (g cap : Nat) (l : List C.Dt) (d : C.Dt) (w : World) (h : OwnD w (.slice (some ⟨g, 0, none⟩) l.length cap) l) (hu : C.Up l) (hl : l.length ≤ 1000000) :
    Calls Try.prog 36 #[.slice (some ⟨g, 0, none⟩) l.length cap, .agg #[.int .i64 d.1, .int .i64 d.2], .func (.func 86) #[] #[]] w fun e w' => e = .returned (.tuple #[.int .i64 (C.place d l : Nat), .bool (l.contains d)]) ∧ Below w.heap.size w w' := by
  obtain ⟨d1, d2⟩ := d
  simp only
  obtain ⟨n, hn⟩ : ∃ n, n = l.length := ⟨_, rfl⟩
  have HN : Hid (n = l.length) := hn
  have HO : Hid (OwnD w (.slice (some ⟨g, 0, none⟩) l.length cap) l) := h
  have HU : Hid (C.Up l) := hu
  rw [← hn] at hl ⊢
  clear h hu hn
  obtain ⟨pl, hpl⟩ : ∃ pl, pl = C.place (d1, d2) l := ⟨_, rfl⟩
  have HP : Hid (pl = C.place (d1, d2) l) := hpl
  rw [← hpl]
  clear hpl
  obtain ⟨isIn, hin⟩ : ∃ isIn, isIn = l.contains (d1, d2) := ⟨_, rfl⟩
  have HI : Hid (isIn = l.contains (d1, d2)) := hin
  rw [← hin]
  clear hin
  go_enter Try.func36, Try.ntmps36
  go_wp2_with fail
  obtain ⟨W, hW⟩ : ∃ W, W = w.alloc (.cells #[.int .i64 d1, .int .i64 d2] 31) := ⟨_, rfl⟩
  have HBW : Hid (Below w.heap.size w W) := by show Below _ _ _; rw [hW]; exact below_new _ _
  have HT : Hid (W.heap[w.heap.size]? = some (.cells #[.int .i64 d1, .int .i64 d2] 31)) := by show _ = _; rw [hW]; exact heap_alloc_new _ _
  rw [← hW]
  clear hW
  go_loopw [9, 10] (fun s9 s10 wr => ∃ lo hi : Nat, s9 = .int .i64 lo ∧ s10 = .int .i64 hi ∧ lo ≤ hi ∧ hi ≤ n ∧ Hid ((∀ k e, k < lo → l[k]? = some e → C.dlt e (d1, d2) = true) ∧ (∀ k e, hi ≤ k → l[k]? = some e → C.dlt e (d1, d2) = false)) ∧ Hid (Below W.heap.size W wr)) (fun s9 s10 _ => (intOf s10).toNat - (intOf s9).toNat)
  case atStart => exact ⟨0, n, rfl, rfl, Nat.zero_le _, Nat.le_refl _, ⟨fun k e hk => absurd hk (Nat.not_lt_zero _), fun k e hk he => by have := (List.getElem?_eq_some_iff.1 he).1; have := HN.out; omega⟩, Below.refl _ _⟩
  case round =>
    obtain ⟨lo, hi, rfl, rfl, hlh, hin, HK, HB⟩ := hrel
    have hne : Nonempty (NewW wr) := ⟨NewW.start wr⟩
    have hT : ∀ m : NewW wr, m.v.cell? ⟨w.heap.size, 0, none⟩ = some (.int .i64 d1) ∧ m.v.cell? ⟨w.heap.size, 1, none⟩ = some (.int .i64 d2) := fun m => by
      have q := (bt HB.out m.h).block w.heap.size (Array.getElem?_eq_some_iff.1 HT.out).1
      rw [HT.out] at q
      simp [World.cell?, q]
    have hT0 : ∀ m : NewW wr, m.v.cell? ⟨w.heap.size, 0, none⟩ = some (.int .i64 d1) := fun m => (hT m).1
    have hT1 : ∀ m : NewW wr, m.v.cell? ⟨w.heap.size, 1, none⟩ = some (.int .i64 d2) := fun m => (hT m).2
    clear hT
    by_cases hlt : lo < hi
    · obtain ⟨x, hx⟩ : ∃ x, l[(lo + hi) / 2]? = some x := ⟨_, List.getElem?_eq_getElem (by have := HN.out; omega)⟩
      have hc : ∀ m : NewW wr, m.v.cell? ⟨g, (lo + hi) / 2 * 2, none⟩ = some (.int .i64 x.1) ∧ m.v.cell? ⟨g, (lo + hi) / 2 * 2 + 1, none⟩ = some (.int .i64 x.2) := fun m => ((HO.out.below HBW.out).below (bt HB.out m.h)).cell _ _ hx
      have hc0 : ∀ m : NewW wr, m.v.cell? ⟨g, (lo + hi) / 2 * 2, none⟩ = some (.int .i64 x.1) := fun m => (hc m).1
      have hc1 : ∀ m : NewW wr, m.v.cell? ⟨g, (lo + hi) / 2 * 2 + 1, none⟩ = some (.int .i64 x.2) := fun m => (hc m).2
      clear hc
      have HX : Hid (l[(lo + hi) / 2]? = some x) := hx
      clear hx
      obtain ⟨z, hz⟩ : ∃ z, C.cmpD x (d1, d2) = z := ⟨_, rfl⟩
      have HZ : Hid (z < 0 ↔ C.dlt x (d1, d2) = true) := by show _ ↔ _; rw [← hz]; exact C.cmpD_lt _ _
      obtain ⟨x1, x2⟩ := x
      simp only at hc0 hc1
      have HC : Hid (∀ W', Calls Try.prog 86 #[.agg #[.int .i64 x1, .int .i64 x2], .agg #[.int .i64 d1, .int .i64 d2]] W' fun e w' => e = .returned (.int .i64 z) ∧ Below W'.heap.size W' w') := fun W' => compare_new _ _ _ _ _ _ _ W' rfl rfl rfl rfl hz
      clear hz
      go_wp2_with fail
      refine wp_region_new (by kernel_rfl) (by kernel_rfl) ?_
      repeat (go_big_quiet_step ((first | (exact new_of (HC.out _)))))
      refine wpQuiet_nil ?_
      rintro _ ⟨w2, rfl⟩
      have HB2 : Hid (Below W.heap.size W w2.v) := bt HB.out w2.h
      by_cases hzl : z < 0
      · go_wp2
        go_roundw
        case rel =>
          refine ⟨(lo + hi) / 2 + 1, hi, by go_num, rfl, by omega, hin, ⟨fun k e hk he => ?_, HK.out.2⟩, HB2⟩
          rcases Nat.lt_trichotomy k ((lo + hi) / 2) with h | h | h
          · have h1 := List.getElem?_eq_some_iff.1 he
            have h2 := List.getElem?_eq_some_iff.1 HX.out
            have h3 := List.pairwise_iff_getElem.1 HU.out k ((lo + hi) / 2) h1.1 h2.1 h
            rw [h1.2, h2.2] at h3
            exact C.dlt_trans h3 (HZ.out.1 hzl)
          · subst h
            have h1 := HX.out
            rw [he] at h1
            simp only [Option.some.injEq] at h1
            rw [h1]; exact HZ.out.1 hzl
          · omega
        case measure => simp [intOf]; omega
      · go_wp2
        go_roundw
        case rel =>
          refine ⟨lo, (lo + hi) / 2, rfl, by go_num, by omega, by omega, ⟨HK.out.1, fun k e hk he => ?_⟩, HB2⟩
          have h0 : C.dlt (x1, x2) (d1, d2) = false := Bool.eq_false_iff.2 fun h => hzl (HZ.out.2 h)
          rcases Nat.lt_trichotomy k ((lo + hi) / 2) with h | h | h
          · omega
          · subst h
            have h1 := HX.out
            rw [he] at h1
            simp only [Option.some.injEq] at h1
            rw [h1]; exact h0
          · have h1 := List.getElem?_eq_some_iff.1 he
            have h2 := List.getElem?_eq_some_iff.1 HX.out
            have h3 := List.pairwise_iff_getElem.1 HU.out ((lo + hi) / 2) k h2.1 h1.1 h
            rw [h1.2, h2.2] at h3
            refine Bool.eq_false_iff.2 fun h4 => ?_
            rw [C.dlt_trans h3 h4] at h0; cases h0
        case measure => simp [intOf]; omega
    · obtain rfl : hi = lo := by omega
      have hpe : hi = pl := by rw [HP.out]; exact C.place_uniq HU.out (by have := HN.out; omega) HK.out.1 HK.out.2
      by_cases hn : hi < n
      · obtain ⟨x, hx⟩ : ∃ x, l[hi]? = some x := ⟨_, List.getElem?_eq_getElem (by have := HN.out; omega)⟩
        have hc : ∀ m : NewW wr, m.v.cell? ⟨g, hi * 2, none⟩ = some (.int .i64 x.1) ∧ m.v.cell? ⟨g, hi * 2 + 1, none⟩ = some (.int .i64 x.2) := fun m => ((HO.out.below HBW.out).below (bt HB.out m.h)).cell _ _ hx
        have hc0 : ∀ m : NewW wr, m.v.cell? ⟨g, hi * 2, none⟩ = some (.int .i64 x.1) := fun m => (hc m).1
        have hc1 : ∀ m : NewW wr, m.v.cell? ⟨g, hi * 2 + 1, none⟩ = some (.int .i64 x.2) := fun m => (hc m).2
        clear hc
        have HX : Hid (isIn = decide (x = (d1, d2))) := by
          show _ = _
          rw [HI.out, Bool.eq_iff_iff, List.contains_iff_mem, C.at_place HU.out, ← HP.out, ← hpe, hx]
          simp
        clear hx
        obtain ⟨z, hz⟩ : ∃ z, C.cmpD x (d1, d2) = z := ⟨_, rfl⟩
        have HZ : Hid (z = 0 ↔ x = (d1, d2)) := by show _ ↔ _; rw [← hz]; exact C.cmpD_eq _ _
        have HE : Hid (isIn = (z == 0)) := by show _ = _; rw [HX.out, Bool.eq_iff_iff]; simp [HZ.out]
        clear HX HZ
        obtain ⟨x1, x2⟩ := x
        simp only at hc0 hc1
        have HC : Hid (∀ W', Calls Try.prog 86 #[.agg #[.int .i64 x1, .int .i64 x2], .agg #[.int .i64 d1, .int .i64 d2]] W' fun e w' => e = .returned (.int .i64 z) ∧ Below W'.heap.size W' w') := fun W' => compare_new _ _ _ _ _ _ _ W' rfl rfl rfl rfl hz
        clear hz
        have hg1 : decide ((hi : Int) < (n : Int)) = true := by simp; omega
        subst hpe
        go_wp2_with fail
        refine wp_region_new (by kernel_rfl) (by kernel_rfl) ?_
        repeat (go_big_quiet_step ((first | (exact new_of (HC.out _)))))
        refine wpQuiet_nil ?_
        rintro _ ⟨w2, rfl⟩
        go_wp2
        go_ret2
        exact ⟨by rw [HE.out]; simp, bt HBW.out (bt HB.out w2.h)⟩
      · have HE : Hid (isIn = false) := by
          show _ = _
          rw [HI.out, Bool.eq_false_iff]
          intro h
          rw [List.contains_iff_mem, C.at_place HU.out, ← HP.out, ← hpe, List.getElem?_eq_none (by have := HN.out; omega)] at h
          cases h
        have hg1 : decide ((hi : Int) < (n : Int)) = false := by simp; omega
        subst hpe
        go_wp2_with fail
        refine wp_region_new (by kernel_rfl) (by kernel_rfl) ?_
        repeat (go_big_quiet_step (fail))
        refine wpQuiet_nil ?_
        rintro _ ⟨w2, rfl⟩
        go_wp2
        go_ret2
        exact ⟨by rw [HE.out]; rfl, bt HBW.out (bt HB.out w2.h)⟩
end Go.Proofs.Ytoglhhoniojbaaa
