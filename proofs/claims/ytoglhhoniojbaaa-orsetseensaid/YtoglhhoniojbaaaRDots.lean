/-
  The document's own (rostrumref7): Less, May, in, SameDots.
-/
import Derived.Test.YtoglhhoniojbaaaTSame
namespace Go.Proofs.Ytoglhhoniojbaaa
open Go.RowKit Go.Lib
set_option linter.unusedVariables false

set_option maxRecDepth 100000 in
set_option maxHeartbeats 4000000 in
theorem rless_any (a1 a2 b1 b2 : Int) (w : World) :
    Calls Try.prog 72 #[.agg #[.int .i64 a1, .int .i64 a2], .agg #[.int .i64 b1, .int .i64 b2]] w fun e w' => e = .returned (.bool (C.dlt (a1, a2) (b1, b2))) ∧ Below w.heap.size w w' := by
  by_cases h1 : a1 < b1
  · have e : C.dlt (a1, a2) (b1, b2) = true := (C.dlt_iff _ _).2 (Or.inl h1)
    rw [e]; clear e
    go_enter Try.func72, Try.ntmps72
    go_wp2
    go_ret
    exact ⟨rfl, bt (below_new _ _) (below_new _ _)⟩
  · by_cases h2 : a1 = b1
    · subst h2
      have e : C.dlt (a1, a2) (a1, b2) = decide (a2 < b2) := by simp [C.dlt]
      rw [e]; clear e
      go_enter Try.func72, Try.ntmps72
      go_wp2
      go_ret
      exact ⟨rfl, bt (below_new _ _) (below_new _ _)⟩
    · have e : C.dlt (a1, a2) (b1, b2) = false := (C.dlt_not _ _).2 (by simp only; omega)
      rw [e]; clear e
      have h3 : decide (a1 < b1) = false := by simpa using h1
      have h4 : (a1 == b1) = false := by simpa using h2
      go_enter Try.func72, Try.ntmps72
      go_wp2
      go_ret
      exact ⟨rfl, bt (below_new _ _) (below_new _ _)⟩
set_option maxRecDepth 100000 in
set_option maxHeartbeats 4000000 in
theorem rmay_any (d1 d2 : Int) (w : World) :
    Calls Try.prog 44 #[.agg #[.int .i64 d1, .int .i64 d2]] w fun e w' => e = .returned (.bool (C.may (d1, d2))) ∧ Below w.heap.size w w' := by
  by_cases h0 : 0 ≤ d1
  · by_cases h7 : d1 < 7
    · by_cases h1 : 1 ≤ d2
      · have e : C.may (d1, d2) = decide (d2 ≤ 1099511627776) := by simp [C.may, h0, h7, h1]
        rw [e]; clear e
        go_enter Try.func44, Try.ntmps44
        go_wp2
        go_ret
        exact ⟨rfl, below_new _ _⟩
      · have e : C.may (d1, d2) = false := by simp [C.may, h1]
        rw [e]; clear e
        have h1' : decide (1 ≤ d2) = false := by simpa using h1
        go_enter Try.func44, Try.ntmps44
        go_wp2
        go_ret
        exact ⟨rfl, below_new _ _⟩
    · have e : C.may (d1, d2) = false := by simp [C.may, h7]
      rw [e]; clear e
      have h7' : decide (d1 < 7) = false := by simpa using h7
      go_enter Try.func44, Try.ntmps44
      go_wp2
      go_ret
      exact ⟨rfl, below_new _ _⟩
  · have e : C.may (d1, d2) = false := by simp [C.may, h0]
    rw [e]; clear e
    have h0' : decide (0 ≤ d1) = false := by simpa using h0
    go_enter Try.func44, Try.ntmps44
    go_wp2
    go_ret
    exact ⟨rfl, below_new _ _⟩
set_option maxRecDepth 100000 in
set_option maxHeartbeats 4000000 in
theorem rsame_any (v1 v2 : Value) (l1 l2 : List C.Dt) (w : World) (h1 : OwnD w v1 l1) (h2 : OwnD w v2 l2) (hl : l1.length ≤ 1000000) :
    Calls Try.prog 49 #[v1, v2] w fun e w' => e = .returned (.bool (eqL l1 l2)) ∧ Below w.heap.size w w' := by
  obtain ⟨q1, c1, hv1⟩ := h1.len
  obtain ⟨q2, c2, hv2⟩ := h2.len
  subst hv1 hv2
  have H1 : Hid (OwnD w (.slice q1 l1.length c1) l1) := h1
  have H2 : Hid (OwnD w (.slice q2 l2.length c2) l2) := h2
  clear h1 h2
  by_cases hlen : l1.length = l2.length
  · obtain ⟨n, hn⟩ : ∃ n, n = l1.length := ⟨_, rfl⟩
    have HN : Hid (n = l1.length) := hn
    have HN2 : Hid (n = l2.length) := by show n = _; omega
    obtain ⟨r, hr⟩ : ∃ r, r = eqL l1 l2 := ⟨_, rfl⟩
    have HR : Hid (r = eqL l1 l2) := hr
    rw [← hlen, ← hn, ← hr]
    rw [← hn] at hl
    clear hlen hn hr
    go_enter Try.func49, Try.ntmps49
    go_wp2_with fail
    go_loopw [5] (fun s5 wr => ∃ k : Nat, s5 = .int .i64 k ∧ k ≤ n ∧ Hid (l1.take k = l2.take k) ∧ Hid (Below w.heap.size w wr)) (fun s5 _ => n - (intOf s5).toNat)
    case atStart => exact ⟨0, rfl, Nat.zero_le _, rfl, Below.refl _ _⟩
    case round =>
      obtain ⟨k, rfl, hkn, HK, HB⟩ := hrel
      by_cases hlt : k < n
      · obtain ⟨x, hx⟩ : ∃ x, l1[k]? = some x := ⟨_, List.getElem?_eq_getElem (by have := HN.out; omega)⟩
        obtain ⟨y, hy⟩ : ∃ y, l2[k]? = some y := ⟨_, List.getElem?_eq_getElem (by have := HN2.out; omega)⟩
        obtain ⟨g1, cc1, e1⟩ := OwnD.at H1.out (by have := HN.out; omega)
        obtain ⟨g2, cc2, e2⟩ := OwnD.at H2.out (by have := HN2.out; omega)
        cases e1
        cases e2
        have hne : Nonempty (NewW wr) := ⟨NewW.start wr⟩
        have a0 : ∀ m : NewW wr, m.v.cell? ⟨g1, k * 2, none⟩ = some (.int .i64 x.1) := fun m => (OwnD.cell (OwnD.below H1.out (bt HB.out m.h)) k x hx).1
        have a1 : ∀ m : NewW wr, m.v.cell? ⟨g1, k * 2 + 1, none⟩ = some (.int .i64 x.2) := fun m => (OwnD.cell (OwnD.below H1.out (bt HB.out m.h)) k x hx).2
        have b0 : ∀ m : NewW wr, m.v.cell? ⟨g2, k * 2, none⟩ = some (.int .i64 y.1) := fun m => (OwnD.cell (OwnD.below H2.out (bt HB.out m.h)) k y hy).1
        have b1 : ∀ m : NewW wr, m.v.cell? ⟨g2, k * 2 + 1, none⟩ = some (.int .i64 y.2) := fun m => (OwnD.cell (OwnD.below H2.out (bt HB.out m.h)) k y hy).2
        obtain ⟨qb, hqb⟩ : ∃ qb, qb = (x.1 == y.1 && x.2 == y.2) := ⟨_, rfl⟩
        have kq : ∀ W, (Op.equalIn 10000 31 (.agg #[.int .i64 x.1, .int .i64 x.2]) (.agg #[.int .i64 y.1, .int .i64 y.2])).run Try.prog W = .ok qb W := fun W => by rw [hqb]; exact eq2_dot x.1 x.2 y.1 y.2 W
        have HQ : Hid (qb = true ↔ x = y) := by
          show _ ↔ _
          rw [hqb]; simp [Prod.ext_iff]
        have HX : Hid (l1[k]? = some x) := hx
        have HY : Hid (l2[k]? = some y) := hy
        clear hqb hx hy
        cases qb with
        | true =>
          go_wp2_with fail
          refine wp_region_new (by kernel_rfl) (by kernel_rfl) ?_
          repeat (go_big_quiet_step (fail))
          refine wpQuiet_nil ?_
          rintro _ ⟨w2, rfl⟩
          go_wp2
          go_roundw
          case rel =>
            refine ⟨k + 1, by go_num, by omega, ?_, bt HB.out w2.h⟩
            show _ = _
            rw [List.take_add_one, List.take_add_one, HX.out, HY.out, HK.out, HQ.out.1 (by trivial)]
          case measure => simp [intOf]; omega
        | false =>
          go_wp2_with fail
          refine wp_region_new (by kernel_rfl) (by kernel_rfl) ?_
          repeat (go_big_quiet_step (fail))
          refine wpQuiet_nil ?_
          rintro _ ⟨w2, rfl⟩
          go_wp2
          go_ret
          refine ⟨?_, bt HB.out w2.h⟩
          have : r = false := by
            rw [HR.out]
            refine decide_eq_false fun e => ?_
            have h1 := HX.out
            rw [e, HY.out] at h1
            simp only [Option.some.injEq] at h1
            have := HQ.out.2 h1.symm
            cases this
          rw [this]; rfl
      · obtain rfl : k = n := by omega
        go_wp2
        go_ret
        refine ⟨?_, HB.out⟩
        have : r = true := by
          rw [HR.out]
          refine decide_eq_true ?_
          have h1 := HK.out
          rwa [List.take_of_length_le (by have := HN.out; omega), List.take_of_length_le (by have := HN2.out; omega)] at h1
        rw [this]; rfl
  · have e : eqL l1 l2 = false := decide_eq_false fun e => hlen (by rw [e])
    have hlen' : ((l1.length : Int) == (l2.length : Int)) = false := by
      have : (l1.length : Int) ≠ (l2.length : Int) := by omega
      simpa using this
    rw [e]
    clear e
    go_enter Try.func49, Try.ntmps49
    go_wp2
    go_ret
    exact ⟨rfl, Below.refl _ _⟩
end Go.Proofs.Ytoglhhoniojbaaa
