/-
  Several texts in one: TSame, RDots, OTexts, OPut2, OPut3, OAwake.
-/
import Derived.Test.YtoglhhoniojbaaaZ1
import Derived.Test.YtoglhhoniojbaaaOAll
import Derived.Test.YtoglhhoniojbaaaOPut
namespace Go.Proofs.Ytoglhhoniojbaaa
open Go.RowKit Go.Lib
set_option linter.unusedVariables false

def eqL (a b : List C.Dt) : Bool := decide (a = b)
set_option maxRecDepth 100000 in
set_option maxHeartbeats 4000000 in
theorem equalD_any (v1 v2 : Value) (l1 l2 : List C.Dt) (w : World) (h1 : OwnD w v1 l1) (h2 : OwnD w v2 l2) (hl : l1.length ≤ 1000000) :
    Calls Try.prog 43 #[v1, v2] w fun e w' => e = .returned (.bool (eqL l1 l2)) ∧ Below w.heap.size w w' := by
  obtain ⟨q1, c1, hv1⟩ := h1.len
  obtain ⟨q2, c2, hv2⟩ := h2.len
  subst hv1 hv2
  have H1 : Hid (OwnD w (.slice q1 l1.length c1) l1) := h1
  have H2 : Hid (OwnD w (.slice q2 l2.length c2) l2) := h2
  clear h1 h2
  by_cases hlen : l1.length = l2.length
  · obtain ⟨n, hn⟩ : ∃ n, n = l1.length := ⟨_, rfl⟩
    have HN : Hid (n = l1.length) := hn
    have HN2 : Hid (n = l2.length) := by show n = _; omega
    obtain ⟨r, hr⟩ : ∃ r, r = eqL l1 l2 := ⟨_, rfl⟩
    have HR : Hid (r = eqL l1 l2) := hr
    rw [← hlen, ← hn, ← hr]
    rw [← hn] at hl
    clear hlen hn hr
    go_enter Try.func43, Try.ntmps43
    go_wp2_with fail
    go_loopw [13] (fun s13 wr => ∃ k : Nat, s13 = .int .i64 k ∧ k ≤ n ∧ Hid (l1.take k = l2.take k) ∧ Hid (Below w.heap.size w wr)) (fun s13 _ => n - (intOf s13).toNat)
    case atStart => exact ⟨0, rfl, Nat.zero_le _, rfl, Below.refl _ _⟩
    case round =>
      obtain ⟨k, rfl, hkn, HK, HB⟩ := hrel
      by_cases hlt : k < n
      · obtain ⟨x, hx⟩ : ∃ x, l1[k]? = some x := ⟨_, List.getElem?_eq_getElem (by have := HN.out; omega)⟩
        obtain ⟨y, hy⟩ : ∃ y, l2[k]? = some y := ⟨_, List.getElem?_eq_getElem (by have := HN2.out; omega)⟩
        obtain ⟨g1, cc1, e1⟩ := OwnD.at H1.out (by have := HN.out; omega)
        obtain ⟨g2, cc2, e2⟩ := OwnD.at H2.out (by have := HN2.out; omega)
        cases e1
        cases e2
        have hne : Nonempty (NewW wr) := ⟨NewW.start wr⟩
        have a0 : ∀ m : NewW wr, m.v.cell? ⟨g1, k * 2, none⟩ = some (.int .i64 x.1) := fun m => (OwnD.cell (OwnD.below H1.out (bt HB.out m.h)) k x hx).1
        have a1 : ∀ m : NewW wr, m.v.cell? ⟨g1, k * 2 + 1, none⟩ = some (.int .i64 x.2) := fun m => (OwnD.cell (OwnD.below H1.out (bt HB.out m.h)) k x hx).2
        have b0 : ∀ m : NewW wr, m.v.cell? ⟨g2, k * 2, none⟩ = some (.int .i64 y.1) := fun m => (OwnD.cell (OwnD.below H2.out (bt HB.out m.h)) k y hy).1
        have b1 : ∀ m : NewW wr, m.v.cell? ⟨g2, k * 2 + 1, none⟩ = some (.int .i64 y.2) := fun m => (OwnD.cell (OwnD.below H2.out (bt HB.out m.h)) k y hy).2
        obtain ⟨qb, hqb⟩ : ∃ qb, qb = (x.1 == y.1 && x.2 == y.2) := ⟨_, rfl⟩
        have kq : ∀ W, (Op.equalIn 10000 31 (.agg #[.int .i64 x.1, .int .i64 x.2]) (.agg #[.int .i64 y.1, .int .i64 y.2])).run Try.prog W = .ok qb W := fun W => by rw [hqb]; exact eq2_dot x.1 x.2 y.1 y.2 W
        have HQ : Hid (qb = true ↔ x = y) := by
          show _ ↔ _
          rw [hqb]; simp [Prod.ext_iff]
        have HX : Hid (l1[k]? = some x) := hx
        have HY : Hid (l2[k]? = some y) := hy
        clear hqb hx hy
        cases qb with
        | true =>
          go_wp2_with fail
          refine wp_region_new (by kernel_rfl) (by kernel_rfl) ?_
          repeat (go_big_quiet_step (fail))
          refine wpQuiet_nil ?_
          rintro _ ⟨w2, rfl⟩
          go_wp2
          go_roundw
          case rel =>
            refine ⟨k + 1, by go_num, by omega, ?_, bt HB.out w2.h⟩
            show _ = _
            rw [List.take_add_one, List.take_add_one, HX.out, HY.out, HK.out, HQ.out.1 (by trivial)]
          case measure => simp [intOf]; omega
        | false =>
          go_wp2_with fail
          refine wp_region_new (by kernel_rfl) (by kernel_rfl) ?_
          repeat (go_big_quiet_step (fail))
          refine wpQuiet_nil ?_
          rintro _ ⟨w2, rfl⟩
          go_wp2
          go_ret
          refine ⟨?_, bt HB.out w2.h⟩
          have : r = false := by
            rw [HR.out]
            refine decide_eq_false fun e => ?_
            have h1 := HX.out
            rw [e, HY.out] at h1
            simp only [Option.some.injEq] at h1
            have := HQ.out.2 h1.symm
            cases this
          rw [this]; rfl
      · obtain rfl : k = n := by omega
        go_wp2
        go_ret
        refine ⟨?_, HB.out⟩
        have : r = true := by
          rw [HR.out]
          refine decide_eq_true ?_
          have h := HK.out
          rw [List.take_of_length_le (by have := HN.out; omega), List.take_of_length_le (by have := HN2.out; omega)] at h
          exact h
        rw [this]; rfl
  · have e : eqL l1 l2 = false := decide_eq_false fun e => hlen (by rw [e])
    rw [e]
    clear e H1 H2
    generalize l1.length = n1 at *
    generalize l2.length = n2 at *
    have hn : ¬ ((n1 : Int) = (n2 : Int)) := by omega
    go_enter Try.func43, Try.ntmps43
    go_wp2
    go_ret
    exact ⟨rfl, Below.refl _ _⟩
def sameS (a b : C.Ds) : Bool := C.same a.c b.c && eqL a.l b.l
theorem sameS_iff (a b : C.Ds) : sameS a b = true ↔ a = b := by
  unfold sameS eqL
  rw [Bool.and_eq_true, C.same_iff, decide_eq_true_eq]
  cases a; cases b; simp
end Go.Proofs.Ytoglhhoniojbaaa

namespace Go.Proofs.Ytoglhhoniojbaaa
open Go.RowKit Go.Lib
set_option linter.unusedVariables false

set_option maxRecDepth 100000 in
set_option maxHeartbeats 4000000 in
theorem rless_any (a1 a2 b1 b2 : Int) (w : World) :
    Calls Try.prog 72 #[.agg #[.int .i64 a1, .int .i64 a2], .agg #[.int .i64 b1, .int .i64 b2]] w fun e w' => e = .returned (.bool (C.dlt (a1, a2) (b1, b2))) ∧ Below w.heap.size w w' := by
  by_cases h1 : a1 < b1
  · have e : C.dlt (a1, a2) (b1, b2) = true := (C.dlt_iff _ _).2 (Or.inl h1)
    rw [e]; clear e
    go_enter Try.func72, Try.ntmps72
    go_wp2
    go_ret
    exact ⟨rfl, bt (below_new _ _) (below_new _ _)⟩
  · by_cases h2 : a1 = b1
    · subst h2
      have e : C.dlt (a1, a2) (a1, b2) = decide (a2 < b2) := by simp [C.dlt]
      rw [e]; clear e
      go_enter Try.func72, Try.ntmps72
      go_wp2
      go_ret
      exact ⟨rfl, bt (below_new _ _) (below_new _ _)⟩
    · have e : C.dlt (a1, a2) (b1, b2) = false := (C.dlt_not _ _).2 (by simp only; omega)
      rw [e]; clear e
      have h3 : decide (a1 < b1) = false := by simpa using h1
      have h4 : (a1 == b1) = false := by simpa using h2
      go_enter Try.func72, Try.ntmps72
      go_wp2
      go_ret
      exact ⟨rfl, bt (below_new _ _) (below_new _ _)⟩
set_option maxRecDepth 100000 in
set_option maxHeartbeats 4000000 in
theorem rmay_any (d1 d2 : Int) (w : World) :
    Calls Try.prog 44 #[.agg #[.int .i64 d1, .int .i64 d2]] w fun e w' => e = .returned (.bool (C.may (d1, d2))) ∧ Below w.heap.size w w' := by
  by_cases h0 : 0 ≤ d1
  · by_cases h7 : d1 < 7
    · by_cases h1 : 1 ≤ d2
      · have e : C.may (d1, d2) = decide (d2 ≤ 1099511627776) := by simp [C.may, h0, h7, h1]
        rw [e]; clear e
        go_enter Try.func44, Try.ntmps44
        go_wp2
        go_ret
        exact ⟨rfl, below_new _ _⟩
      · have e : C.may (d1, d2) = false := by simp [C.may, h1]
        rw [e]; clear e
        have h1' : decide (1 ≤ d2) = false := by simpa using h1
        go_enter Try.func44, Try.ntmps44
        go_wp2
        go_ret
        exact ⟨rfl, below_new _ _⟩
    · have e : C.may (d1, d2) = false := by simp [C.may, h7]
      rw [e]; clear e
      have h7' : decide (d1 < 7) = false := by simpa using h7
      go_enter Try.func44, Try.ntmps44
      go_wp2
      go_ret
      exact ⟨rfl, below_new _ _⟩
  · have e : C.may (d1, d2) = false := by simp [C.may, h0]
    rw [e]; clear e
    have h0' : decide (0 ≤ d1) = false := by simpa using h0
    go_enter Try.func44, Try.ntmps44
    go_wp2
    go_ret
    exact ⟨rfl, below_new _ _⟩
set_option maxRecDepth 100000 in
set_option maxHeartbeats 4000000 in
theorem rsame_any (v1 v2 : Value) (l1 l2 : List C.Dt) (w : World) (h1 : OwnD w v1 l1) (h2 : OwnD w v2 l2) (hl : l1.length ≤ 1000000) :
    Calls Try.prog 49 #[v1, v2] w fun e w' => e = .returned (.bool (eqL l1 l2)) ∧ Below w.heap.size w w' := by
  obtain ⟨q1, c1, hv1⟩ := h1.len
  obtain ⟨q2, c2, hv2⟩ := h2.len
  subst hv1 hv2
  have H1 : Hid (OwnD w (.slice q1 l1.length c1) l1) := h1
  have H2 : Hid (OwnD w (.slice q2 l2.length c2) l2) := h2
  clear h1 h2
  by_cases hlen : l1.length = l2.length
  · obtain ⟨n, hn⟩ : ∃ n, n = l1.length := ⟨_, rfl⟩
    have HN : Hid (n = l1.length) := hn
    have HN2 : Hid (n = l2.length) := by show n = _; omega
    obtain ⟨r, hr⟩ : ∃ r, r = eqL l1 l2 := ⟨_, rfl⟩
    have HR : Hid (r = eqL l1 l2) := hr
    rw [← hlen, ← hn, ← hr]
    rw [← hn] at hl
    clear hlen hn hr
    go_enter Try.func49, Try.ntmps49
    go_wp2_with fail
    go_loopw [5] (fun s5 wr => ∃ k : Nat, s5 = .int .i64 k ∧ k ≤ n ∧ Hid (l1.take k = l2.take k) ∧ Hid (Below w.heap.size w wr)) (fun s5 _ => n - (intOf s5).toNat)
    case atStart => exact ⟨0, rfl, Nat.zero_le _, rfl, Below.refl _ _⟩
    case round =>
      obtain ⟨k, rfl, hkn, HK, HB⟩ := hrel
      by_cases hlt : k < n
      · obtain ⟨x, hx⟩ : ∃ x, l1[k]? = some x := ⟨_, List.getElem?_eq_getElem (by have := HN.out; omega)⟩
        obtain ⟨y, hy⟩ : ∃ y, l2[k]? = some y := ⟨_, List.getElem?_eq_getElem (by have := HN2.out; omega)⟩
        obtain ⟨g1, cc1, e1⟩ := OwnD.at H1.out (by have := HN.out; omega)
        obtain ⟨g2, cc2, e2⟩ := OwnD.at H2.out (by have := HN2.out; omega)
        cases e1
        cases e2
        have hne : Nonempty (NewW wr) := ⟨NewW.start wr⟩
        have a0 : ∀ m : NewW wr, m.v.cell? ⟨g1, k * 2, none⟩ = some (.int .i64 x.1) := fun m => (OwnD.cell (OwnD.below H1.out (bt HB.out m.h)) k x hx).1
        have a1 : ∀ m : NewW wr, m.v.cell? ⟨g1, k * 2 + 1, none⟩ = some (.int .i64 x.2) := fun m => (OwnD.cell (OwnD.below H1.out (bt HB.out m.h)) k x hx).2
        have b0 : ∀ m : NewW wr, m.v.cell? ⟨g2, k * 2, none⟩ = some (.int .i64 y.1) := fun m => (OwnD.cell (OwnD.below H2.out (bt HB.out m.h)) k y hy).1
        have b1 : ∀ m : NewW wr, m.v.cell? ⟨g2, k * 2 + 1, none⟩ = some (.int .i64 y.2) := fun m => (OwnD.cell (OwnD.below H2.out (bt HB.out m.h)) k y hy).2
        obtain ⟨qb, hqb⟩ : ∃ qb, qb = (x.1 == y.1 && x.2 == y.2) := ⟨_, rfl⟩
        have kq : ∀ W, (Op.equalIn 10000 31 (.agg #[.int .i64 x.1, .int .i64 x.2]) (.agg #[.int .i64 y.1, .int .i64 y.2])).run Try.prog W = .ok qb W := fun W => by rw [hqb]; exact eq2_dot x.1 x.2 y.1 y.2 W
        have HQ : Hid (qb = true ↔ x = y) := by
          show _ ↔ _
          rw [hqb]; simp [Prod.ext_iff]
        have HX : Hid (l1[k]? = some x) := hx
        have HY : Hid (l2[k]? = some y) := hy
        clear hqb hx hy
        cases qb with
        | true =>
          go_wp2_with fail
          refine wp_region_new (by kernel_rfl) (by kernel_rfl) ?_
          repeat (go_big_quiet_step (fail))
          refine wpQuiet_nil ?_
          rintro _ ⟨w2, rfl⟩
          go_wp2
          go_roundw
          case rel =>
            refine ⟨k + 1, by go_num, by omega, ?_, bt HB.out w2.h⟩
            show _ = _
            rw [List.take_add_one, List.take_add_one, HX.out, HY.out, HK.out, HQ.out.1 (by trivial)]
          case measure => simp [intOf]; omega
        | false =>
          go_wp2_with fail
          refine wp_region_new (by kernel_rfl) (by kernel_rfl) ?_
          repeat (go_big_quiet_step (fail))
          refine wpQuiet_nil ?_
          rintro _ ⟨w2, rfl⟩
          go_wp2
          go_ret
          refine ⟨?_, bt HB.out w2.h⟩
          have : r = false := by
            rw [HR.out]
            refine decide_eq_false fun e => ?_
            have h1 := HX.out
            rw [e, HY.out] at h1
            simp only [Option.some.injEq] at h1
            have := HQ.out.2 h1.symm
            cases this
          rw [this]; rfl
      · obtain rfl : k = n := by omega
        go_wp2
        go_ret
        refine ⟨?_, HB.out⟩
        have : r = true := by
          rw [HR.out]
          refine decide_eq_true ?_
          have h1 := HK.out
          rwa [List.take_of_length_le (by have := HN.out; omega), List.take_of_length_le (by have := HN2.out; omega)] at h1
        rw [this]; rfl
  · have e : eqL l1 l2 = false := decide_eq_false fun e => hlen (by rw [e])
    have hlen' : ((l1.length : Int) == (l2.length : Int)) = false := by
      have : (l1.length : Int) ≠ (l2.length : Int) := by omega
      simpa using this
    rw [e]
    clear e
    go_enter Try.func49, Try.ntmps49
    go_wp2
    go_ret
    exact ⟨rfl, Below.refl _ _⟩
end Go.Proofs.Ytoglhhoniojbaaa

namespace Go.Proofs.Ytoglhhoniojbaaa
open Go.RowKit Go.Lib Go.Sort Go.Shelf
set_option linter.unusedVariables false

/-- A row of texts as it lies. -/
def TAt (w : World) (v : Value) (ks : List (List UInt8)) : Prop := ∃ p c, v = .slice p ks.length c ∧ (0 < ks.length → ∃ b o, p = some ⟨b, o, none⟩ ∧ ∀ i x, ks[i]? = some x → w.cell? ⟨b, o + i, none⟩ = some (encStr x))
theorem TAt.below {w w' : World} {v : Value} {ks : List (List UInt8)} (h : TAt w v ks) (hb : Below w.heap.size w w') : TAt w' v ks := by
  obtain ⟨p, c, rfl, h⟩ := h
  refine ⟨p, c, rfl, fun hl => ?_⟩
  obtain ⟨b, o, hp, hc⟩ := h hl
  exact ⟨b, o, hp, fun i x hx => (hb.cell (p := ⟨b, o + i, none⟩) (World.block_lt_of_cell? _ _ (hc i x hx))).trans (hc i x hx)⟩
theorem OwnT.at {w : World} {base : Nat} {v : Value} {ks : List (List UInt8)} (h : OwnT w base v ks) : TAt w v ks := by
  obtain ⟨p, c, rfl, h1, h2, h3⟩ := row_src h
  refine ⟨p, c, rfl, fun hl => ?_⟩
  cases p with
  | none => exact absurd (h2 rfl) (by omega)
  | some a =>
    obtain ⟨b, o, s⟩ := a
    rcases h.2 with ⟨hv, _⟩ | ⟨g, cap, cur, hv, _⟩
    · cases hv
    · cases hv
      refine ⟨_, 0, rfl, fun i x hx => ?_⟩
      have := h3 _ rfl i (encStr x) (by rw [List.getElem?_map, hx]; rfl)
      rw [WideShapes.add_plain] at this
      exact this
theorem tat_one (w : World) (x : List UInt8) (t : TypeId) : TAt (w.alloc (.cells #[encStr x] t)) (.slice (some ⟨w.heap.size, 0, none⟩) 1 1) [x] :=
  ⟨_, _, rfl, fun _ => ⟨_, 0, rfl, fun i y hy => by
    obtain ⟨hi, e⟩ := List.getElem?_eq_some_iff.1 hy
    obtain rfl : i = 0 := by simpa using hi
    obtain rfl : x = y := e
    simp [World.cell?_alloc_mark]⟩⟩
set_option maxRecDepth 100000 in
set_option maxHeartbeats 2000000 in
theorem texts_true (u v : Value) (ks : List (List UInt8)) (w : World) (hu : TAt w u ks) (hv : TAt w v ks) (hl : ks.length ≤ 1000000) :
    Calls Try.prog 18 #[u, v] w fun e w' => e = .returned (.bool true) ∧ Below w.heap.size w w' := by
  have HU : Hid (TAt w u ks) := hu
  have HV : Hid (TAt w v ks) := hv
  obtain ⟨p, c, rfl, h1⟩ := hu
  obtain ⟨q, d, rfl, h2⟩ := hv
  have H1 : Hid (0 < ks.length → ∃ b o, p = some ⟨b, o, none⟩ ∧ ∀ i x, ks[i]? = some x → w.cell? ⟨b, o + i, none⟩ = some (encStr x)) := h1
  have H2 : Hid (0 < ks.length → ∃ b o, q = some ⟨b, o, none⟩ ∧ ∀ i x, ks[i]? = some x → w.cell? ⟨b, o + i, none⟩ = some (encStr x)) := h2
  obtain ⟨n, hn⟩ : ∃ n, n = ks.length := ⟨_, rfl⟩
  have HN : Hid (n = ks.length) := hn
  rw [← hn] at hl H1 H2 ⊢
  clear h1 h2 hn HU HV
  go_enter Try.func18, Try.ntmps18
  go_wp2_with fail
  go_loopw [5] (fun s5 wr => ∃ k : Nat, s5 = .int .i64 k ∧ k ≤ n ∧ Hid (Below w.heap.size w wr)) (fun s5 _ => n - (intOf s5).toNat)
  case atStart => exact ⟨0, rfl, Nat.zero_le _, Below.refl _ _⟩
  case round =>
    obtain ⟨k, rfl, hkn, HB⟩ := hrel
    by_cases hlt : k < n
    · obtain ⟨x, hx⟩ : ∃ x, ks[k]? = some x := ⟨_, List.getElem?_eq_getElem (by have := HN.out; omega)⟩
      obtain ⟨b, o, rfl, hc⟩ := H1.out (by omega)
      obtain ⟨b2, o2, rfl, hc2⟩ := H2.out (by omega)
      have a0 := hc k x hx
      have b0 := hc2 k x hx
      have HA : Hid (∀ m : NewW wr, m.v.cell? ⟨b, o + k, none⟩ = some (encStr x)) := fun m => ((bt HB.out m.h).cell (p := ⟨b, o + k, none⟩) (World.block_lt_of_cell? _ _ a0)).trans a0
      have HA2 : Hid (∀ m : NewW wr, m.v.cell? ⟨b2, o2 + k, none⟩ = some (encStr x)) := fun m => ((bt HB.out m.h).cell (p := ⟨b2, o2 + k, none⟩) (World.block_lt_of_cell? _ _ b0)).trans b0
      clear hc hc2 a0 b0 hx
      obtain ⟨tx, htx⟩ : ∃ tx : ByteArray, tx = ⟨x.toArray⟩ := ⟨_, rfl⟩
      have a1 := HA.out
      have b1 := HA2.out
      simp only [encStr, ← htx] at a1 b1
      have hne : Nonempty (NewW wr) := ⟨NewW.start wr⟩
      clear htx HA HA2
      go_wp2_with fail
      refine wp_region_new (by kernel_rfl) (by kernel_rfl) ?_
      repeat (go_big_quiet_step (fail))
      refine wpQuiet_nil ?_
      rintro _ ⟨w2, rfl⟩
      have HB2 : Hid (Below w.heap.size w w2.v) := bt HB.out w2.h
      clear a1 b1 hne
      go_wp2
      go_roundw
      case rel => exact ⟨k + 1, by go_num, by omega, HB2.out⟩
      case measure => simp [intOf]; omega
    · obtain rfl : k = n := by omega
      go_wp2
      go_ret
      exact ⟨rfl, HB.out⟩
theorem odots_true (u v : Value) (l : List C.Dt) (w : World) (hu : OwnD w u l) (hv : OwnD w v l) (hl : l.length ≤ 1000000) :
    Calls Try.prog 21 #[u, v] w fun e w' => e = .returned (.bool true) ∧ Below w.heap.size w w' := by
  have HR := rsame_any u v l l w hu hv hl
  rw [show eqL l l = true from decide_eq_true rfl] at HR
  have HS : Hid _ := HR
  clear HR hu hv
  go_enter Try.func21, Try.ntmps21
  go_wp2_with fail
  refine Calls.mono HS.out ?_
  rintro e w1 ⟨rfl, hb⟩
  have HB : Hid _ := hb
  clear hb
  go_wp2
  go_ret
  exact ⟨rfl, HB.out⟩
end Go.Proofs.Ytoglhhoniojbaaa

namespace Go.Proofs.Ytoglhhoniojbaaa
open Go.RowKit Go.Lib Go.Maps Go.Sort Go.Shelf
set_option linter.unusedVariables false

namespace C
def txOf (b : List UInt8) : Tx := ⟨b.toArray⟩
/-- A set's texts are short; all its dots are at most m. -/
structure Tidy (S : Os) (m : Nat) : Prop where
  tot : ∀ ks : List Tx, ks.Nodup → (ks.map fun x => (S.th x).length).sum ≤ m
  short : ∀ x, S.th x ≠ [] → x.size ≤ 100
theorem Tidy.mono {S : Os} {m m' : Nat} (h : Tidy S m) (hm : m ≤ m') : Tidy S m' := ⟨fun ks hk => Nat.le_trans (h.tot ks hk) hm, h.short⟩
theorem Tidy.few {S : Os} {m : Nat} (h : Tidy S m) : Few S m := fun x => by
  have := h.tot [x] (List.nodup_cons.2 ⟨by simp, List.nodup_nil⟩)
  simpa using this
theorem zero_tidy : Tidy Os.zero 0 := ⟨fun ks _ => by
  have : ∀ ks : List Tx, (ks.map fun x => (Os.zero.th x).length).sum = 0 := fun ks => by
    induction ks with
    | nil => rfl
    | cons a t ih => simp only [List.map_cons, List.sum_cons, ih]; rfl
  rw [this]; exact Nat.le_refl _, fun x h => absurd rfl h⟩
theorem sum_le {f f' : Tx → Nat} (h : ∀ y, f' y ≤ f y) : ∀ ks : List Tx, (ks.map f').sum ≤ (ks.map f).sum
  | [] => Nat.le_refl _
  | a :: t => by
    have h1 := h a
    have h2 := sum_le h t
    simp only [List.map_cons, List.sum_cons]; omega
theorem sum_eq {f f' : Tx → Nat} {x : Tx} (h : ∀ y, y ≠ x → f' y = f y) : ∀ ks : List Tx, ¬ x ∈ ks → (ks.map f').sum = (ks.map f).sum
  | [], _ => rfl
  | a :: t, hx => by
    simp only [List.mem_cons, not_or] at hx
    have h2 := sum_eq h t hx.2
    have h1 := h a (fun e => hx.1 e.symm)
    simp only [List.map_cons, List.sum_cons]; omega
theorem sum_one {f f' : Tx → Nat} {x : Tx} (h : ∀ y, y ≠ x → f' y = f y) (hx : f' x ≤ f x + 1) : ∀ ks : List Tx, ks.Nodup → (ks.map f').sum ≤ (ks.map f).sum + 1
  | [], _ => Nat.zero_le _
  | a :: t, hn => by
    obtain ⟨h1, h2⟩ := List.nodup_cons.1 hn
    simp only [List.map_cons, List.sum_cons]
    by_cases hax : a = x
    · subst hax
      have := sum_eq h t h1
      omega
    · have := sum_one h hx t h2
      have := h a hax
      omega
theorem addO_tidy {S : Os} {m : Nat} (h : Tidy S m) (d : Dt) (x : Tx) : Tidy (addO S d x) (m + 1) := by
  unfold addO
  split
  · rename_i hc
    split
    · exact ⟨(h.mono (Nat.le_succ m)).tot, h.short⟩
    · refine ⟨fun ks hk => ?_, fun y hy => ?_⟩
      · have h1 := sum_one (f := fun y => (S.th y).length) (f' := fun y => (if y = x then insL d (S.th x) else S.th y).length) (x := x) (fun y hy => by simp only [if_neg hy]) (by simp only [if_true]; exact (ins_len d (S.th x)).2) ks hk
        exact Nat.le_trans h1 (Nat.succ_le_succ (h.tot ks hk))
      · by_cases hyx : y = x
        · have h2 := hc.2.1
          unfold tooLong at h2
          rw [hyx]
          simpa using h2
        · refine h.short y ?_
          have : (if y = x then insL d (S.th x) else S.th y) ≠ [] := hy
          rw [if_neg hyx] at this
          exact this
  · exact h.mono (Nat.le_succ m)
theorem remO_tidy {S : Os} {m : Nat} (h : Tidy S m) (x : Tx) (c : V7) : Tidy (remO S x c) m := by
  unfold remO
  split
  · have hu : ∀ y, ((if y = x then unseen c (S.th x) else S.th y) : List Dt).length ≤ (S.th y).length := fun y => by
      by_cases hyx : y = x
      · subst hyx; rw [if_pos rfl]; exact List.length_filter_le _ _
      · rw [if_neg hyx]; exact Nat.le_refl _
    refine ⟨fun ks hk => Nat.le_trans (sum_le hu ks) (h.tot ks hk), fun y hy => h.short y fun e => hy ?_⟩
    have h2 : (S.th y).length = 0 := by rw [e]; rfl
    exact List.eq_nil_of_length_eq_zero (Nat.le_zero.1 (Nat.le_trans (hu y) (Nat.le_of_eq h2)))
  · exact h
def rowsB (S : Os) (ks : List (List UInt8)) : List UInt8 := ks.flatMap fun b => rowB (txOf b) (S.th (txOf b))
/-- A set's bytes. -/
def putB (S : Os) (ks : List (List UInt8)) : List UInt8 := num (ks.length : Nat) ++ rowsB S ks
theorem rows_snoc (S : Os) (ks : List (List UInt8)) (b : List UInt8) : rowsB S (ks ++ [b]) = rowsB S ks ++ rowB (txOf b) (S.th (txOf b)) := by simp [rowsB]
theorem tx_inj {a b : List UInt8} (h : txOf a = txOf b) : a = b := by
  have := congrArg (fun t : Tx => t.data.toList) h
  exact this
theorem rows_len {S : Os} {m : Nat} (hs : S.Ok) (ht : Tidy S m) (hm : m ≤ 1000) {ks : List (List UInt8)} (hn : ks.Nodup) (hk : ∀ b ∈ ks, S.th (txOf b) ≠ []) : (rowsB S ks).length ≤ m * 140 ∧ ks.length ≤ m := by
  have h1 : ∀ ks : List (List UInt8), (∀ b ∈ ks, S.th (txOf b) ≠ []) → (rowsB S ks).length ≤ ((ks.map txOf).map fun x => (S.th x).length).sum * 140 ∧ ks.length ≤ ((ks.map txOf).map fun x => (S.th x).length).sum := fun ks => by
    induction ks with
    | nil => intro _; exact ⟨Nat.le_refl _, Nat.le_refl _⟩
    | cons b t ih =>
      intro hk
      obtain ⟨i1, i2⟩ := ih fun y hy => hk y (List.mem_cons_of_mem _ hy)
      have hb := hk b (List.mem_cons_self ..)
      have hl : 0 < (S.th (txOf b)).length := List.length_pos_iff.2 hb
      have hr := rowB_len (l := S.th (txOf b)) (ht.short _ hb) (fun d hd => hs.may d _ ((hs.mem _ d).1 hd).1) (Nat.le_trans (ht.few _) hm)
      have e : rowsB S (b :: t) = rowB (txOf b) (S.th (txOf b)) ++ rowsB S t := rfl
      rw [e]
      simp only [List.map_cons, List.sum_cons, List.length_append, List.length_cons]
      omega
  have hnd : (ks.map txOf).Nodup := List.pairwise_map.2 (hn.imp fun hne e => hne (tx_inj e))
  have h2 := ht.tot _ hnd
  have h3 := h1 ks hk
  omega
end C
/-- As many entries as texts. -/
theorem SetAt.count {w : World} {g n : Nat} {L : OLay} {S : C.Os} (h : SetAt w g n L S) : ∃ D, w.ownsMap Try.prog 9 anyR L.bT n D ∧ ∀ ks, IsAll S ks → Maps.size D = ks.length := by
  obtain ⟨m, ⟨D, hown, hr⟩, hm⟩ := h.mT
  refine ⟨D, hown, fun ks hk => ?_⟩
  have h1 := is_all hown hr hm (List.Perm.refl (strKeys D))
  rw [hk.uniq h1, List.length_mergeSort]
  obtain ⟨es, rfl, _⟩ := hown.entries str_keys
  simp [strKeys, Maps.size]
end Go.Proofs.Ytoglhhoniojbaaa

namespace Go.Proofs.Ytoglhhoniojbaaa
open Go.RowKit Go.Lib Go.Maps Go.Sort Go.Shelf
set_option linter.unusedVariables false

theorem OwnT.lt' {w : World} {base : Nat} {v : Value} {ks : List (List UInt8)} (h : OwnT w base v ks) {b : Nat} (hb : v.ownBlock = some b) : base ≤ b := (World.ownsRow.lt h b hb).1
set_option maxRecDepth 100000 in
set_option maxHeartbeats 8000000 in
theorem oPut_obj (w : World) (g n m : Nat) (L : OLay) (S : C.Os) (pb : Option Addr) (nb cb : Nat) (lb : List UInt8) (h : SetAt w g n L S) (hs : S.Ok) (ht : C.Tidy S m) (hm : m ≤ 600) (hn : n ≤ 1000000) (hb : Is w pb nb cb lb) (hlb : lb.length ≤ 1000) :
    Calls Try.prog 24 #[.pointer (some ⟨g, 0, none⟩), .slice pb nb cb] w fun e w' => (∃ p n k ks, e = .returned (.slice p n k) ∧ IsAll S ks ∧ Is w' p n k (lb ++ C.putB S ks)) ∧ Below w.heap.size w w' := by
  obtain ⟨c0, c1, c2⟩ := h.cells
  obtain ⟨D, hD, hDk⟩ := h.count
  have HCNT : Hid (∀ ks, IsAll S ks → Maps.size D = ks.length) := hDk
  have HDN : Hid (Maps.size D ≤ 1000000) := Nat.le_trans hD.size_le hn
  have HD : Hid (w.ownsMap Try.prog 9 anyR L.bT n D) := hD
  have HS : Hid (SetAt w g n L S) := h
  have HOK : Hid S.Ok := hs
  have HT : Hid (C.Tidy S m) := ht
  have HBI : Hid (Is w pb nb cb lb) := hb
  have HLB : Hid (lb.length ≤ 1000) := hlb
  have HALL : Hid _ := fun W (hW : SetAt W g n L S) => all_of W g n L S hW hn
  obtain ⟨sz, hsz⟩ : ∃ sz, sz = Maps.size D := ⟨_, rfl⟩
  have HSZ : Hid (sz = Maps.size D) := hsz
  rw [← hsz] at HCNT HDN
  have hsn := HDN.out
  obtain ⟨pn, hpn⟩ : ∃ pn, pn = C.num (sz : Nat) := ⟨_, rfl⟩
  have HPN : Hid (pn = [] ++ C.num (sz : Nat)) := hpn
  have HPL : Hid (pn.length ≤ 10) := by
    show _ ≤ _
    rw [hpn]
    exact (C.num_ten (show C.fits (sz : Int) from ⟨by omega, by omega⟩)).2
  clear h hs ht hb hlb hD hDk hsz hpn
  go_enter Try.func24, Try.ntmps24
  go_wp2_with (at_len; go_must (refine wpList_len_own _ rfl _ _ rfl 9 _ Try.underlying62 anyR L.bT n D rfl HD.out ?_); rw [← HSZ.out])
  refine (num_own none 0 0 [] pn (sz : Int) w (Is.nil w) ⟨by omega, by omega⟩ (by decide) HPN.out).mono ?_
  rintro e w1 ⟨⟨vt, rfl, ho1⟩, hb1⟩
  have HO1 : Hid (Own w1 w.heap.size vt pn) := ho1
  have hv1 := fun b (hb : vt.ownBlock = some b) => row_lt ho1 hb
  have HB1 : Hid (Below w.heap.size w w1) := hb1
  clear ho1 hb1 c0 c1 c2
  go_wp2_with fail
  refine Calls.mono (HALL.out w1 (HS.out.below HB1.out)) ?_
  rintro e w2 ⟨⟨va, ks, rfl, hka, hko⟩, hb2⟩
  have HKA : Hid (IsAll S ks) := hka
  have HB2 : Hid (Below w.heap.size w w2) := bt HB1.out hb2
  obtain ⟨pa, ca, rfl, hta⟩ := OwnT.at hko
  have HTA : Hid (TAt w2 (.slice pa ks.length ca) ks) := ⟨pa, ca, rfl, hta⟩
  have HNE : Hid (∀ b, (Value.slice pa ks.length ca).ownBlock = some b → vt.ownBlock ≠ some b) := fun b hb e => by
    have h1 := (OwnT.lt' hko hb)
    have h2 := hv1 b e
    omega
  have HKS : Hid (sz = ks.length) := HCNT.out ks hka
  have HO2 : Hid (Own w2 0 vt (pn ++ C.rowsB S (ks.take 0))) := by show Own _ _ _ _; simpa [C.rowsB] using (HO1.out.below hb2).lower (Nat.zero_le _)
  have HF2 : Hid (∀ b, vt.ownBlock = some b → w.heap.size ≤ b) := fun b hb => HO1.out.ge b hb
  have HRB : Hid ((C.rowsB S ks).length ≤ m * 140 ∧ ks.length ≤ m) := C.rows_len HOK.out HT.out (by omega) hka.once fun b hb => ((hka.mem b).1 hb).1
  have HKB : Hid (∀ k, (C.rowsB S (ks.take k)).length ≤ 84000) := fun k => by
    have := (C.rows_len HOK.out HT.out (by omega) (ks := ks.take k) (hka.once.sublist (List.take_sublist _ _)) fun b hb => ((hka.mem b).1 (List.mem_of_mem_take hb)).1).1
    omega
  have HKM : Hid (∀ b, b ∈ ks → S.th (C.txOf b) ≠ [] ∧ b.length ≤ maxLen) := fun b hb => (hka.mem b).1 hb
  have hks := HKS.out
  have hkn : ks.length ≤ 1000000 := by omega
  rw [← hks] at hkn HTA HNE
  rw [show ks.length = sz from hks.symm]
  clear hks hka hko hta hb2 hv1 HO1 HB1 HALL HCNT hsn
  go_wp2_with fail
  go_loopw [5, 17] (fun s5 s17 wr => ∃ (k : Nat), s17 = .int .i64 k ∧ k ≤ sz ∧ Hid (Own wr 0 s5 (pn ++ C.rowsB S (ks.take k))) ∧ Hid (∀ b, s5.ownBlock = some b → w.heap.size ≤ b) ∧ Hid (Below w.heap.size w wr) ∧ Hid (TAt wr (.slice pa sz ca) ks) ∧ Hid (∀ b, (Value.slice pa sz ca).ownBlock = some b → s5.ownBlock ≠ some b)) (fun _ s17 _ => sz - (intOf s17).toNat)
  case atStart => exact ⟨0, rfl, Nat.zero_le _, HO2.out, HF2.out, HB2.out, HTA.out, HNE.out⟩
  case round =>
    clear HO2 HF2 HTA HNE
    obtain ⟨k, rfl, hk2, HO, HF, HB, HTA, HNE⟩ := hrel
    by_cases hlt : k < sz
    · obtain ⟨b, hb⟩ : ∃ b, ks[k]? = some b := ⟨_, List.getElem?_eq_getElem (by have := HKS.out; omega)⟩
      obtain ⟨pa', ca', hpe, hta⟩ := HTA.out
      obtain ⟨ba, oa, hpa, hc⟩ := hta (by have := HKS.out; omega)
      have hpe2 : pa = some ⟨ba, oa, none⟩ := by injection hpe with h1; rw [h1, hpa]
      subst hpe2
      have a0 : wr.cell? ⟨ba, oa + k, none⟩ = some (encStr b) := hc k b hb
      have hbm := HKM.out b (List.mem_of_getElem? hb)
      obtain ⟨x, hx⟩ : ∃ x : Tx, x = C.txOf b := ⟨_, rfl⟩
      rw [show encStr b = .string x from by rw [hx, encStr, C.txOf]] at a0
      rw [← hx] at hbm
      have HDN2 : Hid (C.rowsB S (ks.take (k + 1)) = C.rowsB S (ks.take k) ++ C.rowB x (S.th x)) := by show _ = _; rw [List.take_add_one, hb, hx]; exact C.rows_snoc _ _ _
      have hsx := HT.out.short x hbm.1
      have HXM : Hid (x.size ≤ maxLen) := Nat.le_trans hsx (by decide)
      have HPUT : Hid (∀ W, SetAt W g n L S → Calls Try.prog 52 #[.string x, L.val S x] W fun e w' => (∃ p n k, e = .returned (.slice p n k) ∧ Is w' p n k (C.rowB x (S.th x))) ∧ Below W.heap.size W w') := fun W hW => oput_any W x _ _ (hW.val x) (fun d hd => HOK.out.may d _ ((HOK.out.mem _ d).1 hd).1) (Nat.le_trans (HT.out.few x) (by omega)) hsx
      have HRL : Hid ((C.rowB x (S.th x)).length ≤ 84000) := by
        have h1 := HKB.out (k + 1)
        rw [HDN2.out, List.length_append] at h1
        show _ ≤ _
        omega
      have HSR : Hid (SetAt wr g n L S) := HS.out.below HB.out
      have hlook := HSR.out.look HXM.out
      obtain ⟨d0, d1, d2⟩ := HSR.out.cells
      have HHL : Hid ((pn ++ C.rowsB S (ks.take k)).length ≤ 90000) := by
        have h1 := HKB.out k
        have h2 := HPL.out
        show _ ≤ _
        rw [List.length_append]; omega
      generalize L.val S x = vx at *
      clear hb hc hx hbm hsx hpe hpa hta
      go_wp2_with fail
      refine Calls.mono (HPUT.out wr HSR.out) ?_
      rintro e w5 ⟨⟨p5, n5, k5, rfl, hi5⟩, hb5⟩
      have HO5 : Hid (Own w5 0 u5 (pn ++ C.rowsB S (ks.take k))) := HO.out.below hb5
      have HB5 : Hid (Below w.heap.size w w5) := bt HB.out hb5
      have HTA5 : Hid (TAt w5 (.slice (some ⟨ba, oa, none⟩) sz ca) ks) := HTA.out.below hb5
      have HT5 : Hid (ba < w5.heap.size) := Nat.lt_of_lt_of_le (World.block_lt_of_cell? _ _ a0) hb5.size
      have HI5 : Hid (Is w5 p5 n5 k5 (C.rowB x (S.th x))) := hi5
      clear hi5 hb5 HO HB HTA HPUT hlook d0 d1 d2 a0
      obtain ⟨rfl, k5'⟩ := HI5.out
      have HK5 : Hid (Part.ok w5 ⟨p5, C.rowB x (S.th x), k5⟩) := k5'
      clear k5'
      go_wp2_with (at_builtin; go_must ((refine wpList_append_src Try.underlying33 info_u8 rfl (by decide) rfl _ _ rfl rfl HO5.out rfl (Part.src HK5.out) (one_bytes _) (by have := HHL.out; have := HRL.out; simp only; unfold maxLen; omega) (by have := HHL.out; have := HRL.out; simp only; omega) ?_; intro v6 w6 ho6 hg6 hb6)))
      have HO6 : Hid (Own w6 0 v6 (pn ++ C.rowsB S (ks.take k) ++ C.rowB x (S.th x))) := (show Own w6 0 v6 _ from (by unfold Own; rw [List.length_append, ← bytesV_append]; exact ho6))
      have HB6 : Hid (Below w.heap.size w w6) := Below.grown HB5.out hg6 HB5.out.size HF.out
      have HF6 : Hid (∀ b, v6.ownBlock = some b → w.heap.size ≤ b) := (fun b hb => by rcases hb6 with h | h; exact HF.out b (h.symm.trans hb); rw [h] at hb; cases hb; exact HB5.out.size)
      have HTA6 : Hid (TAt w6 (.slice (some ⟨ba, oa, none⟩) sz ca) ks) := by
        obtain ⟨p, c, hp, h⟩ := HTA5.out
        refine ⟨p, c, hp, fun hl => ?_⟩
        obtain ⟨b', o', hp', hc'⟩ := h hl
        refine ⟨b', o', hp', fun i y hy => ?_⟩
        injection hp with hp1
        rw [hp'] at hp1
        cases hp1
        rw [← hc' i y hy]
        unfold World.cell?
        rw [hg6.block ba HT5.out fun e => HNE.out ba rfl e.symm]
      have HNE6 : Hid (∀ b, (Value.slice (some ⟨ba, oa, none⟩) sz ca).ownBlock = some b → v6.ownBlock ≠ some b) := fun b hb e => by
        cases hb
        rcases hb6 with h | h
        · exact HNE.out ba rfl (h.symm.trans e)
        · rw [h] at e
          have h1 := HT5.out
          have h2 : w5.heap.size = ba := Option.some.inj e
          omega
      clear ho6 hg6 hb6 HO5 HB5 HF HTA5 HNE HT5 HK5 HI5
      go_wp2
      go_roundw
      case rel => exact ⟨k + 1, by go_num, by omega, by show Own _ _ _ _; rw [HDN2.out, ← List.append_assoc]; exact HO6.out, HF6.out, HB6.out, HTA6.out, HNE6.out⟩
      case measure => simp [intOf]; omega
    · obtain rfl : k = sz := by omega
      have htk : ks.take k = ks := List.take_of_length_le (by have := HKS.out; omega)
      rw [htk] at HO
      obtain ⟨p6, n6, c6, hv6, hi6⟩ := Own.is HO.out
      have HE : Hid (lb ++ (pn ++ C.rowsB S ks) = lb ++ C.putB S ks) := by show _ = _; rw [HPN.out, HKS.out]; rfl
      have HI6 : Hid (Is wr p6 n6 c6 (pn ++ C.rowsB S ks)) := hi6
      have HTL : Hid (lb.length + (pn ++ C.rowsB S ks).length ≤ 100000) := by
        have h1 := HKB.out k
        rw [htk] at h1
        have h2 := HPL.out
        have h3 := HLB.out
        show _ ≤ _
        rw [List.length_append]; omega
      subst hv6
      clear hi6 htk HO
      go_wp2_with fail
      refine (concat_two pb nb cb lb p6 n6 c6 (pn ++ C.rowsB S ks) _ _ wr rfl (Is.below HBI.out HB.out) HI6.out HTL.out).mono ?_
      rintro e w7 ⟨⟨p7, n7, c7, rfl, hi7⟩, hb7⟩
      rw [HE.out] at hi7
      have HI7 : Hid _ := hi7
      have HB7 : Hid (Below w.heap.size w w7) := bt HB.out hb7
      clear hi7 hb7
      go_wp2
      go_ret
      exact ⟨⟨p7, n7, c7, ks, rfl, HKA.out, HI7.out⟩, HB7.out⟩
end Go.Proofs.Ytoglhhoniojbaaa

namespace Go.Proofs.Ytoglhhoniojbaaa
open Go.RowKit Go.Lib Go.Sort Go.Shelf
set_option linter.unusedVariables false

namespace C
theorem th_T (S : Os) (x : Tx) (l : List Dt) (y : Tx) : (S.addT x l).th y = if y = x then l else S.th y := rfl
theorem th_A (S : Os) (d : Dt) (x y : Tx) : (S.addA d x).th y = S.th y := rfl
theorem th_G (S : Os) (x : Tx) (c : V7) (y : Tx) : (S.addG x c).th y = S.th y := rfl
theorem go_T (S : Os) (x : Tx) (l : List Dt) (y : Tx) : (S.addT x l).go y = S.go y := rfl
theorem go_A (S : Os) (d : Dt) (x y : Tx) : (S.addA d x).go y = S.go y := rfl
theorem go_G (S : Os) (x : Tx) (c : V7) (y : Tx) : (S.addG x c).go y = if y = x then c else S.go y := rfl
theorem ad_T (S : Os) (x : Tx) (l : List Dt) (e : Dt) : (S.addT x l).ad e = S.ad e := rfl
theorem ad_A (S : Os) (d : Dt) (x : Tx) (e : Dt) : (S.addA d x).ad e = if e = d then some x else S.ad e := rfl
theorem ad_G (S : Os) (x : Tx) (c : V7) (e : Dt) : (S.addG x c).ad e = S.ad e := rfl
theorem addO_new {S : Os} {d : Dt} {x : Tx} (hm : may d = true) (hl : tooLong x = false) (hn : S.ad d = none) (hh : has (S.go x) d.1 d.2 = false) : addO S d x = (S.addA d x).addT x (insL d (S.th x)) := by
  unfold addO
  rw [if_pos ⟨hm, hl, hn⟩, if_neg (by rw [hh]; simp)]
theorem addO_gone {S : Os} {d : Dt} {x : Tx} (hm : may d = true) (hl : tooLong x = false) (hn : S.ad d = none) (hh : has (S.go x) d.1 d.2 = true) : addO S d x = S.addA d x := by
  unfold addO
  rw [if_pos ⟨hm, hl, hn⟩, if_pos hh]
theorem addO_same {S : Os} {d : Dt} {x : Tx} (h : ¬ (may d = true ∧ tooLong x = false ∧ S.ad d = none)) : addO S d x = S := by
  unfold addO
  rw [if_neg h]
theorem errO_new {S : Os} {d : Dt} {x : Tx} (hm : may d = true) (hl : tooLong x = false) (hn : S.ad d = none) : errO S d x = 0 := by
  unfold errO
  rw [if_pos ⟨hm, hl⟩, hn]
theorem remO_good {S : Os} {x : Tx} {c : V7} (hl : tooLong x = false) (hg : good c = true) : remO S x c = (S.addG x (mrg (S.go x) c)).addT x (unseen c (S.th x)) := by
  unfold remO
  rw [if_pos ⟨hl, hg⟩]
theorem errR_good {x : Tx} {c : V7} (hl : tooLong x = false) (hg : good c = true) : errR x c = 0 := by
  unfold errR
  rw [if_pos ⟨hl, hg⟩]
theorem zero_few : Few Os.zero 0 := fun x => Nat.le_refl _
theorem few_mono {S : Os} {a b : Nat} (h : Few S a) (hab : a ≤ b) : Few S b := fun x => Nat.le_trans (h x) hab
def txX : Tx := ⟨#[120]⟩
/-- What awake makes. -/
def aw1 : Os := addO Os.zero (0, 1) txX
def aw2 : Os := remO aw1 txX ⟨1, 0, 0, 0, 0, 0, 0⟩
def aw3 : Os := addO aw2 (1, 1) txX
theorem aw1_is : aw1 = (Os.zero.addA (0, 1) txX).addT txX [(0, 1)] := addO_new (by decide) (by decide) rfl (by decide)
theorem aw2_is : aw2 = (aw1.addG txX ⟨1, 0, 0, 0, 0, 0, 0⟩).addT txX [] := by
  have h := remO_good (S := aw1) (x := txX) (c := ⟨1, 0, 0, 0, 0, 0, 0⟩) (by decide) (by decide)
  have e1 : aw1.go txX = z7 := by rw [aw1_is]; rfl
  have e2 : aw1.th txX = [(0, 1)] := by rw [aw1_is, th_T, if_pos rfl]
  rw [e1, e2] at h
  exact h
theorem aw2_go : aw2.go txX = ⟨1, 0, 0, 0, 0, 0, 0⟩ := by rw [aw2_is, go_T, go_G, if_pos rfl]
theorem aw2_th : aw2.th txX = [] := by rw [aw2_is, th_T, if_pos rfl]
theorem aw2_ad : aw2.ad (1, 1) = none := by rw [aw2_is, ad_T, ad_G, aw1_is, ad_T, ad_A, if_neg (by decide)]; rfl
theorem aw3_is : aw3 = (aw2.addA (1, 1) txX).addT txX [(1, 1)] := by
  have h := addO_new (S := aw2) (d := (1, 1)) (x := txX) (by decide) (by decide) aw2_ad (by rw [aw2_go]; decide)
  rw [aw2_th] at h
  exact h
theorem aw3_th : aw3.th txX = [(1, 1)] := by rw [aw3_is, th_T, if_pos rfl]
theorem aw3_other {y : Tx} (h : y ≠ txX) : aw3.th y = [] := by
  rw [aw3_is, th_T, if_neg h, th_A, aw2_is, th_T, if_neg h, th_G, aw1_is, th_T, if_neg h, th_A]
  rfl
theorem aw_few1 : Few aw1 1 := addO_few zero_few _ _
theorem aw_few2 : Few aw2 1 := remO_few aw_few1 _ _
theorem aw_few3 : Few aw3 2 := addO_few aw_few2 _ _
theorem aw3_all : IsAll aw3 [[120]] := ⟨List.pairwise_singleton _ _, by simp, fun b => by
  rw [List.mem_singleton]
  constructor
  · rintro rfl
    refine ⟨?_, by decide⟩
    rw [show (⟨[(120 : UInt8)].toArray⟩ : Tx) = txX from rfl, aw3_th]
    simp
  · rintro ⟨h, _⟩
    by_cases hb : (⟨b.toArray⟩ : Tx) = txX
    · have h1 := congrArg (fun t : Tx => t.data.toList) hb
      exact h1
    · exact absurd (aw3_other hb) h⟩
end C
theorem own_one (w : World) (a b : Int) : OwnD (w.alloc (.cells #[.int .i64 a, .int .i64 b] 31)) (.slice (some ⟨w.heap.size, 0, none⟩) 1 1) [(a, b)] :=
  OwnD.make (cur := [.int .i64 a, .int .i64 b]) (l := [(a, b)]) (cap := 1) (heap_alloc_new w _) (by simp) (by decide) rfl rfl
set_option maxRecDepth 100000 in
set_option maxHeartbeats 4000000 in
theorem awake9_any (w : World) : Calls Try.prog 9 #[] w fun e w' => e = .returned (.bool true) ∧ Below w.heap.size w w' := by
  have HL : Hid (C.tooLong C.txX = false ∧ C.txX.size ≤ maxLen) := ⟨by decide, by decide⟩
  have HK : Hid (∀ n, n ≤ 100 → n + 2 < maxLen) := fun n hn => by unfold maxLen; omega
  go_enter Try.func9, Try.ntmps9
  go_wp2_with fail
  refine (s_new (OObjs.nil (Below.refl _ w))).mono ?_
  rintro e w1 ⟨g, L, rfl, h1, -⟩
  have H1 : Hid (OObjs w w1 ([] ++ ⟨g, 0, L, C.Os.zero⟩ :: [])) := h1
  clear h1
  go_wp2_with fail
  refine (s_add [] [] g 0 L C.Os.zero C.aw1 C.txX 0 1 0 H1.out (HK.out _ (by omega)) HL.out.2 (C.few_mono C.zero_few (by omega)) (C.errO_new (by decide) HL.out.1 rfl) rfl).mono ?_
  rintro e w2 ⟨rfl, L2, h2⟩
  have H2 : Hid (OObjs w w2 ([] ++ ⟨g, 2, L2, C.aw1⟩ :: [])) := h2
  clear h2 H1
  go_wp2_with fail
  refine (s_rem [] [] g 2 L2 C.aw1 C.aw2 C.txX ⟨1, 0, 0, 0, 0, 0, 0⟩ 0 H2.out (HK.out _ (by omega)) HL.out.2 (C.few_mono C.aw_few1 (by omega)) (C.errR_good HL.out.1 (by decide)) rfl).mono ?_
  rintro e w3 ⟨rfl, L3, h3⟩
  have H3 : Hid (OObjs w w3 ([] ++ ⟨g, 4, L3, C.aw2⟩ :: [])) := h3
  clear h3 H2
  go_wp2_with fail
  refine (s_add [] [] g 4 L3 C.aw2 C.aw3 C.txX 1 1 0 H3.out (HK.out _ (by omega)) HL.out.2 (C.few_mono C.aw_few2 (by omega)) (C.errO_new (by decide) HL.out.1 C.aw2_ad) rfl).mono ?_
  rintro e w4 ⟨rfl, L4, h4⟩
  have H4 : Hid (OObjs w w4 ([] ++ ⟨g, 6, L4, C.aw3⟩ :: [])) := h4
  clear h4 H3
  go_wp2_with fail
  refine (s_has [] [] g 6 L4 C.aw3 C.txX true H4.out HL.out.2 (C.few_mono C.aw_few3 (by omega)) (by rw [C.aw3_th]; rfl)).mono ?_
  rintro e w5 ⟨rfl, hw⟩
  subst hw
  go_wp2_with fail
  refine (all_of w5 g 6 L4 C.aw3 H4.out.get.1 (by omega)).mono ?_
  rintro e w6 ⟨⟨v, ks, rfl, hka, hko⟩, hb6⟩
  obtain rfl := hka.uniq C.aw3_all
  have H6 : Hid (OObjs w w6 ([] ++ ⟨g, 6, L4, C.aw3⟩ :: [])) := H4.out.below hb6
  have HT6 : Hid (TAt w6 v [[120]]) := OwnT.at hko
  clear hka hko hb6 H4
  go_wp2_with fail
  refine (texts_true v _ [[120]] _ (HT6.out.below (below_new w6 _)) (tat_one w6 [120] _) (by decide)).mono ?_
  rintro e w7 ⟨rfl, hb7⟩
  have H7 : Hid (OObjs w w7 ([] ++ ⟨g, 6, L4, C.aw3⟩ :: [])) := H6.out.below (bt (below_new w6 _) hb7)
  clear hb7 H6 HT6
  go_wp2_with fail
  refine (s_dots [] [] g 6 L4 C.aw3 C.txX H7.out HL.out.2 (C.few_mono C.aw_few3 (by omega))).mono ?_
  rintro e w8 ⟨⟨v8, rfl, ho8, -⟩, hb8⟩
  rw [C.aw3_th] at ho8
  have H8 : Hid (OObjs w w8 ([] ++ ⟨g, 6, L4, C.aw3⟩ :: [])) := H7.out.below hb8
  have HO8 : Hid (OwnD w8 v8 [(1, 1)]) := ho8
  clear ho8 hb8 H7
  go_wp2_with fail
  refine (odots_true v8 _ [(1, 1)] _ (HO8.out.below (below_new w8 _)) (own_one w8 1 1) (by decide)).mono ?_
  rintro e w9 ⟨rfl, hb9⟩
  have HB9 : Hid (Below w.heap.size w w9) := bt H8.out.bel (bt (below_new w8 _) hb9)
  clear hb9 H8
  go_wp2
  go_ret
  exact ⟨rfl, HB9.out⟩
end Go.Proofs.Ytoglhhoniojbaaa
