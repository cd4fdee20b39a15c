/-
  The document's own clocks (rostrumref7): Merge, Least.
-/
import Derived.Test.YtmjkablhambelaaWRef7
namespace Go.Proofs.Ytmjkablhambelaa
open Go.RowKit Go.Lib
set_option linter.unusedVariables false

namespace C
/-- The first k places merged. -/
def mixM (a b : V7) (k : Nat) : V7 := match k with
  | 0 => ⟨a.x0, a.x1, a.x2, a.x3, a.x4, a.x5, a.x6⟩
  | 1 => ⟨max a.x0 b.x0, a.x1, a.x2, a.x3, a.x4, a.x5, a.x6⟩
  | 2 => ⟨max a.x0 b.x0, max a.x1 b.x1, a.x2, a.x3, a.x4, a.x5, a.x6⟩
  | 3 => ⟨max a.x0 b.x0, max a.x1 b.x1, max a.x2 b.x2, a.x3, a.x4, a.x5, a.x6⟩
  | 4 => ⟨max a.x0 b.x0, max a.x1 b.x1, max a.x2 b.x2, max a.x3 b.x3, a.x4, a.x5, a.x6⟩
  | 5 => ⟨max a.x0 b.x0, max a.x1 b.x1, max a.x2 b.x2, max a.x3 b.x3, max a.x4 b.x4, a.x5, a.x6⟩
  | 6 => ⟨max a.x0 b.x0, max a.x1 b.x1, max a.x2 b.x2, max a.x3 b.x3, max a.x4 b.x4, max a.x5 b.x5, a.x6⟩
  | _ => ⟨max a.x0 b.x0, max a.x1 b.x1, max a.x2 b.x2, max a.x3 b.x3, max a.x4 b.x4, max a.x5 b.x5, max a.x6 b.x6⟩
def mixL (a b : V7) (k : Nat) : V7 := match k with
  | 0 => ⟨a.x0, a.x1, a.x2, a.x3, a.x4, a.x5, a.x6⟩
  | 1 => ⟨min a.x0 b.x0, a.x1, a.x2, a.x3, a.x4, a.x5, a.x6⟩
  | 2 => ⟨min a.x0 b.x0, min a.x1 b.x1, a.x2, a.x3, a.x4, a.x5, a.x6⟩
  | 3 => ⟨min a.x0 b.x0, min a.x1 b.x1, min a.x2 b.x2, a.x3, a.x4, a.x5, a.x6⟩
  | 4 => ⟨min a.x0 b.x0, min a.x1 b.x1, min a.x2 b.x2, min a.x3 b.x3, a.x4, a.x5, a.x6⟩
  | 5 => ⟨min a.x0 b.x0, min a.x1 b.x1, min a.x2 b.x2, min a.x3 b.x3, min a.x4 b.x4, a.x5, a.x6⟩
  | 6 => ⟨min a.x0 b.x0, min a.x1 b.x1, min a.x2 b.x2, min a.x3 b.x3, min a.x4 b.x4, min a.x5 b.x5, a.x6⟩
  | _ => ⟨min a.x0 b.x0, min a.x1 b.x1, min a.x2 b.x2, min a.x3 b.x3, min a.x4 b.x4, min a.x5 b.x5, min a.x6 b.x6⟩
end C
/-- A clock's block of the document's own. -/
def RB (w : World) (b : Nat) (v : V7) : Prop := w.heap[b]? = some (.cells #[.int .i64 v.x0, .int .i64 v.x1, .int .i64 v.x2, .int .i64 v.x3, .int .i64 v.x4, .int .i64 v.x5, .int .i64 v.x6] 37)
theorem RB.keep {w w' : World} {b : Nat} {v : V7} (h : RB w b v) (hb : Below w.heap.size w w') : RB w' b v := keep_on hb h
theorem RB.drewN {w : World} {b : Nat} {v : V7} (h : RB w b v) (n : Nat) : RB (w.drewN n) b v := h
theorem RB.other {w : World} {b c k : Nat} {v : V7} {u : Value} (h : RB w b v) (hne : b ≠ c) : RB (w.setCell ⟨c, k, none⟩ u) b v := (Below.heap_setCell _ _ _ _ hne).trans h
theorem RB.set0 {w : World} {b : Nat} {v : V7} (h : RB w b v) (x : Int) : RB (w.setCell ⟨b, 0, none⟩ (.int .i64 x)) b { v with x0 := x } := by
  have := set_block (o := 0) (v := .int .i64 x) h
  simpa [RB] using this
theorem RB.set1 {w : World} {b : Nat} {v : V7} (h : RB w b v) (x : Int) : RB (w.setCell ⟨b, 1, none⟩ (.int .i64 x)) b { v with x1 := x } := by
  have := set_block (o := 1) (v := .int .i64 x) h
  simpa [RB] using this
theorem RB.set2 {w : World} {b : Nat} {v : V7} (h : RB w b v) (x : Int) : RB (w.setCell ⟨b, 2, none⟩ (.int .i64 x)) b { v with x2 := x } := by
  have := set_block (o := 2) (v := .int .i64 x) h
  simpa [RB] using this
theorem RB.set3 {w : World} {b : Nat} {v : V7} (h : RB w b v) (x : Int) : RB (w.setCell ⟨b, 3, none⟩ (.int .i64 x)) b { v with x3 := x } := by
  have := set_block (o := 3) (v := .int .i64 x) h
  simpa [RB] using this
theorem RB.set4 {w : World} {b : Nat} {v : V7} (h : RB w b v) (x : Int) : RB (w.setCell ⟨b, 4, none⟩ (.int .i64 x)) b { v with x4 := x } := by
  have := set_block (o := 4) (v := .int .i64 x) h
  simpa [RB] using this
theorem RB.set5 {w : World} {b : Nat} {v : V7} (h : RB w b v) (x : Int) : RB (w.setCell ⟨b, 5, none⟩ (.int .i64 x)) b { v with x5 := x } := by
  have := set_block (o := 5) (v := .int .i64 x) h
  simpa [RB] using this
theorem RB.set6 {w : World} {b : Nat} {v : V7} (h : RB w b v) (x : Int) : RB (w.setCell ⟨b, 6, none⟩ (.int .i64 x)) b { v with x6 := x } := by
  have := set_block (o := 6) (v := .int .i64 x) h
  simpa [RB] using this
set_option maxRecDepth 100000 in
set_option maxHeartbeats 8000000 in
theorem rmerge_any (a b : V7) (w : World) :
    Calls Try.prog 24 #[a.v, b.v] w fun e w' => e = .returned (C.mrg a b).v ∧ Below w.heap.size w w' := by
  obtain ⟨a0, a1, a2, a3, a4, a5, a6⟩ := a
  obtain ⟨b0, b1, b2, b3, b4, b5, b6⟩ := b
  simp only [V7.v]
  go_enter Try.func24, Try.ntmps24
  go_wp2_with fail
  go_loopw [5] (fun i wr => ∃ k : Nat, k ≤ 7 ∧ i = .int .i64 (k : Int) ∧ Below w.heap.size w wr ∧ RB wr w.heap.size (C.mixM ⟨a0, a1, a2, a3, a4, a5, a6⟩ ⟨b0, b1, b2, b3, b4, b5, b6⟩ k) ∧ RB wr (w.heap.size + 1) ⟨b0, b1, b2, b3, b4, b5, b6⟩ ∧ RB wr (w.heap.size + 1 + 1) zero7) (fun i _ => 7 - (intOf i).toNat)
  case atStart =>
    obtain ⟨q1, q2, q3⟩ := three_boxes w (.cells #[.int .i64 a0, .int .i64 a1, .int .i64 a2, .int .i64 a3, .int .i64 a4, .int .i64 a5, .int .i64 a6] 37) (.cells #[.int .i64 b0, .int .i64 b1, .int .i64 b2, .int .i64 b3, .int .i64 b4, .int .i64 b5, .int .i64 b6] 37) (.cells #[.int .i64 0, .int .i64 0, .int .i64 0, .int .i64 0, .int .i64 0, .int .i64 0, .int .i64 0] 37) (Below.refl _ _)
    exact ⟨0, by omega, rfl, bt (below_new _ _) (bt (below_new _ _) (below_new _ _)), q1, q2, q3⟩
  case round =>
    obtain ⟨k, hk, rfl, hbw, hr1, hr2, hr3⟩ := hrel
    have HBW : Hid _ := hbw
    clear hbw
    have hc : k = 0 ∨ k = 1 ∨ k = 2 ∨ k = 3 ∨ k = 4 ∨ k = 5 ∨ k = 6 ∨ k = 7 := by omega
    rcases hc with rfl | rfl | rfl | rfl | rfl | rfl | rfl | rfl
    · have HR1 : Hid (RB wr w.heap.size ⟨a0, a1, a2, a3, a4, a5, a6⟩) := hr1
      have HR2 : Hid (RB wr (w.heap.size + 1) ⟨b0, b1, b2, b3, b4, b5, b6⟩) := hr2
      have HR3 : Hid (RB wr (w.heap.size + 1 + 1) zero7) := hr3
      clear hr1 hr2 hr3
      obtain ⟨A0, A1, A2, A3, A4, A5, A6⟩ := box7 HR1.out
      obtain ⟨B0, B1, B2, B3, B4, B5, B6⟩ := box7 HR2.out
      obtain ⟨f0, f1, f2, f3, f4, f5, f6⟩ := frozen7 HR1.out
      by_cases h : a0 < b0
      · go_wp2_with fail
        go_quiet (fail)
        go_wp2_with fail
        go_roundw
        case rel =>
          have e : max a0 b0 = b0 := by omega
          refine ⟨1, by omega, rfl, bel_alike (Below.setCell HBW.out (Nat.le_refl _) _) rfl rfl rfl rfl, ?_, (HR2.out.drewN nq).other (by omega), (HR3.out.drewN nq).other (by omega)⟩
          show RB _ _ ⟨max a0 b0, a1, a2, a3, a4, a5, a6⟩
          rw [e]
          exact (HR1.out.drewN nq).set0 b0
        case measure => simp [intOf]
      · go_wp2_with fail
        go_quiet (fail)
        go_wp2_with fail
        go_roundw
        case rel =>
          have e : max a0 b0 = a0 := by omega
          refine ⟨1, by omega, rfl, bel_alike HBW.out rfl rfl rfl rfl, ?_, HR2.out.drewN nq, HR3.out.drewN nq⟩
          show RB _ _ ⟨max a0 b0, a1, a2, a3, a4, a5, a6⟩
          rw [e]
          exact HR1.out.drewN nq
        case measure => simp [intOf]
    · have HR1 : Hid (RB wr w.heap.size ⟨max a0 b0, a1, a2, a3, a4, a5, a6⟩) := hr1
      have HR2 : Hid (RB wr (w.heap.size + 1) ⟨b0, b1, b2, b3, b4, b5, b6⟩) := hr2
      have HR3 : Hid (RB wr (w.heap.size + 1 + 1) zero7) := hr3
      clear hr1 hr2 hr3
      obtain ⟨A0, A1, A2, A3, A4, A5, A6⟩ := box7 HR1.out
      obtain ⟨B0, B1, B2, B3, B4, B5, B6⟩ := box7 HR2.out
      obtain ⟨f0, f1, f2, f3, f4, f5, f6⟩ := frozen7 HR1.out
      by_cases h : a1 < b1
      · go_wp2_with fail
        go_quiet (fail)
        go_wp2_with fail
        go_roundw
        case rel =>
          have e : max a1 b1 = b1 := by omega
          refine ⟨2, by omega, rfl, bel_alike (Below.setCell HBW.out (Nat.le_refl _) _) rfl rfl rfl rfl, ?_, (HR2.out.drewN nq).other (by omega), (HR3.out.drewN nq).other (by omega)⟩
          show RB _ _ ⟨max a0 b0, max a1 b1, a2, a3, a4, a5, a6⟩
          rw [e]
          exact (HR1.out.drewN nq).set1 b1
        case measure => simp [intOf]
      · go_wp2_with fail
        go_quiet (fail)
        go_wp2_with fail
        go_roundw
        case rel =>
          have e : max a1 b1 = a1 := by omega
          refine ⟨2, by omega, rfl, bel_alike HBW.out rfl rfl rfl rfl, ?_, HR2.out.drewN nq, HR3.out.drewN nq⟩
          show RB _ _ ⟨max a0 b0, max a1 b1, a2, a3, a4, a5, a6⟩
          rw [e]
          exact HR1.out.drewN nq
        case measure => simp [intOf]
    · have HR1 : Hid (RB wr w.heap.size ⟨max a0 b0, max a1 b1, a2, a3, a4, a5, a6⟩) := hr1
      have HR2 : Hid (RB wr (w.heap.size + 1) ⟨b0, b1, b2, b3, b4, b5, b6⟩) := hr2
      have HR3 : Hid (RB wr (w.heap.size + 1 + 1) zero7) := hr3
      clear hr1 hr2 hr3
      obtain ⟨A0, A1, A2, A3, A4, A5, A6⟩ := box7 HR1.out
      obtain ⟨B0, B1, B2, B3, B4, B5, B6⟩ := box7 HR2.out
      obtain ⟨f0, f1, f2, f3, f4, f5, f6⟩ := frozen7 HR1.out
      by_cases h : a2 < b2
      · go_wp2_with fail
        go_quiet (fail)
        go_wp2_with fail
        go_roundw
        case rel =>
          have e : max a2 b2 = b2 := by omega
          refine ⟨3, by omega, rfl, bel_alike (Below.setCell HBW.out (Nat.le_refl _) _) rfl rfl rfl rfl, ?_, (HR2.out.drewN nq).other (by omega), (HR3.out.drewN nq).other (by omega)⟩
          show RB _ _ ⟨max a0 b0, max a1 b1, max a2 b2, a3, a4, a5, a6⟩
          rw [e]
          exact (HR1.out.drewN nq).set2 b2
        case measure => simp [intOf]
      · go_wp2_with fail
        go_quiet (fail)
        go_wp2_with fail
        go_roundw
        case rel =>
          have e : max a2 b2 = a2 := by omega
          refine ⟨3, by omega, rfl, bel_alike HBW.out rfl rfl rfl rfl, ?_, HR2.out.drewN nq, HR3.out.drewN nq⟩
          show RB _ _ ⟨max a0 b0, max a1 b1, max a2 b2, a3, a4, a5, a6⟩
          rw [e]
          exact HR1.out.drewN nq
        case measure => simp [intOf]
    · have HR1 : Hid (RB wr w.heap.size ⟨max a0 b0, max a1 b1, max a2 b2, a3, a4, a5, a6⟩) := hr1
      have HR2 : Hid (RB wr (w.heap.size + 1) ⟨b0, b1, b2, b3, b4, b5, b6⟩) := hr2
      have HR3 : Hid (RB wr (w.heap.size + 1 + 1) zero7) := hr3
      clear hr1 hr2 hr3
      obtain ⟨A0, A1, A2, A3, A4, A5, A6⟩ := box7 HR1.out
      obtain ⟨B0, B1, B2, B3, B4, B5, B6⟩ := box7 HR2.out
      obtain ⟨f0, f1, f2, f3, f4, f5, f6⟩ := frozen7 HR1.out
      by_cases h : a3 < b3
      · go_wp2_with fail
        go_quiet (fail)
        go_wp2_with fail
        go_roundw
        case rel =>
          have e : max a3 b3 = b3 := by omega
          refine ⟨4, by omega, rfl, bel_alike (Below.setCell HBW.out (Nat.le_refl _) _) rfl rfl rfl rfl, ?_, (HR2.out.drewN nq).other (by omega), (HR3.out.drewN nq).other (by omega)⟩
          show RB _ _ ⟨max a0 b0, max a1 b1, max a2 b2, max a3 b3, a4, a5, a6⟩
          rw [e]
          exact (HR1.out.drewN nq).set3 b3
        case measure => simp [intOf]
      · go_wp2_with fail
        go_quiet (fail)
        go_wp2_with fail
        go_roundw
        case rel =>
          have e : max a3 b3 = a3 := by omega
          refine ⟨4, by omega, rfl, bel_alike HBW.out rfl rfl rfl rfl, ?_, HR2.out.drewN nq, HR3.out.drewN nq⟩
          show RB _ _ ⟨max a0 b0, max a1 b1, max a2 b2, max a3 b3, a4, a5, a6⟩
          rw [e]
          exact HR1.out.drewN nq
        case measure => simp [intOf]
    · have HR1 : Hid (RB wr w.heap.size ⟨max a0 b0, max a1 b1, max a2 b2, max a3 b3, a4, a5, a6⟩) := hr1
      have HR2 : Hid (RB wr (w.heap.size + 1) ⟨b0, b1, b2, b3, b4, b5, b6⟩) := hr2
      have HR3 : Hid (RB wr (w.heap.size + 1 + 1) zero7) := hr3
      clear hr1 hr2 hr3
      obtain ⟨A0, A1, A2, A3, A4, A5, A6⟩ := box7 HR1.out
      obtain ⟨B0, B1, B2, B3, B4, B5, B6⟩ := box7 HR2.out
      obtain ⟨f0, f1, f2, f3, f4, f5, f6⟩ := frozen7 HR1.out
      by_cases h : a4 < b4
      · go_wp2_with fail
        go_quiet (fail)
        go_wp2_with fail
        go_roundw
        case rel =>
          have e : max a4 b4 = b4 := by omega
          refine ⟨5, by omega, rfl, bel_alike (Below.setCell HBW.out (Nat.le_refl _) _) rfl rfl rfl rfl, ?_, (HR2.out.drewN nq).other (by omega), (HR3.out.drewN nq).other (by omega)⟩
          show RB _ _ ⟨max a0 b0, max a1 b1, max a2 b2, max a3 b3, max a4 b4, a5, a6⟩
          rw [e]
          exact (HR1.out.drewN nq).set4 b4
        case measure => simp [intOf]
      · go_wp2_with fail
        go_quiet (fail)
        go_wp2_with fail
        go_roundw
        case rel =>
          have e : max a4 b4 = a4 := by omega
          refine ⟨5, by omega, rfl, bel_alike HBW.out rfl rfl rfl rfl, ?_, HR2.out.drewN nq, HR3.out.drewN nq⟩
          show RB _ _ ⟨max a0 b0, max a1 b1, max a2 b2, max a3 b3, max a4 b4, a5, a6⟩
          rw [e]
          exact HR1.out.drewN nq
        case measure => simp [intOf]
    · have HR1 : Hid (RB wr w.heap.size ⟨max a0 b0, max a1 b1, max a2 b2, max a3 b3, max a4 b4, a5, a6⟩) := hr1
      have HR2 : Hid (RB wr (w.heap.size + 1) ⟨b0, b1, b2, b3, b4, b5, b6⟩) := hr2
      have HR3 : Hid (RB wr (w.heap.size + 1 + 1) zero7) := hr3
      clear hr1 hr2 hr3
      obtain ⟨A0, A1, A2, A3, A4, A5, A6⟩ := box7 HR1.out
      obtain ⟨B0, B1, B2, B3, B4, B5, B6⟩ := box7 HR2.out
      obtain ⟨f0, f1, f2, f3, f4, f5, f6⟩ := frozen7 HR1.out
      by_cases h : a5 < b5
      · go_wp2_with fail
        go_quiet (fail)
        go_wp2_with fail
        go_roundw
        case rel =>
          have e : max a5 b5 = b5 := by omega
          refine ⟨6, by omega, rfl, bel_alike (Below.setCell HBW.out (Nat.le_refl _) _) rfl rfl rfl rfl, ?_, (HR2.out.drewN nq).other (by omega), (HR3.out.drewN nq).other (by omega)⟩
          show RB _ _ ⟨max a0 b0, max a1 b1, max a2 b2, max a3 b3, max a4 b4, max a5 b5, a6⟩
          rw [e]
          exact (HR1.out.drewN nq).set5 b5
        case measure => simp [intOf]
      · go_wp2_with fail
        go_quiet (fail)
        go_wp2_with fail
        go_roundw
        case rel =>
          have e : max a5 b5 = a5 := by omega
          refine ⟨6, by omega, rfl, bel_alike HBW.out rfl rfl rfl rfl, ?_, HR2.out.drewN nq, HR3.out.drewN nq⟩
          show RB _ _ ⟨max a0 b0, max a1 b1, max a2 b2, max a3 b3, max a4 b4, max a5 b5, a6⟩
          rw [e]
          exact HR1.out.drewN nq
        case measure => simp [intOf]
    · have HR1 : Hid (RB wr w.heap.size ⟨max a0 b0, max a1 b1, max a2 b2, max a3 b3, max a4 b4, max a5 b5, a6⟩) := hr1
      have HR2 : Hid (RB wr (w.heap.size + 1) ⟨b0, b1, b2, b3, b4, b5, b6⟩) := hr2
      have HR3 : Hid (RB wr (w.heap.size + 1 + 1) zero7) := hr3
      clear hr1 hr2 hr3
      obtain ⟨A0, A1, A2, A3, A4, A5, A6⟩ := box7 HR1.out
      obtain ⟨B0, B1, B2, B3, B4, B5, B6⟩ := box7 HR2.out
      obtain ⟨f0, f1, f2, f3, f4, f5, f6⟩ := frozen7 HR1.out
      by_cases h : a6 < b6
      · go_wp2_with fail
        go_quiet (fail)
        go_wp2_with fail
        go_roundw
        case rel =>
          have e : max a6 b6 = b6 := by omega
          refine ⟨7, by omega, rfl, bel_alike (Below.setCell HBW.out (Nat.le_refl _) _) rfl rfl rfl rfl, ?_, (HR2.out.drewN nq).other (by omega), (HR3.out.drewN nq).other (by omega)⟩
          show RB _ _ ⟨max a0 b0, max a1 b1, max a2 b2, max a3 b3, max a4 b4, max a5 b5, max a6 b6⟩
          rw [e]
          exact (HR1.out.drewN nq).set6 b6
        case measure => simp [intOf]
      · go_wp2_with fail
        go_quiet (fail)
        go_wp2_with fail
        go_roundw
        case rel =>
          have e : max a6 b6 = a6 := by omega
          refine ⟨7, by omega, rfl, bel_alike HBW.out rfl rfl rfl rfl, ?_, HR2.out.drewN nq, HR3.out.drewN nq⟩
          show RB _ _ ⟨max a0 b0, max a1 b1, max a2 b2, max a3 b3, max a4 b4, max a5 b5, max a6 b6⟩
          rw [e]
          exact HR1.out.drewN nq
        case measure => simp [intOf]
    · have HR1 : Hid (RB wr w.heap.size ⟨max a0 b0, max a1 b1, max a2 b2, max a3 b3, max a4 b4, max a5 b5, max a6 b6⟩) := hr1
      have HR3 : Hid (RB wr (w.heap.size + 1 + 1) ⟨0, 0, 0, 0, 0, 0, 0⟩) := hr3
      clear hr1 hr2 hr3
      obtain ⟨A0, A1, A2, A3, A4, A5, A6⟩ := box7 HR1.out
      obtain ⟨B0, B1, B2, B3, B4, B5, B6⟩ := box7 HR3.out
      obtain ⟨f0, f1, f2, f3, f4, f5, f6⟩ := frozen7 HR3.out
      go_wp2
      refine bodyPost_ret (v := .agg #[_, _, _, _, _, _, _]) (by simp [results, Try.results24, go_sem, *] <;> exact ⟨rfl, rfl, rfl, rfl, rfl, rfl, rfl⟩) rfl ⟨rfl, ?_⟩
      repeat' (refine Below.setCell ?_ (by simp <;> omega) _)
      exact HBW.out
set_option maxRecDepth 100000 in
set_option maxHeartbeats 8000000 in
theorem rleast_any (a b : V7) (w : World) :
    Calls Try.prog 26 #[a.v, b.v] w fun e w' => e = .returned (C.lst a b).v ∧ Below w.heap.size w w' := by
  obtain ⟨a0, a1, a2, a3, a4, a5, a6⟩ := a
  obtain ⟨b0, b1, b2, b3, b4, b5, b6⟩ := b
  simp only [V7.v]
  go_enter Try.func26, Try.ntmps26
  go_wp2_with fail
  go_loopw [5] (fun i wr => ∃ k : Nat, k ≤ 7 ∧ i = .int .i64 (k : Int) ∧ Below w.heap.size w wr ∧ RB wr w.heap.size (C.mixL ⟨a0, a1, a2, a3, a4, a5, a6⟩ ⟨b0, b1, b2, b3, b4, b5, b6⟩ k) ∧ RB wr (w.heap.size + 1) ⟨b0, b1, b2, b3, b4, b5, b6⟩ ∧ RB wr (w.heap.size + 1 + 1) zero7) (fun i _ => 7 - (intOf i).toNat)
  case atStart =>
    obtain ⟨q1, q2, q3⟩ := three_boxes w (.cells #[.int .i64 a0, .int .i64 a1, .int .i64 a2, .int .i64 a3, .int .i64 a4, .int .i64 a5, .int .i64 a6] 37) (.cells #[.int .i64 b0, .int .i64 b1, .int .i64 b2, .int .i64 b3, .int .i64 b4, .int .i64 b5, .int .i64 b6] 37) (.cells #[.int .i64 0, .int .i64 0, .int .i64 0, .int .i64 0, .int .i64 0, .int .i64 0, .int .i64 0] 37) (Below.refl _ _)
    exact ⟨0, by omega, rfl, bt (below_new _ _) (bt (below_new _ _) (below_new _ _)), q1, q2, q3⟩
  case round =>
    obtain ⟨k, hk, rfl, hbw, hr1, hr2, hr3⟩ := hrel
    have HBW : Hid _ := hbw
    clear hbw
    have hc : k = 0 ∨ k = 1 ∨ k = 2 ∨ k = 3 ∨ k = 4 ∨ k = 5 ∨ k = 6 ∨ k = 7 := by omega
    rcases hc with rfl | rfl | rfl | rfl | rfl | rfl | rfl | rfl
    · have HR1 : Hid (RB wr w.heap.size ⟨a0, a1, a2, a3, a4, a5, a6⟩) := hr1
      have HR2 : Hid (RB wr (w.heap.size + 1) ⟨b0, b1, b2, b3, b4, b5, b6⟩) := hr2
      have HR3 : Hid (RB wr (w.heap.size + 1 + 1) zero7) := hr3
      clear hr1 hr2 hr3
      obtain ⟨A0, A1, A2, A3, A4, A5, A6⟩ := box7 HR1.out
      obtain ⟨B0, B1, B2, B3, B4, B5, B6⟩ := box7 HR2.out
      obtain ⟨f0, f1, f2, f3, f4, f5, f6⟩ := frozen7 HR1.out
      by_cases h : b0 < a0
      · go_wp2_with fail
        go_quiet (fail)
        go_wp2_with fail
        go_roundw
        case rel =>
          have e : min a0 b0 = b0 := by omega
          refine ⟨1, by omega, rfl, bel_alike (Below.setCell HBW.out (Nat.le_refl _) _) rfl rfl rfl rfl, ?_, (HR2.out.drewN nq).other (by omega), (HR3.out.drewN nq).other (by omega)⟩
          show RB _ _ ⟨min a0 b0, a1, a2, a3, a4, a5, a6⟩
          rw [e]
          exact (HR1.out.drewN nq).set0 b0
        case measure => simp [intOf]
      · go_wp2_with fail
        go_quiet (fail)
        go_wp2_with fail
        go_roundw
        case rel =>
          have e : min a0 b0 = a0 := by omega
          refine ⟨1, by omega, rfl, bel_alike HBW.out rfl rfl rfl rfl, ?_, HR2.out.drewN nq, HR3.out.drewN nq⟩
          show RB _ _ ⟨min a0 b0, a1, a2, a3, a4, a5, a6⟩
          rw [e]
          exact HR1.out.drewN nq
        case measure => simp [intOf]
    · have HR1 : Hid (RB wr w.heap.size ⟨min a0 b0, a1, a2, a3, a4, a5, a6⟩) := hr1
      have HR2 : Hid (RB wr (w.heap.size + 1) ⟨b0, b1, b2, b3, b4, b5, b6⟩) := hr2
      have HR3 : Hid (RB wr (w.heap.size + 1 + 1) zero7) := hr3
      clear hr1 hr2 hr3
      obtain ⟨A0, A1, A2, A3, A4, A5, A6⟩ := box7 HR1.out
      obtain ⟨B0, B1, B2, B3, B4, B5, B6⟩ := box7 HR2.out
      obtain ⟨f0, f1, f2, f3, f4, f5, f6⟩ := frozen7 HR1.out
      by_cases h : b1 < a1
      · go_wp2_with fail
        go_quiet (fail)
        go_wp2_with fail
        go_roundw
        case rel =>
          have e : min a1 b1 = b1 := by omega
          refine ⟨2, by omega, rfl, bel_alike (Below.setCell HBW.out (Nat.le_refl _) _) rfl rfl rfl rfl, ?_, (HR2.out.drewN nq).other (by omega), (HR3.out.drewN nq).other (by omega)⟩
          show RB _ _ ⟨min a0 b0, min a1 b1, a2, a3, a4, a5, a6⟩
          rw [e]
          exact (HR1.out.drewN nq).set1 b1
        case measure => simp [intOf]
      · go_wp2_with fail
        go_quiet (fail)
        go_wp2_with fail
        go_roundw
        case rel =>
          have e : min a1 b1 = a1 := by omega
          refine ⟨2, by omega, rfl, bel_alike HBW.out rfl rfl rfl rfl, ?_, HR2.out.drewN nq, HR3.out.drewN nq⟩
          show RB _ _ ⟨min a0 b0, min a1 b1, a2, a3, a4, a5, a6⟩
          rw [e]
          exact HR1.out.drewN nq
        case measure => simp [intOf]
    · have HR1 : Hid (RB wr w.heap.size ⟨min a0 b0, min a1 b1, a2, a3, a4, a5, a6⟩) := hr1
      have HR2 : Hid (RB wr (w.heap.size + 1) ⟨b0, b1, b2, b3, b4, b5, b6⟩) := hr2
      have HR3 : Hid (RB wr (w.heap.size + 1 + 1) zero7) := hr3
      clear hr1 hr2 hr3
      obtain ⟨A0, A1, A2, A3, A4, A5, A6⟩ := box7 HR1.out
      obtain ⟨B0, B1, B2, B3, B4, B5, B6⟩ := box7 HR2.out
      obtain ⟨f0, f1, f2, f3, f4, f5, f6⟩ := frozen7 HR1.out
      by_cases h : b2 < a2
      · go_wp2_with fail
        go_quiet (fail)
        go_wp2_with fail
        go_roundw
        case rel =>
          have e : min a2 b2 = b2 := by omega
          refine ⟨3, by omega, rfl, bel_alike (Below.setCell HBW.out (Nat.le_refl _) _) rfl rfl rfl rfl, ?_, (HR2.out.drewN nq).other (by omega), (HR3.out.drewN nq).other (by omega)⟩
          show RB _ _ ⟨min a0 b0, min a1 b1, min a2 b2, a3, a4, a5, a6⟩
          rw [e]
          exact (HR1.out.drewN nq).set2 b2
        case measure => simp [intOf]
      · go_wp2_with fail
        go_quiet (fail)
        go_wp2_with fail
        go_roundw
        case rel =>
          have e : min a2 b2 = a2 := by omega
          refine ⟨3, by omega, rfl, bel_alike HBW.out rfl rfl rfl rfl, ?_, HR2.out.drewN nq, HR3.out.drewN nq⟩
          show RB _ _ ⟨min a0 b0, min a1 b1, min a2 b2, a3, a4, a5, a6⟩
          rw [e]
          exact HR1.out.drewN nq
        case measure => simp [intOf]
    · have HR1 : Hid (RB wr w.heap.size ⟨min a0 b0, min a1 b1, min a2 b2, a3, a4, a5, a6⟩) := hr1
      have HR2 : Hid (RB wr (w.heap.size + 1) ⟨b0, b1, b2, b3, b4, b5, b6⟩) := hr2
      have HR3 : Hid (RB wr (w.heap.size + 1 + 1) zero7) := hr3
      clear hr1 hr2 hr3
      obtain ⟨A0, A1, A2, A3, A4, A5, A6⟩ := box7 HR1.out
      obtain ⟨B0, B1, B2, B3, B4, B5, B6⟩ := box7 HR2.out
      obtain ⟨f0, f1, f2, f3, f4, f5, f6⟩ := frozen7 HR1.out
      by_cases h : b3 < a3
      · go_wp2_with fail
        go_quiet (fail)
        go_wp2_with fail
        go_roundw
        case rel =>
          have e : min a3 b3 = b3 := by omega
          refine ⟨4, by omega, rfl, bel_alike (Below.setCell HBW.out (Nat.le_refl _) _) rfl rfl rfl rfl, ?_, (HR2.out.drewN nq).other (by omega), (HR3.out.drewN nq).other (by omega)⟩
          show RB _ _ ⟨min a0 b0, min a1 b1, min a2 b2, min a3 b3, a4, a5, a6⟩
          rw [e]
          exact (HR1.out.drewN nq).set3 b3
        case measure => simp [intOf]
      · go_wp2_with fail
        go_quiet (fail)
        go_wp2_with fail
        go_roundw
        case rel =>
          have e : min a3 b3 = a3 := by omega
          refine ⟨4, by omega, rfl, bel_alike HBW.out rfl rfl rfl rfl, ?_, HR2.out.drewN nq, HR3.out.drewN nq⟩
          show RB _ _ ⟨min a0 b0, min a1 b1, min a2 b2, min a3 b3, a4, a5, a6⟩
          rw [e]
          exact HR1.out.drewN nq
        case measure => simp [intOf]
    · have HR1 : Hid (RB wr w.heap.size ⟨min a0 b0, min a1 b1, min a2 b2, min a3 b3, a4, a5, a6⟩) := hr1
      have HR2 : Hid (RB wr (w.heap.size + 1) ⟨b0, b1, b2, b3, b4, b5, b6⟩) := hr2
      have HR3 : Hid (RB wr (w.heap.size + 1 + 1) zero7) := hr3
      clear hr1 hr2 hr3
      obtain ⟨A0, A1, A2, A3, A4, A5, A6⟩ := box7 HR1.out
      obtain ⟨B0, B1, B2, B3, B4, B5, B6⟩ := box7 HR2.out
      obtain ⟨f0, f1, f2, f3, f4, f5, f6⟩ := frozen7 HR1.out
      by_cases h : b4 < a4
      · go_wp2_with fail
        go_quiet (fail)
        go_wp2_with fail
        go_roundw
        case rel =>
          have e : min a4 b4 = b4 := by omega
          refine ⟨5, by omega, rfl, bel_alike (Below.setCell HBW.out (Nat.le_refl _) _) rfl rfl rfl rfl, ?_, (HR2.out.drewN nq).other (by omega), (HR3.out.drewN nq).other (by omega)⟩
          show RB _ _ ⟨min a0 b0, min a1 b1, min a2 b2, min a3 b3, min a4 b4, a5, a6⟩
          rw [e]
          exact (HR1.out.drewN nq).set4 b4
        case measure => simp [intOf]
      · go_wp2_with fail
        go_quiet (fail)
        go_wp2_with fail
        go_roundw
        case rel =>
          have e : min a4 b4 = a4 := by omega
          refine ⟨5, by omega, rfl, bel_alike HBW.out rfl rfl rfl rfl, ?_, HR2.out.drewN nq, HR3.out.drewN nq⟩
          show RB _ _ ⟨min a0 b0, min a1 b1, min a2 b2, min a3 b3, min a4 b4, a5, a6⟩
          rw [e]
          exact HR1.out.drewN nq
        case measure => simp [intOf]
    · have HR1 : Hid (RB wr w.heap.size ⟨min a0 b0, min a1 b1, min a2 b2, min a3 b3, min a4 b4, a5, a6⟩) := hr1
      have HR2 : Hid (RB wr (w.heap.size + 1) ⟨b0, b1, b2, b3, b4, b5, b6⟩) := hr2
      have HR3 : Hid (RB wr (w.heap.size + 1 + 1) zero7) := hr3
      clear hr1 hr2 hr3
      obtain ⟨A0, A1, A2, A3, A4, A5, A6⟩ := box7 HR1.out
      obtain ⟨B0, B1, B2, B3, B4, B5, B6⟩ := box7 HR2.out
      obtain ⟨f0, f1, f2, f3, f4, f5, f6⟩ := frozen7 HR1.out
      by_cases h : b5 < a5
      · go_wp2_with fail
        go_quiet (fail)
        go_wp2_with fail
        go_roundw
        case rel =>
          have e : min a5 b5 = b5 := by omega
          refine ⟨6, by omega, rfl, bel_alike (Below.setCell HBW.out (Nat.le_refl _) _) rfl rfl rfl rfl, ?_, (HR2.out.drewN nq).other (by omega), (HR3.out.drewN nq).other (by omega)⟩
          show RB _ _ ⟨min a0 b0, min a1 b1, min a2 b2, min a3 b3, min a4 b4, min a5 b5, a6⟩
          rw [e]
          exact (HR1.out.drewN nq).set5 b5
        case measure => simp [intOf]
      · go_wp2_with fail
        go_quiet (fail)
        go_wp2_with fail
        go_roundw
        case rel =>
          have e : min a5 b5 = a5 := by omega
          refine ⟨6, by omega, rfl, bel_alike HBW.out rfl rfl rfl rfl, ?_, HR2.out.drewN nq, HR3.out.drewN nq⟩
          show RB _ _ ⟨min a0 b0, min a1 b1, min a2 b2, min a3 b3, min a4 b4, min a5 b5, a6⟩
          rw [e]
          exact HR1.out.drewN nq
        case measure => simp [intOf]
    · have HR1 : Hid (RB wr w.heap.size ⟨min a0 b0, min a1 b1, min a2 b2, min a3 b3, min a4 b4, min a5 b5, a6⟩) := hr1
      have HR2 : Hid (RB wr (w.heap.size + 1) ⟨b0, b1, b2, b3, b4, b5, b6⟩) := hr2
      have HR3 : Hid (RB wr (w.heap.size + 1 + 1) zero7) := hr3
      clear hr1 hr2 hr3
      obtain ⟨A0, A1, A2, A3, A4, A5, A6⟩ := box7 HR1.out
      obtain ⟨B0, B1, B2, B3, B4, B5, B6⟩ := box7 HR2.out
      obtain ⟨f0, f1, f2, f3, f4, f5, f6⟩ := frozen7 HR1.out
      by_cases h : b6 < a6
      · go_wp2_with fail
        go_quiet (fail)
        go_wp2_with fail
        go_roundw
        case rel =>
          have e : min a6 b6 = b6 := by omega
          refine ⟨7, by omega, rfl, bel_alike (Below.setCell HBW.out (Nat.le_refl _) _) rfl rfl rfl rfl, ?_, (HR2.out.drewN nq).other (by omega), (HR3.out.drewN nq).other (by omega)⟩
          show RB _ _ ⟨min a0 b0, min a1 b1, min a2 b2, min a3 b3, min a4 b4, min a5 b5, min a6 b6⟩
          rw [e]
          exact (HR1.out.drewN nq).set6 b6
        case measure => simp [intOf]
      · go_wp2_with fail
        go_quiet (fail)
        go_wp2_with fail
        go_roundw
        case rel =>
          have e : min a6 b6 = a6 := by omega
          refine ⟨7, by omega, rfl, bel_alike HBW.out rfl rfl rfl rfl, ?_, HR2.out.drewN nq, HR3.out.drewN nq⟩
          show RB _ _ ⟨min a0 b0, min a1 b1, min a2 b2, min a3 b3, min a4 b4, min a5 b5, min a6 b6⟩
          rw [e]
          exact HR1.out.drewN nq
        case measure => simp [intOf]
    · have HR1 : Hid (RB wr w.heap.size ⟨min a0 b0, min a1 b1, min a2 b2, min a3 b3, min a4 b4, min a5 b5, min a6 b6⟩) := hr1
      have HR3 : Hid (RB wr (w.heap.size + 1 + 1) ⟨0, 0, 0, 0, 0, 0, 0⟩) := hr3
      clear hr1 hr2 hr3
      obtain ⟨A0, A1, A2, A3, A4, A5, A6⟩ := box7 HR1.out
      obtain ⟨B0, B1, B2, B3, B4, B5, B6⟩ := box7 HR3.out
      obtain ⟨f0, f1, f2, f3, f4, f5, f6⟩ := frozen7 HR3.out
      go_wp2
      refine bodyPost_ret (v := .agg #[_, _, _, _, _, _, _]) (by simp [results, Try.results26, go_sem, *] <;> exact ⟨rfl, rfl, rfl, rfl, rfl, rfl, rfl⟩) rfl ⟨rfl, ?_⟩
      repeat' (refine Below.setCell ?_ (by simp <;> omega) _)
      exact HBW.out
theorem rmerge_at {a b c : V7} (h : C.mrg a b = c) (w : World) : Calls Try.prog 24 #[a.v, b.v] w fun e w' => e = .returned c.v ∧ Below w.heap.size w w' := by
  have := rmerge_any a b w; rw [h] at this; exact this
theorem rleast_at {a b c : V7} (h : C.lst a b = c) (w : World) : Calls Try.prog 26 #[a.v, b.v] w fun e w' => e = .returned c.v ∧ Below w.heap.size w w' := by
  have := rleast_any a b w; rw [h] at this; exact this
end Go.Proofs.Ytmjkablhambelaa
