/-
  Several texts in one: WRef7b, WRef7c, RWrite, RRead, RRead2, RRead3, WRef7d, RGet, RPut, VBack, KBytes.
-/
import Derived.Test.YtglmmhgmdhdleaaZ3
import Derived.Test.YtglmmhgmdhdleaaWLaw
import Derived.Deep.QuietTactic
import Derived.BigQuiet
import Derived.Test.YtglmmhgmdhdleaaZ2
import Derived.Deep.RegionLaw
namespace Go.Proofs.Ytglmmhgmdhdleaa
open Go.RowKit Go.Lib
set_option linter.unusedVariables false

namespace C
/-- The first k places merged. -/
def mixM (a b : V7) (k : Nat) : V7 := match k with
  | 0 => ⟨a.x0, a.x1, a.x2, a.x3, a.x4, a.x5, a.x6⟩
  | 1 => ⟨max a.x0 b.x0, a.x1, a.x2, a.x3, a.x4, a.x5, a.x6⟩
  | 2 => ⟨max a.x0 b.x0, max a.x1 b.x1, a.x2, a.x3, a.x4, a.x5, a.x6⟩
  | 3 => ⟨max a.x0 b.x0, max a.x1 b.x1, max a.x2 b.x2, a.x3, a.x4, a.x5, a.x6⟩
  | 4 => ⟨max a.x0 b.x0, max a.x1 b.x1, max a.x2 b.x2, max a.x3 b.x3, a.x4, a.x5, a.x6⟩
  | 5 => ⟨max a.x0 b.x0, max a.x1 b.x1, max a.x2 b.x2, max a.x3 b.x3, max a.x4 b.x4, a.x5, a.x6⟩
  | 6 => ⟨max a.x0 b.x0, max a.x1 b.x1, max a.x2 b.x2, max a.x3 b.x3, max a.x4 b.x4, max a.x5 b.x5, a.x6⟩
  | _ => ⟨max a.x0 b.x0, max a.x1 b.x1, max a.x2 b.x2, max a.x3 b.x3, max a.x4 b.x4, max a.x5 b.x5, max a.x6 b.x6⟩
def mixL (a b : V7) (k : Nat) : V7 := match k with
  | 0 => ⟨a.x0, a.x1, a.x2, a.x3, a.x4, a.x5, a.x6⟩
  | 1 => ⟨min a.x0 b.x0, a.x1, a.x2, a.x3, a.x4, a.x5, a.x6⟩
  | 2 => ⟨min a.x0 b.x0, min a.x1 b.x1, a.x2, a.x3, a.x4, a.x5, a.x6⟩
  | 3 => ⟨min a.x0 b.x0, min a.x1 b.x1, min a.x2 b.x2, a.x3, a.x4, a.x5, a.x6⟩
  | 4 => ⟨min a.x0 b.x0, min a.x1 b.x1, min a.x2 b.x2, min a.x3 b.x3, a.x4, a.x5, a.x6⟩
  | 5 => ⟨min a.x0 b.x0, min a.x1 b.x1, min a.x2 b.x2, min a.x3 b.x3, min a.x4 b.x4, a.x5, a.x6⟩
  | 6 => ⟨min a.x0 b.x0, min a.x1 b.x1, min a.x2 b.x2, min a.x3 b.x3, min a.x4 b.x4, min a.x5 b.x5, a.x6⟩
  | _ => ⟨min a.x0 b.x0, min a.x1 b.x1, min a.x2 b.x2, min a.x3 b.x3, min a.x4 b.x4, min a.x5 b.x5, min a.x6 b.x6⟩
end C
/-- A clock's block of the document's own. -/
def RB (w : World) (b : Nat) (v : V7) : Prop := w.heap[b]? = some (.cells #[.int .i64 v.x0, .int .i64 v.x1, .int .i64 v.x2, .int .i64 v.x3, .int .i64 v.x4, .int .i64 v.x5, .int .i64 v.x6] 40)
theorem RB.keep {w w' : World} {b : Nat} {v : V7} (h : RB w b v) (hb : Below w.heap.size w w') : RB w' b v := keep_on hb h
theorem RB.drewN {w : World} {b : Nat} {v : V7} (h : RB w b v) (n : Nat) : RB (w.drewN n) b v := h
theorem RB.other {w : World} {b c k : Nat} {v : V7} {u : Value} (h : RB w b v) (hne : b ≠ c) : RB (w.setCell ⟨c, k, none⟩ u) b v := (Below.heap_setCell _ _ _ _ hne).trans h
theorem RB.set0 {w : World} {b : Nat} {v : V7} (h : RB w b v) (x : Int) : RB (w.setCell ⟨b, 0, none⟩ (.int .i64 x)) b { v with x0 := x } := by
  have := set_block (o := 0) (v := .int .i64 x) h
  simpa [RB] using this
theorem RB.set1 {w : World} {b : Nat} {v : V7} (h : RB w b v) (x : Int) : RB (w.setCell ⟨b, 1, none⟩ (.int .i64 x)) b { v with x1 := x } := by
  have := set_block (o := 1) (v := .int .i64 x) h
  simpa [RB] using this
theorem RB.set2 {w : World} {b : Nat} {v : V7} (h : RB w b v) (x : Int) : RB (w.setCell ⟨b, 2, none⟩ (.int .i64 x)) b { v with x2 := x } := by
  have := set_block (o := 2) (v := .int .i64 x) h
  simpa [RB] using this
theorem RB.set3 {w : World} {b : Nat} {v : V7} (h : RB w b v) (x : Int) : RB (w.setCell ⟨b, 3, none⟩ (.int .i64 x)) b { v with x3 := x } := by
  have := set_block (o := 3) (v := .int .i64 x) h
  simpa [RB] using this
theorem RB.set4 {w : World} {b : Nat} {v : V7} (h : RB w b v) (x : Int) : RB (w.setCell ⟨b, 4, none⟩ (.int .i64 x)) b { v with x4 := x } := by
  have := set_block (o := 4) (v := .int .i64 x) h
  simpa [RB] using this
theorem RB.set5 {w : World} {b : Nat} {v : V7} (h : RB w b v) (x : Int) : RB (w.setCell ⟨b, 5, none⟩ (.int .i64 x)) b { v with x5 := x } := by
  have := set_block (o := 5) (v := .int .i64 x) h
  simpa [RB] using this
theorem RB.set6 {w : World} {b : Nat} {v : V7} (h : RB w b v) (x : Int) : RB (w.setCell ⟨b, 6, none⟩ (.int .i64 x)) b { v with x6 := x } := by
  have := set_block (o := 6) (v := .int .i64 x) h
  simpa [RB] using this
set_option maxRecDepth 100000 in
set_option maxHeartbeats 8000000 in
theorem rmerge_any (a b : V7) (w : World) :
    Calls Try.prog 54 #[a.v, b.v] w fun e w' => e = .returned (C.mrg a b).v ∧ Below w.heap.size w w' := by
  obtain ⟨a0, a1, a2, a3, a4, a5, a6⟩ := a
  obtain ⟨b0, b1, b2, b3, b4, b5, b6⟩ := b
  simp only [V7.v]
  go_enter Try.func54, Try.ntmps54
  go_wp2_with fail
  go_loopw [5] (fun i wr => ∃ k : Nat, k ≤ 7 ∧ i = .int .i64 (k : Int) ∧ Below w.heap.size w wr ∧ RB wr w.heap.size (C.mixM ⟨a0, a1, a2, a3, a4, a5, a6⟩ ⟨b0, b1, b2, b3, b4, b5, b6⟩ k) ∧ RB wr (w.heap.size + 1) ⟨b0, b1, b2, b3, b4, b5, b6⟩ ∧ RB wr (w.heap.size + 1 + 1) zero7) (fun i _ => 7 - (intOf i).toNat)
  case atStart =>
    obtain ⟨q1, q2, q3⟩ := three_boxes w (.cells #[.int .i64 a0, .int .i64 a1, .int .i64 a2, .int .i64 a3, .int .i64 a4, .int .i64 a5, .int .i64 a6] 40) (.cells #[.int .i64 b0, .int .i64 b1, .int .i64 b2, .int .i64 b3, .int .i64 b4, .int .i64 b5, .int .i64 b6] 40) (.cells #[.int .i64 0, .int .i64 0, .int .i64 0, .int .i64 0, .int .i64 0, .int .i64 0, .int .i64 0] 40) (Below.refl _ _)
    exact ⟨0, by omega, rfl, bt (below_new _ _) (bt (below_new _ _) (below_new _ _)), q1, q2, q3⟩
  case round =>
    obtain ⟨k, hk, rfl, hbw, hr1, hr2, hr3⟩ := hrel
    have HBW : Hid _ := hbw
    clear hbw
    have hc : k = 0 ∨ k = 1 ∨ k = 2 ∨ k = 3 ∨ k = 4 ∨ k = 5 ∨ k = 6 ∨ k = 7 := by omega
    rcases hc with rfl | rfl | rfl | rfl | rfl | rfl | rfl | rfl
    · have HR1 : Hid (RB wr w.heap.size ⟨a0, a1, a2, a3, a4, a5, a6⟩) := hr1
      have HR2 : Hid (RB wr (w.heap.size + 1) ⟨b0, b1, b2, b3, b4, b5, b6⟩) := hr2
      have HR3 : Hid (RB wr (w.heap.size + 1 + 1) zero7) := hr3
      clear hr1 hr2 hr3
      obtain ⟨A0, A1, A2, A3, A4, A5, A6⟩ := box7 HR1.out
      obtain ⟨B0, B1, B2, B3, B4, B5, B6⟩ := box7 HR2.out
      obtain ⟨f0, f1, f2, f3, f4, f5, f6⟩ := frozen7 HR1.out
      by_cases h : a0 < b0
      · go_wp2_with fail
        go_quiet (fail)
        go_wp2_with fail
        go_roundw
        case rel =>
          have e : max a0 b0 = b0 := by omega
          refine ⟨1, by omega, rfl, bel_alike (Below.setCell HBW.out (Nat.le_refl _) _) rfl rfl rfl rfl, ?_, (HR2.out.drewN nq).other (by omega), (HR3.out.drewN nq).other (by omega)⟩
          show RB _ _ ⟨max a0 b0, a1, a2, a3, a4, a5, a6⟩
          rw [e]
          exact (HR1.out.drewN nq).set0 b0
        case measure => simp [intOf]
      · go_wp2_with fail
        go_quiet (fail)
        go_wp2_with fail
        go_roundw
        case rel =>
          have e : max a0 b0 = a0 := by omega
          refine ⟨1, by omega, rfl, bel_alike HBW.out rfl rfl rfl rfl, ?_, HR2.out.drewN nq, HR3.out.drewN nq⟩
          show RB _ _ ⟨max a0 b0, a1, a2, a3, a4, a5, a6⟩
          rw [e]
          exact HR1.out.drewN nq
        case measure => simp [intOf]
    · have HR1 : Hid (RB wr w.heap.size ⟨max a0 b0, a1, a2, a3, a4, a5, a6⟩) := hr1
      have HR2 : Hid (RB wr (w.heap.size + 1) ⟨b0, b1, b2, b3, b4, b5, b6⟩) := hr2
      have HR3 : Hid (RB wr (w.heap.size + 1 + 1) zero7) := hr3
      clear hr1 hr2 hr3
      obtain ⟨A0, A1, A2, A3, A4, A5, A6⟩ := box7 HR1.out
      obtain ⟨B0, B1, B2, B3, B4, B5, B6⟩ := box7 HR2.out
      obtain ⟨f0, f1, f2, f3, f4, f5, f6⟩ := frozen7 HR1.out
      by_cases h : a1 < b1
      · go_wp2_with fail
        go_quiet (fail)
        go_wp2_with fail
        go_roundw
        case rel =>
          have e : max a1 b1 = b1 := by omega
          refine ⟨2, by omega, rfl, bel_alike (Below.setCell HBW.out (Nat.le_refl _) _) rfl rfl rfl rfl, ?_, (HR2.out.drewN nq).other (by omega), (HR3.out.drewN nq).other (by omega)⟩
          show RB _ _ ⟨max a0 b0, max a1 b1, a2, a3, a4, a5, a6⟩
          rw [e]
          exact (HR1.out.drewN nq).set1 b1
        case measure => simp [intOf]
      · go_wp2_with fail
        go_quiet (fail)
        go_wp2_with fail
        go_roundw
        case rel =>
          have e : max a1 b1 = a1 := by omega
          refine ⟨2, by omega, rfl, bel_alike HBW.out rfl rfl rfl rfl, ?_, HR2.out.drewN nq, HR3.out.drewN nq⟩
          show RB _ _ ⟨max a0 b0, max a1 b1, a2, a3, a4, a5, a6⟩
          rw [e]
          exact HR1.out.drewN nq
        case measure => simp [intOf]
    · have HR1 : Hid (RB wr w.heap.size ⟨max a0 b0, max a1 b1, a2, a3, a4, a5, a6⟩) := hr1
      have HR2 : Hid (RB wr (w.heap.size + 1) ⟨b0, b1, b2, b3, b4, b5, b6⟩) := hr2
      have HR3 : Hid (RB wr (w.heap.size + 1 + 1) zero7) := hr3
      clear hr1 hr2 hr3
      obtain ⟨A0, A1, A2, A3, A4, A5, A6⟩ := box7 HR1.out
      obtain ⟨B0, B1, B2, B3, B4, B5, B6⟩ := box7 HR2.out
      obtain ⟨f0, f1, f2, f3, f4, f5, f6⟩ := frozen7 HR1.out
      by_cases h : a2 < b2
      · go_wp2_with fail
        go_quiet (fail)
        go_wp2_with fail
        go_roundw
        case rel =>
          have e : max a2 b2 = b2 := by omega
          refine ⟨3, by omega, rfl, bel_alike (Below.setCell HBW.out (Nat.le_refl _) _) rfl rfl rfl rfl, ?_, (HR2.out.drewN nq).other (by omega), (HR3.out.drewN nq).other (by omega)⟩
          show RB _ _ ⟨max a0 b0, max a1 b1, max a2 b2, a3, a4, a5, a6⟩
          rw [e]
          exact (HR1.out.drewN nq).set2 b2
        case measure => simp [intOf]
      · go_wp2_with fail
        go_quiet (fail)
        go_wp2_with fail
        go_roundw
        case rel =>
          have e : max a2 b2 = a2 := by omega
          refine ⟨3, by omega, rfl, bel_alike HBW.out rfl rfl rfl rfl, ?_, HR2.out.drewN nq, HR3.out.drewN nq⟩
          show RB _ _ ⟨max a0 b0, max a1 b1, max a2 b2, a3, a4, a5, a6⟩
          rw [e]
          exact HR1.out.drewN nq
        case measure => simp [intOf]
    · have HR1 : Hid (RB wr w.heap.size ⟨max a0 b0, max a1 b1, max a2 b2, a3, a4, a5, a6⟩) := hr1
      have HR2 : Hid (RB wr (w.heap.size + 1) ⟨b0, b1, b2, b3, b4, b5, b6⟩) := hr2
      have HR3 : Hid (RB wr (w.heap.size + 1 + 1) zero7) := hr3
      clear hr1 hr2 hr3
      obtain ⟨A0, A1, A2, A3, A4, A5, A6⟩ := box7 HR1.out
      obtain ⟨B0, B1, B2, B3, B4, B5, B6⟩ := box7 HR2.out
      obtain ⟨f0, f1, f2, f3, f4, f5, f6⟩ := frozen7 HR1.out
      by_cases h : a3 < b3
      · go_wp2_with fail
        go_quiet (fail)
        go_wp2_with fail
        go_roundw
        case rel =>
          have e : max a3 b3 = b3 := by omega
          refine ⟨4, by omega, rfl, bel_alike (Below.setCell HBW.out (Nat.le_refl _) _) rfl rfl rfl rfl, ?_, (HR2.out.drewN nq).other (by omega), (HR3.out.drewN nq).other (by omega)⟩
          show RB _ _ ⟨max a0 b0, max a1 b1, max a2 b2, max a3 b3, a4, a5, a6⟩
          rw [e]
          exact (HR1.out.drewN nq).set3 b3
        case measure => simp [intOf]
      · go_wp2_with fail
        go_quiet (fail)
        go_wp2_with fail
        go_roundw
        case rel =>
          have e : max a3 b3 = a3 := by omega
          refine ⟨4, by omega, rfl, bel_alike HBW.out rfl rfl rfl rfl, ?_, HR2.out.drewN nq, HR3.out.drewN nq⟩
          show RB _ _ ⟨max a0 b0, max a1 b1, max a2 b2, max a3 b3, a4, a5, a6⟩
          rw [e]
          exact HR1.out.drewN nq
        case measure => simp [intOf]
    · have HR1 : Hid (RB wr w.heap.size ⟨max a0 b0, max a1 b1, max a2 b2, max a3 b3, a4, a5, a6⟩) := hr1
      have HR2 : Hid (RB wr (w.heap.size + 1) ⟨b0, b1, b2, b3, b4, b5, b6⟩) := hr2
      have HR3 : Hid (RB wr (w.heap.size + 1 + 1) zero7) := hr3
      clear hr1 hr2 hr3
      obtain ⟨A0, A1, A2, A3, A4, A5, A6⟩ := box7 HR1.out
      obtain ⟨B0, B1, B2, B3, B4, B5, B6⟩ := box7 HR2.out
      obtain ⟨f0, f1, f2, f3, f4, f5, f6⟩ := frozen7 HR1.out
      by_cases h : a4 < b4
      · go_wp2_with fail
        go_quiet (fail)
        go_wp2_with fail
        go_roundw
        case rel =>
          have e : max a4 b4 = b4 := by omega
          refine ⟨5, by omega, rfl, bel_alike (Below.setCell HBW.out (Nat.le_refl _) _) rfl rfl rfl rfl, ?_, (HR2.out.drewN nq).other (by omega), (HR3.out.drewN nq).other (by omega)⟩
          show RB _ _ ⟨max a0 b0, max a1 b1, max a2 b2, max a3 b3, max a4 b4, a5, a6⟩
          rw [e]
          exact (HR1.out.drewN nq).set4 b4
        case measure => simp [intOf]
      · go_wp2_with fail
        go_quiet (fail)
        go_wp2_with fail
        go_roundw
        case rel =>
          have e : max a4 b4 = a4 := by omega
          refine ⟨5, by omega, rfl, bel_alike HBW.out rfl rfl rfl rfl, ?_, HR2.out.drewN nq, HR3.out.drewN nq⟩
          show RB _ _ ⟨max a0 b0, max a1 b1, max a2 b2, max a3 b3, max a4 b4, a5, a6⟩
          rw [e]
          exact HR1.out.drewN nq
        case measure => simp [intOf]
    · have HR1 : Hid (RB wr w.heap.size ⟨max a0 b0, max a1 b1, max a2 b2, max a3 b3, max a4 b4, a5, a6⟩) := hr1
      have HR2 : Hid (RB wr (w.heap.size + 1) ⟨b0, b1, b2, b3, b4, b5, b6⟩) := hr2
      have HR3 : Hid (RB wr (w.heap.size + 1 + 1) zero7) := hr3
      clear hr1 hr2 hr3
      obtain ⟨A0, A1, A2, A3, A4, A5, A6⟩ := box7 HR1.out
      obtain ⟨B0, B1, B2, B3, B4, B5, B6⟩ := box7 HR2.out
      obtain ⟨f0, f1, f2, f3, f4, f5, f6⟩ := frozen7 HR1.out
      by_cases h : a5 < b5
      · go_wp2_with fail
        go_quiet (fail)
        go_wp2_with fail
        go_roundw
        case rel =>
          have e : max a5 b5 = b5 := by omega
          refine ⟨6, by omega, rfl, bel_alike (Below.setCell HBW.out (Nat.le_refl _) _) rfl rfl rfl rfl, ?_, (HR2.out.drewN nq).other (by omega), (HR3.out.drewN nq).other (by omega)⟩
          show RB _ _ ⟨max a0 b0, max a1 b1, max a2 b2, max a3 b3, max a4 b4, max a5 b5, a6⟩
          rw [e]
          exact (HR1.out.drewN nq).set5 b5
        case measure => simp [intOf]
      · go_wp2_with fail
        go_quiet (fail)
        go_wp2_with fail
        go_roundw
        case rel =>
          have e : max a5 b5 = a5 := by omega
          refine ⟨6, by omega, rfl, bel_alike HBW.out rfl rfl rfl rfl, ?_, HR2.out.drewN nq, HR3.out.drewN nq⟩
          show RB _ _ ⟨max a0 b0, max a1 b1, max a2 b2, max a3 b3, max a4 b4, max a5 b5, a6⟩
          rw [e]
          exact HR1.out.drewN nq
        case measure => simp [intOf]
    · have HR1 : Hid (RB wr w.heap.size ⟨max a0 b0, max a1 b1, max a2 b2, max a3 b3, max a4 b4, max a5 b5, a6⟩) := hr1
      have HR2 : Hid (RB wr (w.heap.size + 1) ⟨b0, b1, b2, b3, b4, b5, b6⟩) := hr2
      have HR3 : Hid (RB wr (w.heap.size + 1 + 1) zero7) := hr3
      clear hr1 hr2 hr3
      obtain ⟨A0, A1, A2, A3, A4, A5, A6⟩ := box7 HR1.out
      obtain ⟨B0, B1, B2, B3, B4, B5, B6⟩ := box7 HR2.out
      obtain ⟨f0, f1, f2, f3, f4, f5, f6⟩ := frozen7 HR1.out
      by_cases h : a6 < b6
      · go_wp2_with fail
        go_quiet (fail)
        go_wp2_with fail
        go_roundw
        case rel =>
          have e : max a6 b6 = b6 := by omega
          refine ⟨7, by omega, rfl, bel_alike (Below.setCell HBW.out (Nat.le_refl _) _) rfl rfl rfl rfl, ?_, (HR2.out.drewN nq).other (by omega), (HR3.out.drewN nq).other (by omega)⟩
          show RB _ _ ⟨max a0 b0, max a1 b1, max a2 b2, max a3 b3, max a4 b4, max a5 b5, max a6 b6⟩
          rw [e]
          exact (HR1.out.drewN nq).set6 b6
        case measure => simp [intOf]
      · go_wp2_with fail
        go_quiet (fail)
        go_wp2_with fail
        go_roundw
        case rel =>
          have e : max a6 b6 = a6 := by omega
          refine ⟨7, by omega, rfl, bel_alike HBW.out rfl rfl rfl rfl, ?_, HR2.out.drewN nq, HR3.out.drewN nq⟩
          show RB _ _ ⟨max a0 b0, max a1 b1, max a2 b2, max a3 b3, max a4 b4, max a5 b5, max a6 b6⟩
          rw [e]
          exact HR1.out.drewN nq
        case measure => simp [intOf]
    · have HR1 : Hid (RB wr w.heap.size ⟨max a0 b0, max a1 b1, max a2 b2, max a3 b3, max a4 b4, max a5 b5, max a6 b6⟩) := hr1
      have HR3 : Hid (RB wr (w.heap.size + 1 + 1) ⟨0, 0, 0, 0, 0, 0, 0⟩) := hr3
      clear hr1 hr2 hr3
      obtain ⟨A0, A1, A2, A3, A4, A5, A6⟩ := box7 HR1.out
      obtain ⟨B0, B1, B2, B3, B4, B5, B6⟩ := box7 HR3.out
      obtain ⟨f0, f1, f2, f3, f4, f5, f6⟩ := frozen7 HR3.out
      go_wp2
      refine bodyPost_ret (v := .agg #[_, _, _, _, _, _, _]) (by simp [results, Try.results54, go_sem, *] <;> exact ⟨rfl, rfl, rfl, rfl, rfl, rfl, rfl⟩) rfl ⟨rfl, ?_⟩
      repeat' (refine Below.setCell ?_ (by simp <;> omega) _)
      exact HBW.out
theorem rmerge_at {a b c : V7} (h : C.mrg a b = c) (w : World) : Calls Try.prog 54 #[a.v, b.v] w fun e w' => e = .returned c.v ∧ Below w.heap.size w w' := by
  have := rmerge_any a b w; rw [h] at this; exact this
end Go.Proofs.Ytglmmhgmdhdleaa

namespace Go.Proofs.Ytglmmhgmdhdleaa
open Go.RowKit Go.Lib
set_option linter.unusedVariables false

end Go.Proofs.Ytglmmhgmdhdleaa

namespace Go.Proofs.Ytglmmhgmdhdleaa
open Go.RowKit Go.Lib
set_option linter.unusedVariables false

theorem zig_not {v : Int} (h1 : -9223372036854775808 ≤ v) (h : v < 0) : bits .xor .u64 IntKind.u64.max (IntKind.u64.wrap (IntKind.u64.wrap v * 2)) = (C.zig v : Nat) := by
  rw [wrap_u64_neg (v := v) h (by omega), show IntKind.u64.wrap ((v + 18446744073709551616) * 2) = 2 * v + 18446744073709551616 by rw [IntKind.wrap_u64]; omega]
  obtain ⟨n, hn⟩ := Int.eq_ofNat_of_zero_le (show 0 ≤ 2 * v + 18446744073709551616 by omega)
  rw [hn]
  have := u64_xor_nat 18446744073709551615 n (by omega) (by omega)
  rw [Nat.xor_comm, xor_all n (by omega)] at this
  have e : IntKind.u64.max = ((18446744073709551615 : Nat) : Int) := by decide
  rw [e, this]
  unfold C.zig
  rw [if_neg (by omega)]
  omega
theorem zig_twice {v : Int} (h : 0 ≤ v) : v * 2 = (C.zig v : Nat) := by
  unfold C.zig
  rw [if_pos h]
  omega
theorem byte_more (m : Nat) : (m : Int) % 128 + 128 = ((UInt8.ofNat (m % 128 + 128)).toNat : Nat) := by
  rw [UInt8.toNat_ofNat']; omega
set_option maxRecDepth 100000 in
set_option maxHeartbeats 4000000 in
theorem refnum_any (pb : Option Addr) (nb cb : Nat) (lb : List UInt8) (v : Int) (w : World) (hb : Is w pb nb cb lb) (hv : C.fits v) (hl : lb.length ≤ 90000) :
    Calls Try.prog 55 #[.slice pb nb cb, .int .i64 v] w fun e w' => (∃ x, e = .returned x ∧ Own w' w.heap.size x (lb ++ C.num v)) ∧ Below w.heap.size w w' := by
  obtain ⟨hn, hok⟩ := hb
  subst hn
  have HOK : Hid _ := hok
  have HV : Hid _ := hv
  have hv1 := hv.1
  have hv2 := hv.2
  have ho1 : Hid (Own (w.alloc (.cells #[] 5)) w.heap.size (.slice (some ⟨w.heap.size, 0, none⟩) 0 0) []) := Own.empty w w.heap.size (Nat.le_refl _)
  have HL : Hid (lb.length ≤ 90000) := hl
  clear hok hv
  by_cases h0 : v < 0
  all_goals
    go_enter Try.func55, Try.ntmps55
    go_wp2_with (at_builtin; go_must (refine wpList_append_part rfl _ _ rfl w.heap.size _ [] rfl ho1.out ⟨pb, lb, cb⟩ rfl (Part.ok.below HOK.out (below_new _ _)) (by simp only [List.length_nil]; omega) (by simp) ?_); intro v2 w2 ho2 hg2; have h2 := Own.grown ho1.out (below_new w _) (by simp) hg2)
    go_loopw [5, 6] (fun n b wr => ∃ (m : Nat) (pre : List UInt8), n = .int .u64 m ∧ m < C.lim ∧ Own wr w.heap.size b (lb ++ pre) ∧ pre ++ C.grp m = C.num v ∧ Below w.heap.size w wr) (fun n _ _ => (intOf n).toNat)
    case atStart => exact ⟨C.zig v, [], by first | rw [zig_not hv1 h0] | rw [zig_twice h0], C.zig_lt HV.out, by simpa using ho2, rfl, h2⟩
    case round =>
      obtain ⟨m, pre, rfl, hm, ho, he, hb⟩ := hrel
      have HM : Hid (m < C.lim) := hm
      have HO : Hid _ := ho
      have HE : Hid (pre ++ C.grp m = C.num v) := he
      have HB : Hid _ := hb
      have HLL : Hid ((lb ++ pre).length ≤ 90010) := by
        have h1 := (C.num_ten HV.out).2
        have h2 := congrArg List.length HE.out
        have h3 := HL.out
        rw [List.length_append] at h2
        show _ ≤ _
        rw [List.length_append]
        omega
      clear hm ho he hb hv1 hv2
      by_cases h : m < 128
      · have HX : Hid (lb ++ pre ++ [UInt8.ofNat m] = lb ++ C.num v) := by
          have := HE.out; rw [C.grp_small h] at this; show _ = _; rw [List.append_assoc, this]
        have hu := u8_small m h
        generalize UInt8.ofNat m = x at hu HX
        have HU : Hid _ := hu
        clear hu
        go_wp2_with (at_builtin; go_must (refine wpList_append_part rfl _ _ rfl w.heap.size _ (lb ++ pre) rfl (Own.below HO.out (below_new _ _)) ⟨some ⟨_, 0, none⟩, [x], 1⟩ rfl (byte_new _ _ _ HU.out _) (by have := HLL.out; simp only [List.length_singleton]; omega) (by have := HB.out.size; simp; omega) ?_); intro v3 w3 ho3 hg3; have h3 := Own.grown (Own.below HO.out (below_new _ _)) (HB.out.alloc HB.out.size _) (by have := HB.out.size; simp; omega) hg3)
        go_ret
        exact ⟨⟨_, rfl, by rw [← HX.out]; exact ho3⟩, h3⟩
      · have HX : Hid (pre ++ [UInt8.ofNat (m % 128 + 128)] ++ C.grp (m / 128) = C.num v) := by
          have := HE.out; rw [C.grp_big h] at this; show _ = _; rw [List.append_assoc]; exact this
        have hq : IntKind.u64.wrap ((m : Int) / 128) = (m : Int) / 128 := by
          have h1 := HM.out
          unfold C.lim at h1
          exact wrap_u64_ge (by omega) (by omega)
        have hu := byte_more m
        generalize UInt8.ofNat (m % 128 + 128) = x at hu HX
        have HU : Hid _ := hu
        clear hu
        go_wp2_with (at_builtin; go_must (refine wpList_append_part rfl _ _ rfl w.heap.size _ (lb ++ pre) rfl (Own.below HO.out (below_new _ _)) ⟨some ⟨_, 0, none⟩, [x], 1⟩ rfl (byte_new _ _ _ HU.out _) (by have := HLL.out; simp only [List.length_singleton]; omega) (by have := HB.out.size; simp; omega) ?_); intro v3 w3 ho3 hg3; have h3 := Own.grown (Own.below HO.out (below_new _ _)) (HB.out.alloc HB.out.size _) (by have := HB.out.size; simp; omega) hg3)
        go_roundw
        case rel => exact ⟨m / 128, _, by go_num, Nat.lt_of_le_of_lt (Nat.div_le_self _ _) HM.out, by rw [List.append_assoc] at ho3; exact ho3, HX.out, h3⟩
        case measure => simp [intOf]; omega
end Go.Proofs.Ytglmmhgmdhdleaa

namespace Go.Proofs.Ytglmmhgmdhdleaa
open Go.RowKit Go.Lib
set_option linter.unusedVariables false

/-- The document's reader at block g. -/
structure Rr (w : World) (g : Nat) (p : Option Addr) (n c : Nat) (l : List UInt8) (a : Nat) (bad : Bool) : Prop where
  blk : w.heap[g]? = some (.cells #[.slice p n c, .int .i64 (a : Nat), .bool bad] 53)
  is : Is w p n c l
  nc : n ≤ c
  cm : c ≤ maxLen
  al : a ≤ n
  pa : 0 < c → ∃ b o, p = some ⟨b, o, none⟩
section
variable {w w' : World} {g k : Nat} {p : Option Addr} {n c : Nat} {l : List UInt8} {a : Nat} {bad : Bool}
theorem Rr.lt (h : Rr w g p n c l a bad) : g < w.heap.size := (Array.getElem?_eq_some_iff.1 h.blk).1
theorem Rr.c0 (h : Rr w g p n c l a bad) : w.cell? ⟨g, 0, none⟩ = some (.slice p n c) := by simp [World.cell?, h.blk]
theorem Rr.c1 (h : Rr w g p n c l a bad) : w.cell? ⟨g, 1, none⟩ = some (.int .i64 (a : Nat)) := by simp [World.cell?, h.blk]
theorem Rr.c2 (h : Rr w g p n c l a bad) : w.cell? ⟨g, 2, none⟩ = some (.bool bad) := by simp [World.cell?, h.blk]
theorem Rr.fz (h : Rr w g p n c l a bad) (o : Nat) : w.frozen? ⟨g, o, none⟩ = false := by simp [World.frozen?, h.blk]
theorem Rr.nb (h : Rr w g p n c l a bad) : NB w g := by
  intro o x
  simp only [World.cell?, h.blk]
  rcases o with _ | _ | _ | o <;> simp
theorem Rr.kept (h : Rr w g p n c l a bad) (hg : w.grownBy w' (some k)) (hn : NB w k) (hne : g ≠ k) : Rr w' g p n c l a bad :=
  ⟨by rw [hg.block g h.lt (fun e => hne (by cases e; rfl))]; exact h.blk, h.is.grown hg hn, h.nc, h.cm, h.al, h.pa⟩
theorem Rr.below (h : Rr w g p n c l a bad) (hb : Below w.heap.size w w') : Rr w' g p n c l a bad :=
  ⟨by rw [hb.block g h.lt]; exact h.blk, h.is.below hb, h.nc, h.cm, h.al, h.pa⟩
theorem Rr.heap (h : Rr w g p n c l a bad) (hb : Below w.heap.size w w') : Rr w' g p n c l a bad := h.below hb
theorem Rr.at (h : Rr w g p n c l a bad) (m : Nat) (v : Int) (hv : v = (m : Nat)) (hm : m ≤ n) : Rr (w.setCell ⟨g, 1, none⟩ (.int .i64 v)) g p n c l m bad := by
  subst hv
  exact ⟨set_block (o := 1) (v := .int .i64 (m : Nat)) h.blk, h.is.grown (set_grown _ _ _ _) h.nb, h.nc, h.cm, hm, h.pa⟩
theorem Rr.spoilt (h : Rr w g p n c l a bad) : Rr (w.setCell ⟨g, 2, none⟩ (.bool true)) g p n c l a true :=
  ⟨set_block (o := 2) (v := .bool true) h.blk, h.is.grown (set_grown _ _ _ _) h.nb, h.nc, h.cm, h.al, h.pa⟩
end
theorem drawn_below (w : World) (m : Nat) : Below w.heap.size w (w.drewN m) := ⟨rfl, rfl, rfl, Nat.le_refl _, fun _ _ => rfl⟩
theorem and_less (x : UInt8) : bits .and .u8 (x.toNat : Int) 127 = ((x.toNat % 128 : Nat) : Int) := by
  have h := x.toNat_lt
  have := u8_and_nat x.toNat 127 h (by omega)
  have key : ∀ n, n < 256 → n &&& 127 = n % 128 := by decide +kernel
  rw [key x.toNat h] at this
  exact this
theorem raw_bad_ret {x : Nat} (h : x = 0) : Ending.returned (.tuple #[.int .u64 0, .bool false]) = .returned (.tuple #[.int .u64 ((x : Nat) : Int), .bool false]) := by subst h; rfl
set_option maxRecDepth 100000 in
set_option maxHeartbeats 4000000 in
theorem raw_any (w : World) (g : Nat) (p : Option Addr) (n c : Nat) (l : List UInt8) (a : Nat) (bad : Bool) (h : Rr w g p n c l a bad) (hl : l.length ≤ 100000) :
    Calls Try.prog 75 #[.pointer (some ⟨g, 0, none⟩)] w fun e w' => (∃ (x : Nat) (ok : Bool) (a' : Nat), e = .returned (.tuple #[.int .u64 x, .bool ok]) ∧ x < C.lim ∧ Rr w' g p n c l a' bad ∧ (ok = true → C.raw (l.drop a) = some (x, a' - a) ∧ a ≤ a') ∧ (ok = false → C.raw (l.drop a) = none)) ∧ w.grownBy w' (some g) := by
  have H : Hid _ := h
  have hnl := h.is.1
  have HN : Hid (n = l.length) := hnl
  have hn' : n ≤ 100000 := by omega
  have hal := h.al
  clear h hnl
  go_enter Try.func75, Try.ntmps75
  go_wp2
  go_loopw [4, 5] (fun s i wr => ∃ (k acc : Nat), a + k ≤ n ∧ k ≤ 9 ∧ acc < 128 ^ k ∧ i = .int .i64 k ∧ s = .int .u64 acc ∧ C.raw (l.drop a) = C.rawAt k acc (l.drop (a + k)) ∧ Rr wr g p n c l a bad ∧ w.grownBy wr (some g)) (fun _ i _ => n - (intOf i).toNat)
  case atStart => exact ⟨0, 0, by omega, by omega, by simp, rfl, rfl, by simp [C.raw], H.out, World.grownBy.refl _ _⟩
  case round =>
    obtain ⟨k, acc, hk, hk9, ha, rfl, rfl, hr, hrr, hgw⟩ := hrel
    have h0 := hrr.c0
    have h1 := hrr.c1
    have f1 := hrr.fz 1
    have HR : Hid _ := hrr
    have HG : Hid _ := hgw
    clear hrr hgw
    have hd : decide ((k : Int) < 10) = true := by simp; omega
    by_cases hlt : a + k < n
    · have hd2 : decide ((a : Int) + (k : Int) < (n : Int)) = true := by simp; omega
      have hkl : a + k < l.length := by have := HN.out; omega
      obtain ⟨b, o, rfl, hc⟩ := HR.out.is.2.2 (show 0 < l.length by omega)
      have hck := hc (a + k) hkl
      have hdr : l.drop (a + k) = l.getD (a + k) 0 :: l.drop (a + (k + 1)) := by
        rw [List.drop_eq_getElem_cons hkl]; simp [List.getD, hkl, Nat.add_assoc]
      simp only at hck
      generalize l.getD (a + k) 0 = x at hck hdr
      rw [hdr] at hr
      have hx0 := x.toNat_lt
      have HRW : Hid (C.raw (l.drop a) = C.rawAt k acc (x :: l.drop (a + (k + 1)))) := hr
      have HAC : Hid (acc < 128 ^ k) := ha
      have HXL : Hid (x.toNat < 256) := hx0
      have hi1 : (0 : Int) ≤ (a : Int) + (k : Int) := by omega
      have hi2 : (a : Int) + (k : Int) < (n : Int) := by omega
      have hi3 : ((a : Int) + (k : Int)).toNat = a + k := by omega
      clear hc hr ha hdr hkl hx0
      by_cases hbad : k = 9 ∧ 1 < x.toNat
      · obtain ⟨rfl, hx1⟩ := hbad
        have hx1' : (1 : Int) < (x.toNat : Nat) := by omega
        go_wp2_with fail
        go_quiet (fail)
        go_wp2_with fail
        go_quiet (fail)
        go_wp2
        go_ret2
        refine ⟨⟨0, false, a, rfl, by decide, ?_, (fun h => by cases h), fun _ => HRW.out.trans (rawAt_none (Or.inl ⟨rfl, hx1⟩))⟩, ?_⟩
        · exact HR.out.below (drawn_below _ _)
        · exact gtrans HG.out (gbelow (drawn_below _ _))
      have hy := and_less x
      have hg := or_group k acc (x.toNat % 128) hk9 HAC.out (by omega) (fun h => by omega)
      have HQ : Hid (acc + x.toNat % 128 * 128 ^ k < 18446744073709551616) := hg.2.2
      generalize hyy : x.toNat % 128 = y at hy hg HQ
      have hy128 : y < 128 := by omega
      obtain ⟨hw2, hw3, _⟩ := hg
      generalize hz : y * 128 ^ k = z at hw2 hw3 HQ
      generalize hq : acc + z = q at hw3 HQ
      have HE : Hid (q = acc + x.toNat % 128 * 128 ^ k) := by show _ = _; rw [← hq, ← hz, hyy]
      clear hyy hz hq
      by_cases h128 : x.toNat < 128
      · have h128' : ((x.toNat : Nat) : Int) < 128 := by omega
        have HST : Hid (∀ (wq : World) (m : Int), Rr wq g (some ⟨b, o, none⟩) n c l a bad → m = ((a + k + 1 : Nat) : Int) → Rr (wq.setCell ⟨g, 1, none⟩ (.int .i64 m)) g (some ⟨b, o, none⟩) n c l (a + k + 1) bad) := fun wq m hq hm => hq.at (a + k + 1) m hm (by omega)
        by_cases h9 : k = 9
        · subst h9
          rw [two_pow_63] at hw2
          have hx1 : ((x.toNat : Nat) : Int) ≤ 1 := by omega
          by_cases h0 : x.toNat = 0
          · have hk0 : 0 < 9 := by omega
            have hy' : bits .and .u8 0 127 = (y : Int) := by have := hy; rw [h0] at this; exact this
            go_wp2_with fail
            go_quiet (fail)
            go_wp2_with fail
            go_quiet (fail)
            go_wp2
            go_ret2
            refine ⟨⟨q, false, a + 9 + 1, rfl, HQ.out, HST.out _ _ (HR.out.below (drawn_below _ _)) (by push_cast; rfl), (fun h => by cases h), (fun _ => HRW.out.trans (rawAt_none (Or.inr ⟨h0, hk0⟩)))⟩, gtrans HG.out (gtrans (gbelow (drawn_below _ _)) (set_grown _ _ _ _))⟩
          · have hx2 : (0 : Int) < ((x.toNat : Nat) : Int) := by omega
            go_wp2_with fail
            go_quiet (fail)
            go_wp2_with fail
            go_quiet (fail)
            go_wp2
            go_ret2
            refine ⟨⟨q, true, a + 9 + 1, rfl, HQ.out, HST.out _ _ (HR.out.below (drawn_below _ _)) (by push_cast; rfl), (fun _ => ⟨?_, by omega⟩), (fun h => by cases h)⟩, gtrans HG.out (gtrans (gbelow (drawn_below _ _)) (set_grown _ _ _ _))⟩
            rw [HRW.out, rawAt_last (by omega) (by omega) (by omega), HE.out]
            congr 2
            omega
        · have h9' : ¬ ((k : Int) = 9) := by omega
          by_cases h0 : x.toNat = 0
          · have hy' : bits .and .u8 0 127 = (y : Int) := by have := hy; rw [h0] at this; exact this
            by_cases hk0 : 0 < k
            · have hk0' : ((k : Int) == 0) = false := by simp; omega
              go_wp2_with fail
              go_quiet (fail)
              go_wp2_with fail
              go_quiet (fail)
              go_wp2
              go_ret2
              refine ⟨⟨q, false, a + k + 1, rfl, HQ.out, HST.out _ _ (HR.out.below (drawn_below _ _)) (by push_cast; rfl), (fun h => by cases h), (fun _ => HRW.out.trans (rawAt_none (Or.inr ⟨h0, hk0⟩)))⟩, gtrans HG.out (gtrans (gbelow (drawn_below _ _)) (set_grown _ _ _ _))⟩
            · have hk0' : ((k : Int) == 0) = true := by simp; omega
              have HK : Hid (k = 0) := by show _ = _; omega
              clear hk0
              go_wp2_with fail
              go_quiet (fail)
              go_wp2_with fail
              go_quiet (fail)
              go_wp2
              go_ret2
              refine ⟨⟨q, true, a + k + 1, rfl, HQ.out, HST.out _ _ (HR.out.below (drawn_below _ _)) (by push_cast; rfl), (fun _ => ⟨?_, by omega⟩), (fun h => by cases h)⟩, gtrans HG.out (gtrans (gbelow (drawn_below _ _)) (set_grown _ _ _ _))⟩
              rw [HRW.out, rawAt_last (by omega) (by omega) (fun _ => HK.out), HE.out]
              congr 2
              omega
          · have hx2 : (0 : Int) < ((x.toNat : Nat) : Int) := by omega
            go_wp2_with fail
            go_quiet (fail)
            go_wp2_with fail
            go_quiet (fail)
            go_wp2
            go_ret2
            refine ⟨⟨q, true, a + k + 1, rfl, HQ.out, HST.out _ _ (HR.out.below (drawn_below _ _)) (by push_cast; rfl), (fun _ => ⟨?_, by omega⟩), (fun h => by cases h)⟩, gtrans HG.out (gtrans (gbelow (drawn_below _ _)) (set_grown _ _ _ _))⟩
            rw [HRW.out, rawAt_last (by omega) (by omega) (by omega), HE.out]
            congr 2
            omega
      · have h128' : 128 ≤ ((x.toNat : Nat) : Int) := by omega
        have h9 : ¬ k = 9 := by omega
        have h9' : ¬ ((k : Int) = 9) := by omega
        go_wp2_with fail
        go_quiet (fail)
        go_wp2_with fail
        go_quiet (fail)
        go_wp2
        go_roundw
        case rel => exact ⟨k + 1, q, by omega, by omega, by rw [HE.out]; exact acc_lt HAC.out (by omega), by go_num, rfl, by rw [HRW.out, rawAt_more h9 (by omega), HE.out], HR.out.below (drawn_below _ _), gtrans HG.out (gbelow (drawn_below _ _))⟩
        case measure => simp [intOf]; omega
    · have hd2 : decide ((a : Int) + (k : Int) < (n : Int)) = false := by simp; omega
      have HRW : Hid _ := hr
      clear hr ha
      go_wp2_with fail
      go_quiet (fail)
      go_wp2
      go_ret2
      refine ⟨⟨0, false, a, rfl, by decide, HR.out.below (drawn_below _ _), (fun h => by cases h), (fun _ => ?_)⟩, gtrans HG.out (gbelow (drawn_below _ _))⟩
      rw [HRW.out, List.drop_of_length_le (by have := HN.out; omega)]; rfl
end Go.Proofs.Ytglmmhgmdhdleaa

namespace Go.Proofs.Ytglmmhgmdhdleaa
open Go.RowKit Go.Lib
set_option linter.unusedVariables false

theorem and_one (x : Nat) (h : x < C.lim) : bits .and .u64 (x : Int) 1 = ((x % 2 : Nat) : Int) := by
  have := u64_and_nat x 1 h (by omega)
  rw [Nat.and_one_is_mod] at this
  exact this
/-- What the document's Num tells, and where it stands then. -/
def RefNum (w' : World) (g : Nat) (p : Option Addr) (n c : Nat) (l : List UInt8) (a : Nat) (least most v : Int) : Prop :=
  (∃ a', Rr w' g p n c l a' false ∧ a ≤ a' ∧ C.fst (l.drop a) = (v, a' - a) ∧ a' - a ≠ 0 ∧ least ≤ v ∧ v ≤ most) ∨
  (v = 0 ∧ (∃ a', Rr w' g p n c l a' true) ∧ ((C.fst (l.drop a)).2 = 0 ∨ (C.fst (l.drop a)).1 < least ∨ most < (C.fst (l.drop a)).1))
theorem RefNum.good {w' : World} {g : Nat} {p : Option Addr} {n c : Nat} {l : List UInt8} {a a' x : Nat} {least most v : Int} (h : Rr w' g p n c l a' false) (hr : C.raw (l.drop a) = some (x, a' - a) ∧ a ≤ a') (hv : v = C.unzig x) (h1 : least ≤ v) (h2 : v ≤ most) : RefNum w' g p n c l a least most v := by
  refine Or.inl ⟨a', h, hr.2, ?_, ?_, h1, h2⟩
  · rw [fst_some hr.1, hv]
  · have := C.raw_lt hr.1; omega
theorem RefNum.none {w' : World} {g : Nat} {p : Option Addr} {n c : Nat} {l : List UInt8} {a a' : Nat} {least most : Int} (h : Rr w' g p n c l a' true) (hr : C.raw (l.drop a) = none) : RefNum w' g p n c l a least most 0 := by
  refine Or.inr ⟨rfl, ⟨a', h⟩, Or.inl ?_⟩
  rw [fst_none hr]
theorem RefNum.out {w' : World} {g : Nat} {p : Option Addr} {n c : Nat} {l : List UInt8} {a a' x : Nat} {least most v : Int} {b : Nat} (h : Rr w' g p n c l a' true) (hr : C.raw (l.drop a) = some (x, b)) (hv : v = C.unzig x) (h1 : v < least ∨ most < v) : RefNum w' g p n c l a least most 0 := by
  refine Or.inr ⟨rfl, ⟨a', h⟩, Or.inr ?_⟩
  rw [fst_some hr, ← hv]; exact h1
theorem unzig_even {x : Nat} (h : x % 2 = 0) : (x : Int) / 2 = C.unzig x := by unfold C.unzig; rw [if_pos h]; omega
theorem unzig_odd {x : Nat} (h : x % 2 = 1) : -1 - (x : Int) / 2 = C.unzig x := by unfold C.unzig; rw [if_neg (by omega)]; omega
set_option maxRecDepth 100000 in
set_option maxHeartbeats 8000000 in
theorem refrnum_walk (w : World) (g : Nat) (p : Option Addr) (n c : Nat) (l : List UInt8) (a : Nat) (least most : Int) (h : Rr w g p n c l a false) (hl : l.length ≤ 100000) :
    Calls Try.prog 58 #[.pointer (some ⟨g, 0, none⟩), .int .i64 least, .int .i64 most] w fun e w' => (∃ v, e = .returned (.int .i64 v) ∧ RefNum w' g p n c l a least most v) ∧ w.grownBy w' (some g) := by
  have h2 := h.c2
  have H : Hid _ := h
  clear h
  go_enter Try.func58, Try.ntmps58
  go_wp2_with fail
  refine (raw_any w g p n c l a false H.out hl).mono ?_
  rintro e w1 ⟨⟨x, ok, a', rfl, hx, hr1, hok, hno⟩, hg1⟩
  have h2 := hr1.c2
  have f2 := hr1.fz 2
  have HR1 : Hid _ := hr1
  have hand := and_one x hx
  have HOK : Hid _ := hok
  have HNO : Hid _ := hno
  have hx' : x < 18446744073709551616 := hx
  clear hx hr1 hok hno
  cases ok with
  | false =>
    clear hx' hand
    by_cases h1 : (bits .and .u64 (x : Int) 1 == 1) = true
    all_goals
      go_wp2
      go_ret
      exact ⟨⟨0, rfl, RefNum.none HR1.out.spoilt (HNO.out (by trivial))⟩, gtrans hg1 (set_grown _ _ _ _)⟩
  | true =>
    rcases Nat.mod_two_eq_zero_or_one x with hm | hm
    · rw [hm] at hand
      have HM : Hid (x % 2 = 0) := hm
      have hodd : (bits .and .u64 (x : Int) 1 == 1) = false := by rw [hand]; decide
      clear hand hm
      by_cases hva : (x : Int) / 2 < least
      · go_wp2
        go_ret
        exact ⟨⟨0, rfl, RefNum.out HR1.out.spoilt (HOK.out (by trivial)).1 (unzig_even HM.out) (Or.inl hva)⟩, gtrans hg1 (set_grown _ _ _ _)⟩
      by_cases hvb : most < (x : Int) / 2
      · go_wp2
        go_ret
        exact ⟨⟨0, rfl, RefNum.out HR1.out.spoilt (HOK.out (by trivial)).1 (unzig_even HM.out) (Or.inr hvb)⟩, gtrans hg1 (set_grown _ _ _ _)⟩
      go_wp2
      go_ret
      exact ⟨⟨_, rfl, RefNum.good HR1.out (HOK.out (by trivial)) (unzig_even HM.out) (by omega) (by omega)⟩, hg1⟩
    · rw [hm] at hand
      have HM : Hid (x % 2 = 1) := hm
      have hodd : (bits .and .u64 (x : Int) 1 == 1) = true := by rw [hand]; decide
      clear hand hm
      by_cases hva : -1 - (x : Int) / 2 < least
      · go_wp2
        go_ret
        exact ⟨⟨0, rfl, RefNum.out HR1.out.spoilt (HOK.out (by trivial)).1 (unzig_odd HM.out) (Or.inl hva)⟩, gtrans hg1 (set_grown _ _ _ _)⟩
      by_cases hvb : most < -1 - (x : Int) / 2
      · go_wp2
        go_ret
        exact ⟨⟨0, rfl, RefNum.out HR1.out.spoilt (HOK.out (by trivial)).1 (unzig_odd HM.out) (Or.inr hvb)⟩, gtrans hg1 (set_grown _ _ _ _)⟩
      go_wp2
      go_ret
      exact ⟨⟨_, rfl, RefNum.good HR1.out (HOK.out (by trivial)) (unzig_odd HM.out) (by omega) (by omega)⟩, hg1⟩
end Go.Proofs.Ytglmmhgmdhdleaa

namespace Go.Proofs.Ytglmmhgmdhdleaa
open Go.RowKit Go.Lib
set_option linter.unusedVariables false

/-- The document's reader at block g: none: it is bad. -/
def Rs (w : World) (g : Nat) (p : Option Addr) (n c : Nat) (l : List UInt8) (s : Option (List UInt8)) : Prop := ∃ a, Rr w g p n c l a s.isNone ∧ ∀ r, s = some r → r = l.drop a
section
variable {w w' : World} {g k : Nat} {p : Option Addr} {n c : Nat} {l : List UInt8} {s : Option (List UInt8)}
theorem Rs.nb (h : Rs w g p n c l s) : NB w g := by obtain ⟨a, h, _⟩ := h; exact h.nb
theorem Rs.lt (h : Rs w g p n c l s) : g < w.heap.size := by obtain ⟨a, h, _⟩ := h; exact h.lt
theorem Rs.kept (h : Rs w g p n c l s) (hg : w.grownBy w' (some k)) (hn : NB w k) (hne : g ≠ k) : Rs w' g p n c l s := by obtain ⟨a, h, h'⟩ := h; exact ⟨a, h.kept hg hn hne, h'⟩
theorem Rs.below (h : Rs w g p n c l s) (hb : Below w.heap.size w w') : Rs w' g p n c l s := by obtain ⟨a, h, h'⟩ := h; exact ⟨a, h.below hb, h'⟩
theorem Rs.len (h : Rs w g p n c l s) : (s.getD []).length ≤ l.length := by
  obtain ⟨a, h, h'⟩ := h
  cases s with
  | none => exact Nat.zero_le _
  | some r => rw [h' r rfl]; simp only [Option.getD_some, List.length_drop]; omega
end
theorem refrnum_any (w : World) (g : Nat) (p : Option Addr) (n c : Nat) (l : List UInt8) (s : Option (List UInt8)) (least most : Int) (h : Rs w g p n c l s) (hl : l.length ≤ 100000) :
    Calls Try.prog 58 #[.pointer (some ⟨g, 0, none⟩), .int .i64 least, .int .i64 most] w fun e w' => e = .returned (.int .i64 (C.rnum s least most).1) ∧ Rs w' g p n c l (C.rnum s least most).2 ∧ w.grownBy w' (some g) := by
  obtain ⟨a, h, hs⟩ := h
  cases s with
  | none =>
    have h2 : w.cell? ⟨g, 2, none⟩ = some (.bool true) := h.c2
    have H : Hid _ := h
    have HN : Hid (C.rnum none least most = (0, none)) := rfl
    clear h hs
    rw [HN.out]
    go_enter Try.func58, Try.ntmps58
    go_wp2
    go_ret
    exact ⟨rfl, ⟨a, H.out, fun r hr => by cases hr⟩, World.grownBy.refl _ _⟩
  | some r =>
    obtain rfl := hs r rfl
    refine (refrnum_walk w g p n c l a least most h hl).mono ?_
    rintro e w' ⟨⟨v, rfl, hv⟩, hg⟩
    rw [rnum_all]
    simp only [Option.getD_some]
    rcases hv with ⟨a', h1, h2, h3, h4, h5, h6⟩ | ⟨rfl, ⟨a', h1⟩, h2⟩
    · rw [h3, if_neg (by omega)]
      refine ⟨rfl, ⟨a', h1, fun r hr => ?_⟩, hg⟩
      simp only [Option.some.injEq] at hr
      rw [← hr, List.drop_drop]
      congr 1; omega
    · rw [if_pos h2]
      exact ⟨rfl, ⟨a', h1, fun r hr => by cases hr⟩, hg⟩
theorem refrnum_at (w : World) (g : Nat) (p : Option Addr) (n c : Nat) (l : List UInt8) (s s1 : Option (List UInt8)) (least most v : Int) (h : Rs w g p n c l s) (hl : l.length ≤ 100000) (hr : C.rnum s least most = (v, s1)) :
    Calls Try.prog 58 #[.pointer (some ⟨g, 0, none⟩), .int .i64 least, .int .i64 most] w fun e w' => e = .returned (.int .i64 v) ∧ Rs w' g p n c l s1 ∧ w.grownBy w' (some g) := by
  have := refrnum_any w g p n c l s least most h hl
  rw [hr] at this
  exact this
set_option maxHeartbeats 4000000 in
theorem refend_any (w : World) (g : Nat) (p : Option Addr) (n c : Nat) (l : List UInt8) (s : Option (List UInt8)) (h : Rs w g p n c l s) (hl : l.length ≤ 100000) :
    Calls Try.prog 28 #[.pointer (some ⟨g, 0, none⟩)] w fun e w' => e = .returned (.bool (s == some [])) ∧ Below w.heap.size w w' := by
  obtain ⟨a, h, hs⟩ := h
  have h0 := h.c0
  have h1 := h.c1
  have hn := h.is.1
  have hal := h.al
  cases s with
  | none =>
    have h2 : w.cell? ⟨g, 2, none⟩ = some (.bool true) := h.c2
    clear h hs hn
    go_enter Try.func28, Try.ntmps28
    go_wp2_with fail
    go_quiet (fail)
    go_wp2
    go_ret
    exact ⟨rfl, drawn_below _ _⟩
  | some r =>
    have h2 : w.cell? ⟨g, 2, none⟩ = some (.bool false) := h.c2
    have HE : Hid ((((a : Nat) : Int) == (n : Int)) = (some r == some [])) := by
      show _ = _
      rw [hs r rfl]
      by_cases hh : a = n
      · have : l.drop a = [] := List.drop_of_length_le (by omega)
        rw [this, hh]; simp
      · have : ¬ l.drop a = [] := fun h' => by have := congrArg List.length h'; simp only [List.length_drop, List.length_nil] at this; omega
        rw [beq_eq_false_iff_ne.2 (show ¬ ((a : Int) = (n : Int)) by omega)]
        symm
        rw [beq_eq_false_iff_ne]
        intro h'
        exact this (Option.some.inj h')
    clear h hs hn
    go_enter Try.func28, Try.ntmps28
    go_wp2_with fail
    go_quiet (fail)
    go_wp2
    go_ret
    exact ⟨ret_bool HE.out, drawn_below _ _⟩
end Go.Proofs.Ytglmmhgmdhdleaa

namespace Go.Proofs.Ytglmmhgmdhdleaa
open Go.RowKit Go.Lib
set_option linter.unusedVariables false

theorem refnum_at (pb : Option Addr) (nb cb : Nat) (lb l' : List UInt8) (v : Int) (w : World) (hb : Is w pb nb cb lb) (hv : C.fits v) (hl : lb.length ≤ 90000) (e : l' = lb ++ C.num v) :
    Calls Try.prog 55 #[.slice pb nb cb, .int .i64 v] w fun e w' => (∃ p n c, e = .returned (.slice p n c) ∧ Is w' p n c l') ∧ Below w.heap.size w w' := by
  subst e
  refine (refnum_any pb nb cb lb v w hb hv hl).mono ?_
  rintro e w' ⟨⟨x, rfl, ho⟩, hb⟩
  obtain ⟨p, n, c, rfl, hi⟩ := Own.is ho
  exact ⟨⟨p, n, c, rfl, hi⟩, hb⟩
set_option maxRecDepth 100000 in
set_option maxHeartbeats 8000000 in
theorem rput_any (pb : Option Addr) (nb cb : Nat) (lb : List UInt8) (a : V7) (w : World) (hb : Is w pb nb cb lb) (hv : C.fits7 a) (hl : lb.length ≤ 80000) :
    Calls Try.prog 56 #[.slice pb nb cb, a.v] w fun e w' => (∃ p n c, e = .returned (.slice p n c) ∧ Is w' p n c (lb ++ C.vbytes a)) ∧ Below w.heap.size w w' := by
  have HI0 : Hid (Is w pb nb cb lb) := hb
  obtain ⟨a0, a1, a2, a3, a4, a5, a6⟩ := a
  have HV : Hid _ := hv
  have N0 : Hid ((C.num a0).length ≤ 10) := (C.num_ten hv.1).2
  have N1 : Hid ((C.num a1).length ≤ 10) := (C.num_ten hv.2.1).2
  have N2 : Hid ((C.num a2).length ≤ 10) := (C.num_ten hv.2.2.1).2
  have N3 : Hid ((C.num a3).length ≤ 10) := (C.num_ten hv.2.2.2.1).2
  have N4 : Hid ((C.num a4).length ≤ 10) := (C.num_ten hv.2.2.2.2.1).2
  have N5 : Hid ((C.num a5).length ≤ 10) := (C.num_ten hv.2.2.2.2.2.1).2
  have N6 : Hid ((C.num a6).length ≤ 10) := (C.num_ten hv.2.2.2.2.2.2).2
  obtain ⟨l1, e1⟩ : ∃ l, l = lb ++ C.num a0 := ⟨_, rfl⟩
  obtain ⟨l2, e2⟩ : ∃ l, l = l1 ++ C.num a1 := ⟨_, rfl⟩
  obtain ⟨l3, e3⟩ : ∃ l, l = l2 ++ C.num a2 := ⟨_, rfl⟩
  obtain ⟨l4, e4⟩ : ∃ l, l = l3 ++ C.num a3 := ⟨_, rfl⟩
  obtain ⟨l5, e5⟩ : ∃ l, l = l4 ++ C.num a4 := ⟨_, rfl⟩
  obtain ⟨l6, e6⟩ : ∃ l, l = l5 ++ C.num a5 := ⟨_, rfl⟩
  obtain ⟨l7, e7⟩ : ∃ l, l = l6 ++ C.num a6 := ⟨_, rfl⟩
  have E : Hid (l7 = lb ++ C.vbytes ⟨a0, a1, a2, a3, a4, a5, a6⟩ ∧ l1.length ≤ 90000 ∧ l2.length ≤ 90000 ∧ l3.length ≤ 90000 ∧ l4.length ≤ 90000 ∧ l5.length ≤ 90000 ∧ l6.length ≤ 90000 ∧ lb.length ≤ 90000) := by
    have := N0.out; have := N1.out; have := N2.out; have := N3.out; have := N4.out; have := N5.out; have := N6.out
    refine ⟨?_, ?_, ?_, ?_, ?_, ?_, ?_, by omega⟩
    · subst e7 e6 e5 e4 e3 e2 e1; simp only [C.vbytes, List.append_assoc]
    all_goals (subst e7 e6 e5 e4 e3 e2 e1; simp only [List.length_append]; omega)
  rw [← E.out.1]
  have G1 : Hid _ := e1
  have G2 : Hid _ := e2
  have G3 : Hid _ := e3
  have G4 : Hid _ := e4
  have G5 : Hid _ := e5
  have G6 : Hid _ := e6
  have G7 : Hid _ := e7
  clear e1 e2 e3 e4 e5 e6 e7 N0 N1 N2 N3 N4 N5 N6 hb hv hl
  simp only [V7.v]
  go_enter Try.func56, Try.ntmps56
  go_wp2
  refine wp_loop_rounds 8 ?_
  rw [rounds_succ]
  go_wp2_with fail
  refine (refnum_at pb nb cb lb l1 a0 _ (HI0.out.below (below_new _ _)) HV.out.1 E.out.2.2.2.2.2.2.2 G1.out).mono ?_
  rintro x w1 ⟨⟨p1, n1, c1, rfl, hi1⟩, hb1⟩
  have HI1 : Hid _ := hi1
  have HQ1 : Hid (RB w1 w.heap.size ⟨a0, a1, a2, a3, a4, a5, a6⟩) := kept_block hb1
  have HB1 : Hid (Below w.heap.size w w1) := bt (below_new _ _) hb1
  obtain ⟨A0, A1, A2, A3, A4, A5, A6⟩ := box7 HQ1.out
  clear hi1 hb1
  go_wp2
  rw [rounds_succ]
  go_wp2_with fail
  refine (refnum_at p1 n1 c1 l1 l2 a1 _ HI1.out HV.out.2.1 E.out.2.1 G2.out).mono ?_
  rintro x w2 ⟨⟨p2, n2, c2, rfl, hi2⟩, hb2⟩
  have HI2 : Hid _ := hi2
  have HQ2 : Hid (RB w2 w.heap.size ⟨a0, a1, a2, a3, a4, a5, a6⟩) := HQ1.out.keep hb2
  have HB2 : Hid (Below w.heap.size w w2) := bt HB1.out hb2
  clear A0 A1 A2 A3 A4 A5 A6 hi2 hb2
  obtain ⟨A0, A1, A2, A3, A4, A5, A6⟩ := box7 HQ2.out
  go_wp2
  rw [rounds_succ]
  go_wp2_with fail
  refine (refnum_at p2 n2 c2 l2 l3 a2 _ HI2.out HV.out.2.2.1 E.out.2.2.1 G3.out).mono ?_
  rintro x w3 ⟨⟨p3, n3, c3, rfl, hi3⟩, hb3⟩
  have HI3 : Hid _ := hi3
  have HQ3 : Hid (RB w3 w.heap.size ⟨a0, a1, a2, a3, a4, a5, a6⟩) := HQ2.out.keep hb3
  have HB3 : Hid (Below w.heap.size w w3) := bt HB2.out hb3
  clear A0 A1 A2 A3 A4 A5 A6 hi3 hb3
  obtain ⟨A0, A1, A2, A3, A4, A5, A6⟩ := box7 HQ3.out
  go_wp2
  rw [rounds_succ]
  go_wp2_with fail
  refine (refnum_at p3 n3 c3 l3 l4 a3 _ HI3.out HV.out.2.2.2.1 E.out.2.2.2.1 G4.out).mono ?_
  rintro x w4 ⟨⟨p4, n4, c4, rfl, hi4⟩, hb4⟩
  have HI4 : Hid _ := hi4
  have HQ4 : Hid (RB w4 w.heap.size ⟨a0, a1, a2, a3, a4, a5, a6⟩) := HQ3.out.keep hb4
  have HB4 : Hid (Below w.heap.size w w4) := bt HB3.out hb4
  clear A0 A1 A2 A3 A4 A5 A6 hi4 hb4
  obtain ⟨A0, A1, A2, A3, A4, A5, A6⟩ := box7 HQ4.out
  go_wp2
  rw [rounds_succ]
  go_wp2_with fail
  refine (refnum_at p4 n4 c4 l4 l5 a4 _ HI4.out HV.out.2.2.2.2.1 E.out.2.2.2.2.1 G5.out).mono ?_
  rintro x w5 ⟨⟨p5, n5, c5, rfl, hi5⟩, hb5⟩
  have HI5 : Hid _ := hi5
  have HQ5 : Hid (RB w5 w.heap.size ⟨a0, a1, a2, a3, a4, a5, a6⟩) := HQ4.out.keep hb5
  have HB5 : Hid (Below w.heap.size w w5) := bt HB4.out hb5
  clear A0 A1 A2 A3 A4 A5 A6 hi5 hb5
  obtain ⟨A0, A1, A2, A3, A4, A5, A6⟩ := box7 HQ5.out
  go_wp2
  rw [rounds_succ]
  go_wp2_with fail
  refine (refnum_at p5 n5 c5 l5 l6 a5 _ HI5.out HV.out.2.2.2.2.2.1 E.out.2.2.2.2.2.1 G6.out).mono ?_
  rintro x w6 ⟨⟨p6, n6, c6, rfl, hi6⟩, hb6⟩
  have HI6 : Hid _ := hi6
  have HQ6 : Hid (RB w6 w.heap.size ⟨a0, a1, a2, a3, a4, a5, a6⟩) := HQ5.out.keep hb6
  have HB6 : Hid (Below w.heap.size w w6) := bt HB5.out hb6
  clear A0 A1 A2 A3 A4 A5 A6 hi6 hb6
  obtain ⟨A0, A1, A2, A3, A4, A5, A6⟩ := box7 HQ6.out
  go_wp2
  rw [rounds_succ]
  go_wp2_with fail
  refine (refnum_at p6 n6 c6 l6 l7 a6 _ HI6.out HV.out.2.2.2.2.2.2 E.out.2.2.2.2.2.2.1 G7.out).mono ?_
  rintro x w7 ⟨⟨p7, n7, c7, rfl, hi7⟩, hb7⟩
  have HI7 : Hid _ := hi7
  have HQ7 : Hid (RB w7 w.heap.size ⟨a0, a1, a2, a3, a4, a5, a6⟩) := HQ6.out.keep hb7
  have HB7 : Hid (Below w.heap.size w w7) := bt HB6.out hb7
  clear A0 A1 A2 A3 A4 A5 A6 hi7 hb7
  obtain ⟨A0, A1, A2, A3, A4, A5, A6⟩ := box7 HQ7.out
  go_wp2
  rw [rounds_succ]
  go_wp2
  go_ret
  exact ⟨⟨_, _, _, rfl, HI7.out⟩, HB7.out⟩
theorem rgrow_nb {w : World} {b : Nat} {v : V7} (h : RB w b v) : NB w b := nb7 h
theorem rlen' {s s' : Option (List UInt8)} {a b v : Int} (h : C.rnum s a b = (v, s')) (hl : (s.getD []).length ≤ 100000) : (s'.getD []).length ≤ 100000 := rnum_len' h hl
set_option maxRecDepth 100000 in
set_option maxHeartbeats 8000000 in
theorem rgetN_any (w : World) (g : Nat) (p : Option Addr) (n c : Nat) (l : List UInt8) (s s0 s1 s2 s3 s4 s5 s6 : Option (List UInt8)) (x0 x1 x2 x3 x4 x5 x6 : Int) (h : Rs w g p n c l s) (hl : l.length ≤ 100000)
    (h0 : C.rnum s 0 1099511627776 = (x0, s0)) (h1 : C.rnum s0 0 1099511627776 = (x1, s1)) (h2 : C.rnum s1 0 1099511627776 = (x2, s2)) (h3 : C.rnum s2 0 1099511627776 = (x3, s3)) (h4 : C.rnum s3 0 1099511627776 = (x4, s4)) (h5 : C.rnum s4 0 1099511627776 = (x5, s5)) (h6 : C.rnum s5 0 1099511627776 = (x6, s6)) :
    Calls Try.prog 57 #[.pointer (some ⟨g, 0, none⟩)] w fun e w' => e = .returned (if s6.isNone then zero7 else ⟨x0, x1, x2, x3, x4, x5, x6⟩ : V7).v ∧ Rs w' g p n c l s6 ∧ w.grownBy w' (some g) := by
  have HX : Hid (Rs w g p n c l s) := h
  have HG : Hid (g < w.heap.size) := h.lt
  have HL : Hid (l.length ≤ 100000) := hl
  have E0 : Hid _ := h0
  have E1 : Hid _ := h1
  have E2 : Hid _ := h2
  have E3 : Hid _ := h3
  have E4 : Hid _ := h4
  have E5 : Hid _ := h5
  have E6 : Hid _ := h6
  clear h hl h0 h1 h2 h3 h4 h5 h6
  go_enter Try.func57, Try.ntmps57
  go_wp2
  refine wp_loop_rounds 8 ?_
  rw [rounds_succ]
  go_wp2_with fail
  refine (refrnum_at _ g p n c l s s0 0 1099511627776 x0 (HX.out.below (bt (below_new _ _) (below_new _ _))) HL.out E0.out).mono ?_
  rintro x w0 ⟨rfl, hr0, hg0'⟩
  have hz0 : w0.heap[w.heap.size]? = some (.cells #[.int .i64 0, .int .i64 0, .int .i64 0, .int .i64 0, .int .i64 0, .int .i64 0, .int .i64 0] 40) := (hg0'.block _ (by simp <;> omega) (fun e => by have := HG.out; have := Option.some.inj e; omega)).trans (by rw [(below_new _ _).block _ (by simp)]; exact heap_alloc_new _ _)
  have hq0 : w0.heap[w.heap.size + 1]? = some (.cells #[.int .i64 0, .int .i64 0, .int .i64 0, .int .i64 0, .int .i64 0, .int .i64 0, .int .i64 0] 40) := (hg0'.block _ (by simp) (fun e => by have := HG.out; have := Option.some.inj e; omega)).trans (by have := heap_alloc_new (w.alloc (.cells #[.int .i64 0, .int .i64 0, .int .i64 0, .int .i64 0, .int .i64 0, .int .i64 0, .int .i64 0] 40)) (.cells #[.int .i64 0, .int .i64 0, .int .i64 0, .int .i64 0, .int .i64 0, .int .i64 0, .int .i64 0] 40); simpa using this)
  have hg0 : w.grownBy w0 (some g) := gtrans (gbelow (bt (below_new _ _) (below_new _ _))) hg0'
  clear hg0'
  have HR0 : Hid (Rs (w0.setCell ⟨w.heap.size + 1, 0, none⟩ (.int .i64 x0)) g p n c l s0) := hr0.kept (set_grown _ _ _ _) (nb7 hq0) (by have := HG.out; omega)
  have HZ0 : Hid _ := hz0
  have HQ0 : Hid _ := hq0
  have HGB0 : Hid _ := hg0
  have f0 := frozen_cells hq0 0
  have a0 := (box7 hq0).1
  clear hr0 hz0 hq0 hg0
  go_wp2
  rw [rounds_succ]
  go_wp2_with fail
  refine (refrnum_at _ g p n c l s0 s1 0 1099511627776 x1 HR0.out HL.out E1.out).mono ?_
  rintro x w1 ⟨rfl, hr1, hg1'⟩
  have hz1 : w1.heap[w.heap.size]? = some (.cells #[.int .i64 0, .int .i64 0, .int .i64 0, .int .i64 0, .int .i64 0, .int .i64 0, .int .i64 0] 40) := (hg1'.block _ (by rw [size_set]; exact (Array.getElem?_eq_some_iff.1 HZ0.out).1) (fun e => by have := HG.out; have := Option.some.inj e; omega)).trans ((Below.heap_setCell _ _ _ _ (by show w.heap.size ≠ w.heap.size + 1; omega)).trans HZ0.out)
  have hq1 : w1.heap[w.heap.size + 1]? = some (.cells #[.int .i64 x0, .int .i64 0, .int .i64 0, .int .i64 0, .int .i64 0, .int .i64 0, .int .i64 0] 40) := (hg1'.block _ (by rw [size_set]; exact (Array.getElem?_eq_some_iff.1 HQ0.out).1) (fun e => by have := HG.out; have := Option.some.inj e; omega)).trans (set_block HQ0.out)
  have hg1 : w.grownBy w1 (some g) := gtrans (grown_set HGB0.out (Nat.le_succ _)) hg1'
  clear hg1' f0 a0
  have HR1 : Hid (Rs (w1.setCell ⟨w.heap.size + 1, 1, none⟩ (.int .i64 x1)) g p n c l s1) := hr1.kept (set_grown _ _ _ _) (nb7 hq1) (by have := HG.out; omega)
  have HZ1 : Hid _ := hz1
  have HQ1 : Hid _ := hq1
  have HGB1 : Hid _ := hg1
  have f1 := frozen_cells hq1 1
  have a1 := (box7 hq1).2.1
  clear hr1 hz1 hq1 hg1
  go_wp2
  rw [rounds_succ]
  go_wp2_with fail
  refine (refrnum_at _ g p n c l s1 s2 0 1099511627776 x2 HR1.out HL.out E2.out).mono ?_
  rintro x w2 ⟨rfl, hr2, hg2'⟩
  have hz2 : w2.heap[w.heap.size]? = some (.cells #[.int .i64 0, .int .i64 0, .int .i64 0, .int .i64 0, .int .i64 0, .int .i64 0, .int .i64 0] 40) := (hg2'.block _ (by rw [size_set]; exact (Array.getElem?_eq_some_iff.1 HZ1.out).1) (fun e => by have := HG.out; have := Option.some.inj e; omega)).trans ((Below.heap_setCell _ _ _ _ (by show w.heap.size ≠ w.heap.size + 1; omega)).trans HZ1.out)
  have hq2 : w2.heap[w.heap.size + 1]? = some (.cells #[.int .i64 x0, .int .i64 x1, .int .i64 0, .int .i64 0, .int .i64 0, .int .i64 0, .int .i64 0] 40) := (hg2'.block _ (by rw [size_set]; exact (Array.getElem?_eq_some_iff.1 HQ1.out).1) (fun e => by have := HG.out; have := Option.some.inj e; omega)).trans (set_block HQ1.out)
  have hg2 : w.grownBy w2 (some g) := gtrans (grown_set HGB1.out (Nat.le_succ _)) hg2'
  clear hg2' f1 a1
  have HR2 : Hid (Rs (w2.setCell ⟨w.heap.size + 1, 2, none⟩ (.int .i64 x2)) g p n c l s2) := hr2.kept (set_grown _ _ _ _) (nb7 hq2) (by have := HG.out; omega)
  have HZ2 : Hid _ := hz2
  have HQ2 : Hid _ := hq2
  have HGB2 : Hid _ := hg2
  have f2 := frozen_cells hq2 2
  have a2 := (box7 hq2).2.2.1
  clear hr2 hz2 hq2 hg2
  go_wp2
  rw [rounds_succ]
  go_wp2_with fail
  refine (refrnum_at _ g p n c l s2 s3 0 1099511627776 x3 HR2.out HL.out E3.out).mono ?_
  rintro x w3 ⟨rfl, hr3, hg3'⟩
  have hz3 : w3.heap[w.heap.size]? = some (.cells #[.int .i64 0, .int .i64 0, .int .i64 0, .int .i64 0, .int .i64 0, .int .i64 0, .int .i64 0] 40) := (hg3'.block _ (by rw [size_set]; exact (Array.getElem?_eq_some_iff.1 HZ2.out).1) (fun e => by have := HG.out; have := Option.some.inj e; omega)).trans ((Below.heap_setCell _ _ _ _ (by show w.heap.size ≠ w.heap.size + 1; omega)).trans HZ2.out)
  have hq3 : w3.heap[w.heap.size + 1]? = some (.cells #[.int .i64 x0, .int .i64 x1, .int .i64 x2, .int .i64 0, .int .i64 0, .int .i64 0, .int .i64 0] 40) := (hg3'.block _ (by rw [size_set]; exact (Array.getElem?_eq_some_iff.1 HQ2.out).1) (fun e => by have := HG.out; have := Option.some.inj e; omega)).trans (set_block HQ2.out)
  have hg3 : w.grownBy w3 (some g) := gtrans (grown_set HGB2.out (Nat.le_succ _)) hg3'
  clear hg3' f2 a2
  have HR3 : Hid (Rs (w3.setCell ⟨w.heap.size + 1, 3, none⟩ (.int .i64 x3)) g p n c l s3) := hr3.kept (set_grown _ _ _ _) (nb7 hq3) (by have := HG.out; omega)
  have HZ3 : Hid _ := hz3
  have HQ3 : Hid _ := hq3
  have HGB3 : Hid _ := hg3
  have f3 := frozen_cells hq3 3
  have a3 := (box7 hq3).2.2.2.1
  clear hr3 hz3 hq3 hg3
  go_wp2
  rw [rounds_succ]
  go_wp2_with fail
  refine (refrnum_at _ g p n c l s3 s4 0 1099511627776 x4 HR3.out HL.out E4.out).mono ?_
  rintro x w4 ⟨rfl, hr4, hg4'⟩
  have hz4 : w4.heap[w.heap.size]? = some (.cells #[.int .i64 0, .int .i64 0, .int .i64 0, .int .i64 0, .int .i64 0, .int .i64 0, .int .i64 0] 40) := (hg4'.block _ (by rw [size_set]; exact (Array.getElem?_eq_some_iff.1 HZ3.out).1) (fun e => by have := HG.out; have := Option.some.inj e; omega)).trans ((Below.heap_setCell _ _ _ _ (by show w.heap.size ≠ w.heap.size + 1; omega)).trans HZ3.out)
  have hq4 : w4.heap[w.heap.size + 1]? = some (.cells #[.int .i64 x0, .int .i64 x1, .int .i64 x2, .int .i64 x3, .int .i64 0, .int .i64 0, .int .i64 0] 40) := (hg4'.block _ (by rw [size_set]; exact (Array.getElem?_eq_some_iff.1 HQ3.out).1) (fun e => by have := HG.out; have := Option.some.inj e; omega)).trans (set_block HQ3.out)
  have hg4 : w.grownBy w4 (some g) := gtrans (grown_set HGB3.out (Nat.le_succ _)) hg4'
  clear hg4' f3 a3
  have HR4 : Hid (Rs (w4.setCell ⟨w.heap.size + 1, 4, none⟩ (.int .i64 x4)) g p n c l s4) := hr4.kept (set_grown _ _ _ _) (nb7 hq4) (by have := HG.out; omega)
  have HZ4 : Hid _ := hz4
  have HQ4 : Hid _ := hq4
  have HGB4 : Hid _ := hg4
  have f4 := frozen_cells hq4 4
  have a4 := (box7 hq4).2.2.2.2.1
  clear hr4 hz4 hq4 hg4
  go_wp2
  rw [rounds_succ]
  go_wp2_with fail
  refine (refrnum_at _ g p n c l s4 s5 0 1099511627776 x5 HR4.out HL.out E5.out).mono ?_
  rintro x w5 ⟨rfl, hr5, hg5'⟩
  have hz5 : w5.heap[w.heap.size]? = some (.cells #[.int .i64 0, .int .i64 0, .int .i64 0, .int .i64 0, .int .i64 0, .int .i64 0, .int .i64 0] 40) := (hg5'.block _ (by rw [size_set]; exact (Array.getElem?_eq_some_iff.1 HZ4.out).1) (fun e => by have := HG.out; have := Option.some.inj e; omega)).trans ((Below.heap_setCell _ _ _ _ (by show w.heap.size ≠ w.heap.size + 1; omega)).trans HZ4.out)
  have hq5 : w5.heap[w.heap.size + 1]? = some (.cells #[.int .i64 x0, .int .i64 x1, .int .i64 x2, .int .i64 x3, .int .i64 x4, .int .i64 0, .int .i64 0] 40) := (hg5'.block _ (by rw [size_set]; exact (Array.getElem?_eq_some_iff.1 HQ4.out).1) (fun e => by have := HG.out; have := Option.some.inj e; omega)).trans (set_block HQ4.out)
  have hg5 : w.grownBy w5 (some g) := gtrans (grown_set HGB4.out (Nat.le_succ _)) hg5'
  clear hg5' f4 a4
  have HR5 : Hid (Rs (w5.setCell ⟨w.heap.size + 1, 5, none⟩ (.int .i64 x5)) g p n c l s5) := hr5.kept (set_grown _ _ _ _) (nb7 hq5) (by have := HG.out; omega)
  have HZ5 : Hid _ := hz5
  have HQ5 : Hid _ := hq5
  have HGB5 : Hid _ := hg5
  have f5 := frozen_cells hq5 5
  have a5 := (box7 hq5).2.2.2.2.2.1
  clear hr5 hz5 hq5 hg5
  go_wp2
  rw [rounds_succ]
  go_wp2_with fail
  refine (refrnum_at _ g p n c l s5 s6 0 1099511627776 x6 HR5.out HL.out E6.out).mono ?_
  rintro x w6 ⟨rfl, hr6, hg6'⟩
  have hz6 : w6.heap[w.heap.size]? = some (.cells #[.int .i64 0, .int .i64 0, .int .i64 0, .int .i64 0, .int .i64 0, .int .i64 0, .int .i64 0] 40) := (hg6'.block _ (by rw [size_set]; exact (Array.getElem?_eq_some_iff.1 HZ5.out).1) (fun e => by have := HG.out; have := Option.some.inj e; omega)).trans ((Below.heap_setCell _ _ _ _ (by show w.heap.size ≠ w.heap.size + 1; omega)).trans HZ5.out)
  have hq6 : w6.heap[w.heap.size + 1]? = some (.cells #[.int .i64 x0, .int .i64 x1, .int .i64 x2, .int .i64 x3, .int .i64 x4, .int .i64 x5, .int .i64 0] 40) := (hg6'.block _ (by rw [size_set]; exact (Array.getElem?_eq_some_iff.1 HQ5.out).1) (fun e => by have := HG.out; have := Option.some.inj e; omega)).trans (set_block HQ5.out)
  have hg6 : w.grownBy w6 (some g) := gtrans (grown_set HGB5.out (Nat.le_succ _)) hg6'
  clear hg6' f5 a5
  have HR6 : Hid (Rs (w6.setCell ⟨w.heap.size + 1, 6, none⟩ (.int .i64 x6)) g p n c l s6) := hr6.kept (set_grown _ _ _ _) (nb7 hq6) (by have := HG.out; omega)
  have HZ6 : Hid _ := hz6
  have HQ6 : Hid _ := hq6
  have HGB6 : Hid _ := hg6
  have f6 := frozen_cells hq6 6
  have a6 := (box7 hq6).2.2.2.2.2.2
  clear hr6 hz6 hq6 hg6
  have HW : Hid (∃ W, W = w6.setCell ⟨w.heap.size + 1, 6, none⟩ (.int .i64 x6) ∧ Rs W g p n c l s6 ∧ w.grownBy W (some g) ∧ W.heap[w.heap.size]? = some (.cells #[.int .i64 0, .int .i64 0, .int .i64 0, .int .i64 0, .int .i64 0, .int .i64 0, .int .i64 0] 40) ∧ W.heap[w.heap.size + 1]? = some (.cells #[.int .i64 x0, .int .i64 x1, .int .i64 x2, .int .i64 x3, .int .i64 x4, .int .i64 x5, .int .i64 x6] 40)) :=
    ⟨_, rfl, HR6.out, grown_set HGB6.out (Nat.le_succ _), (Below.heap_setCell _ _ _ _ (by show w.heap.size ≠ w.heap.size + 1; omega)).trans HZ6.out, set_block HQ6.out⟩
  clear HR6 HZ6 HQ6 HGB6 HR5 HZ5 HQ5 HGB5 HR4 HZ4 HQ4 HGB4 HR3 HZ3 HQ3 HGB3 HR2 HZ2 HQ2 HGB2 HR1 HZ1 HQ1 HGB1 HR0 HZ0 HQ0 HGB0
  obtain ⟨W, hWe, hR, hG, hZ, hQ⟩ := HW.out
  go_wp2
  rw [rounds_succ]
  rw [← hWe]
  clear f6 a6 hWe HW
  have HR : Hid _ := hR
  have HGW : Hid _ := hG
  obtain ⟨b0, b1, b2, b3, b4, b5, b6⟩ := box7 hZ
  obtain ⟨f0, f1, f2, f3, f4, f5, f6⟩ := frozen7 hZ
  obtain ⟨q0, q1, q2, q3, q4, q5, q6⟩ := box7 hQ
  have HNB : Hid (NB W w.heap.size) := nb7 hZ
  have HLT : Hid (g ≠ w.heap.size) := by have := HG.out; show ¬ _; omega
  clear hZ hQ hG
  cases s6 with
  | none =>
    obtain ⟨ai, hrr, hdr⟩ := hR
    clear hdr
    have k2 : W.cell? ⟨g, 2, none⟩ = some (.bool true) := hrr.c2
    clear hrr
    go_wp2
    refine bodyPost_ret (v := zero7.v) (by simp [results, Try.results57, go_sem, zero7, V7.v, *]) rfl ⟨rfl, ?_, ?_⟩
    · exact Rs.kept HR.out (sets7 _ _ _ _ _ _ _ _ _) HNB.out HLT.out
    · repeat' (refine grown_set ?_ (Nat.le_refl _))
      exact HGW.out
  | some r =>
    obtain ⟨ai, hrr, hdr⟩ := hR
    clear hdr
    have k2 : W.cell? ⟨g, 2, none⟩ = some (.bool false) := hrr.c2
    clear hrr
    go_wp2
    refine bodyPost_ret (v := (⟨x0, x1, x2, x3, x4, x5, x6⟩ : V7).v) (by simp [results, Try.results57, go_sem, V7.v, *]) rfl ⟨rfl, ?_, ?_⟩
    · exact Rs.kept HR.out (sets7 _ _ _ _ _ _ _ _ _) HNB.out HLT.out
    · repeat' (refine grown_set ?_ (Nat.le_refl _))
      exact HGW.out
theorem rget_any (w : World) (g : Nat) (p : Option Addr) (n c : Nat) (l : List UInt8) (s : Option (List UInt8)) (h : Rs w g p n c l s) (hl : l.length ≤ 100000) :
    Calls Try.prog 57 #[.pointer (some ⟨g, 0, none⟩)] w fun e w' => e = .returned (C.getV s).1.v ∧ Rs w' g p n c l (C.getV s).2 ∧ w.grownBy w' (some g) := by
  obtain ⟨x0, s0, h0⟩ : ∃ x s', C.rnum s 0 1099511627776 = (x, s') := ⟨_, _, rfl⟩
  obtain ⟨x1, s1, h1⟩ : ∃ x s', C.rnum s0 0 1099511627776 = (x, s') := ⟨_, _, rfl⟩
  obtain ⟨x2, s2, h2⟩ : ∃ x s', C.rnum s1 0 1099511627776 = (x, s') := ⟨_, _, rfl⟩
  obtain ⟨x3, s3, h3⟩ : ∃ x s', C.rnum s2 0 1099511627776 = (x, s') := ⟨_, _, rfl⟩
  obtain ⟨x4, s4, h4⟩ : ∃ x s', C.rnum s3 0 1099511627776 = (x, s') := ⟨_, _, rfl⟩
  obtain ⟨x5, s5, h5⟩ : ∃ x s', C.rnum s4 0 1099511627776 = (x, s') := ⟨_, _, rfl⟩
  obtain ⟨x6, s6, h6⟩ : ∃ x s', C.rnum s5 0 1099511627776 = (x, s') := ⟨_, _, rfl⟩
  rw [getV_eq h0 h1 h2 h3 h4 h5 h6]
  exact rgetN_any w g p n c l s s0 s1 s2 s3 s4 s5 s6 x0 x1 x2 x3 x4 x5 x6 h hl h0 h1 h2 h3 h4 h5 h6
theorem rget_at (w : World) (g : Nat) (p : Option Addr) (n c : Nat) (l : List UInt8) (s s1 : Option (List UInt8)) (v : V7) (h : Rs w g p n c l s) (hl : l.length ≤ 100000) (hv : C.getV s = (v, s1)) :
    Calls Try.prog 57 #[.pointer (some ⟨g, 0, none⟩)] w fun e w' => e = .returned v.v ∧ Rs w' g p n c l s1 ∧ w.grownBy w' (some g) := by
  have := rget_any w g p n c l s h hl
  rw [hv] at this
  exact this
end Go.Proofs.Ytglmmhgmdhdleaa

namespace Go.Proofs.Ytglmmhgmdhdleaa
open Go.RowKit Go.Lib
set_option linter.unusedVariables false

/-- What GetDots hands back. -/
def RGetRet (w w' : World) (g : Nat) (p : Option Addr) (n c : Nat) (l : List UInt8) (cv : V7) (R : List C.Dt × Option (List UInt8)) (e : Ending) : Prop :=
  ((R.2 = none ∨ ¬ LooseP cv R.1) ∧ e = .returned (.pointer none)) ∨
  (∃ r, R.2 = some r ∧ LooseP cv R.1 ∧ ∃ g2 v', e = .returned (.pointer (some ⟨g2, 0, none⟩)) ∧ RDAt w' g2 cv v' R.1 ∧ w.heap.size ≤ g2 ∧ Fresh w v' ∧ Rs w' g p n c l (some r))
theorem rs_keep {w W W' : World} {g : Nat} {p : Option Addr} {n c : Nat} {l : List UInt8} {s : Option (List UInt8)} (h0 : Is w p n c l) (hn : NB w g) (h : Rs W g p n c l s) (ht : Turn w W' (fun b => b = g)) (hb : W'.heap[g]? = W.heap[g]?) : Rs W' g p n c l s := by
  obtain ⟨a, hr, h'⟩ := h
  exact ⟨a, ⟨hb.trans hr.blk, is_turn h0 hn ht, hr.nc, hr.cm, hr.al, hr.pa⟩, h'⟩
theorem loose_add {cv : V7} {lk : List C.Dt} {a b : Int} (h : LooseP cv lk) (hm : C.may (a, b) = true) (hf : ¬ b ≤ C.at7 cv a.toNat + 1) (hl : ∀ j x, lk.length = j + 1 → lk[j]? = some x → C.dlt x (a, b) = true) : LooseP cv (lk ++ [(a, b)]) := by
  have hmx := (C.may_iff _).1 hm
  simp only at hmx
  refine ⟨List.pairwise_append.2 ⟨h.1, List.pairwise_singleton _ _, fun d hd e he => ?_⟩, fun d hd => ?_⟩
  · obtain rfl : e = (a, b) := by simpa using he
    obtain ⟨i, hi, e⟩ := List.getElem_of_mem hd
    obtain ⟨j, hj⟩ : ∃ j, lk.length = j + 1 := ⟨lk.length - 1, by omega⟩
    have hy : lk[j]? = some lk[j] := List.getElem?_eq_getElem (by omega)
    have hyx := hl j _ hj hy
    by_cases hij : i = j
    · subst hij; rw [← e]; exact hyx
    · have hp := List.pairwise_iff_getElem.1 h.1 i j hi (by omega) (by omega)
      rw [e] at hp
      exact C.dlt_trans hp hyx
  · rcases List.mem_append.1 hd with hd | hd
    · exact h.2 d hd
    · obtain rfl : d = (a, b) := by simpa using hd
      exact ⟨hmx.1, hmx.2.1, by simp only; omega, hmx.2.2.2⟩
theorem loose_far {cv : V7} {l : List C.Dt} {a b : Int} (h : LooseP cv l) (hd : (a, b) ∈ l) : ¬ b ≤ C.at7 cv a.toNat + 1 := by
  have := (h.2 _ hd).2.2.1
  simp only at this
  omega
theorem loose_up {cv : V7} {lk t : List C.Dt} {j : Nat} {x d : C.Dt} (h : LooseP cv (lk ++ d :: t)) (hx : lk[j]? = some x) : C.dlt x d = true :=
  (List.pairwise_append.1 h.1).2.2 x (List.mem_of_getElem? hx) d (List.mem_cons_self ..)
set_option maxRecDepth 100000 in
set_option maxHeartbeats 0 in
theorem rgetD_any (w : World) (g : Nat) (p : Option Addr) (n c : Nat) (l : List UInt8) (s : Option (List UInt8)) (h : Rs w g p n c l s) (hl : l.length ≤ 100000) (cv : V7) (s1 s2 : Option (List UInt8)) (m : Nat) (hv : C.getV s = (cv, s1)) (hm : C.rnum s1 0 1000 = ((m : Int), s2)) (hm1 : m ≤ 1000) (R : List C.Dt × Option (List UInt8)) (hR : C.rowR m s2 = R) :
    Calls Try.prog 27 #[.pointer (some ⟨g, 0, none⟩)] w fun e w' => RGetRet w w' g p n c l cv R e ∧ Turn w w' (fun b => b = g) := by
  have HR0 : Hid (Rs w g p n c l s) := h
  have HI0 : Hid (Is w p n c l) := by obtain ⟨a, ha, _⟩ := h; exact ha.is
  have HNB : Hid (NB w g) := h.nb
  have HL : Hid (l.length ≤ 100000) := hl
  have HGC : Hid (C.good cv = true) := C.getV_good hv
  have HGV : Hid (∀ W, Rs W g p n c l s → Calls Try.prog 57 #[.pointer (some ⟨g, 0, none⟩)] W fun e w' => e = .returned cv.v ∧ Rs w' g p n c l s1 ∧ W.grownBy w' (some g)) := fun W hW => rget_at W g p n c l s s1 cv hW hl hv
  have HNM : Hid (∀ W, Rs W g p n c l s1 → Calls Try.prog 58 #[.pointer (some ⟨g, 0, none⟩), .int .i64 0, .int .i64 1000] W fun e w' => e = .returned (.int .i64 (m : Int)) ∧ Rs w' g p n c l s2 ∧ W.grownBy w' (some g)) := fun W hW => refrnum_at W g p n c l s1 s2 0 1000 m hW hl hm
  have HR : Hid (R = ([] ++ (C.rowR m s2).1, (C.rowR m s2).2)) := by show R = _; rw [hR]; rfl
  have hgl := h.lt
  have HGL : Hid (g < w.heap.size) := hgl
  clear h hl hv hm hR hgl
  obtain ⟨x0, x1, x2, x3, x4, x5, x6⟩ := cv
  simp only [V7.v] at HGV
  go_enter Try.func27, Try.ntmps27
  go_wp2_with fail
  refine (HGV.out _ HR0.out).mono ?_
  rintro e w1 ⟨rfl, hr1, hg1⟩
  have HR1 : Hid (Rs w1 g p n c l s1) := hr1
  have HT1 : Hid (Turn w w1 (fun b => b = g)) := turn_g hg1
  clear hr1 hg1 HR0
  go_wp2_with fail
  refine (HNM.out _ (HR1.out.below (below_new w1 _))).mono ?_
  rintro e w2 ⟨rfl, hr2, hg2⟩
  have HR2 : Hid (Rs w2 g p n c l s2) := hr2
  have HT2 : Hid (Turn w w2 (fun b => b = g)) := (HT1.out.alloc _).trans (turn_g hg2) fun x hx => Or.inl hx
  have hs1 := HT1.out.size
  have hgl := HGL.out
  have HQT : Hid (w2.heap[w1.heap.size]? = some (.cells (cells8 ⟨x0, x1, x2, x3, x4, x5, x6⟩ (.slice none 0 0)) 42)) := by
    show _ = _
    have h1 := heap_alloc_new w1 (.cells (cells8 ⟨x0, x1, x2, x3, x4, x5, x6⟩ (.slice none 0 0)) 42)
    exact (hg2.block _ (Array.getElem?_eq_some_iff.1 h1).1 (fun e => by cases e; omega)).trans h1
  obtain ⟨gt, hgt⟩ : ∃ gt, w1.heap.size = gt := ⟨_, rfl⟩
  rw [hgt] at HQT hs1 ⊢
  have HGT : Hid (w.heap.size ≤ gt) := hs1
  have HDT : Hid (RDAt w2 gt ⟨x0, x1, x2, x3, x4, x5, x6⟩ (.slice none 0 0) []) := ⟨HQT.out, OwnD.nil _⟩
  clear hgt hs1 hgl hr2 hg2 HR1 HT1 HQT
  go_wp2_with fail
  go_loopw [5] (fun s5 wr => ∃ (k : Nat) (lk : List C.Dt) (sk : Option (List UInt8)) (vt : Value), s5 = .int .i64 k ∧ k ≤ m ∧ Hid (R = (lk ++ (C.rowR (m - k) sk).1, (C.rowR (m - k) sk).2)) ∧ Hid (k = lk.length) ∧ Hid (LooseP ⟨x0, x1, x2, x3, x4, x5, x6⟩ lk) ∧ Hid (RDAt wr gt ⟨x0, x1, x2, x3, x4, x5, x6⟩ vt lk) ∧ Hid (Fresh w vt) ∧ Hid (Rs wr g p n c l sk) ∧ Hid (Turn w wr (fun b => b = g))) (fun s5 _ => m - (intOf s5).toNat)
  case atStart => exact ⟨0, [], s2, _, rfl, Nat.zero_le _, HR.out, rfl, ⟨List.Pairwise.nil, fun d hd => (by cases hd)⟩, HDT.out, fun b hb => (by cases hb), HR2.out, HT2.out⟩
  case round =>
    clear HR2 HT2 HDT HR
    obtain ⟨k, lk, sk, vt, rfl, hkm, HK, HKL, HLO, HDT, HF, HRK, HT⟩ := hrel
    cases sk with
    | none =>
      have HN : Hid (R.2 = none) := by show _ = _; rw [HK.out]; exact C.rowR_none _
      obtain ⟨ai, hrr, hdr⟩ := HRK.out
      have k2 : wr.cell? ⟨g, 2, none⟩ = some (.bool true) := hrr.c2
      clear hrr hdr
      by_cases hlt : k < m
      · go_wp2
        go_ret
        exact ⟨Or.inl ⟨Or.inl HN.out, rfl⟩, HT.out⟩
      · go_wp2
        go_ret
        exact ⟨Or.inl ⟨Or.inl HN.out, rfl⟩, HT.out⟩
    | some rk =>
      obtain ⟨ai, hrr, hdr⟩ := HRK.out
      have k2 : wr.cell? ⟨g, 2, none⟩ = some (.bool false) := hrr.c2
      clear hrr hdr
      by_cases hlt : k < m
      · obtain ⟨a, sa, ha⟩ : ∃ a sa, C.rnum (some rk) 0 6 = (a, sa) := ⟨_, _, rfl⟩
        obtain ⟨b, sb, hb⟩ : ∃ b sb, C.rnum sa 1 1099511627776 = (b, sb) := ⟨_, _, rfl⟩
        have HA : Hid (C.rnum (some rk) 0 6 = (a, sa)) := ha
        have HBb : Hid (C.rnum sa 1 1099511627776 = (b, sb)) := hb
        have HST : Hid (C.rowR (m - k) (some rk) = ((a, b) :: (C.rowR (m - (k + 1)) sb).1, (C.rowR (m - (k + 1)) sb).2)) := rowR_step hlt ha hb
        have HMB : Hid (∀ rb, sb = some rb → C.may (a, b) = true) := fun rb e => by
          subst e
          cases sa with
          | none => rw [C.rnum_none] at hb; cases hb
          | some ra =>
            have h1 := C.rnum_in ha
            have h2 := C.rnum_in hb
            exact (C.may_iff _).2 ⟨h1.1, by simp only; omega, h2.1, h2.2⟩
        clear ha hb
        go_wp2_with fail
        refine (refrnum_at _ g p n c l (some rk) sa 0 6 a HRK.out HL.out HA.out).mono ?_
        rintro e w3 ⟨rfl, hr3, hg3⟩
        have HR3 : Hid (Rs w3 g p n c l sa) := hr3
        have hgl := HGL.out
        have hgt := HGT.out
        have HD3 : Hid (RDAt w3 gt ⟨x0, x1, x2, x3, x4, x5, x6⟩ vt lk) := HDT.out.same fun x hx => hg3.block x (HDT.out.lt hx) fun e => by
          rcases hx with rfl | hx
          · cases e; omega
          · have := HF.out x hx; cases e; omega
        have HT3 : Hid (Turn w w3 (fun b => b = g)) := HT.out.trans (turn_g hg3) fun x hx => Or.inl hx
        clear hr3 hg3 HRK HDT HT k2
        go_wp2_with fail
        refine (refrnum_at _ g p n c l sa sb 1 1099511627776 b HR3.out HL.out HBb.out).mono ?_
        rintro e w4 ⟨rfl, hr4, hg4⟩
        have HD4 : Hid (RDAt w4 gt ⟨x0, x1, x2, x3, x4, x5, x6⟩ vt lk) := HD3.out.same fun x hx => hg4.block x (HD3.out.lt hx) fun e => by
          rcases hx with rfl | hx
          · cases e; omega
          · have := HF.out x hx; cases e; omega
        have HT4 : Hid (Turn w w4 (fun b => b = g)) := HT3.out.trans (turn_g hg4) fun x hx => Or.inl hx
        have HR4 : Hid (Rs w4 g p n c l sb) := hr4
        clear hr4 hg4 HR3 HD3 HT3 hgl hgt
        obtain ⟨W5, hW5⟩ : ∃ W5, W5 = w4.alloc (.cells #[.int .i64 a, .int .i64 b] 29) := ⟨_, rfl⟩
        have HB5 : Hid (Below w4.heap.size w4 W5) := by show Below _ _ _; rw [hW5]; exact below_new _ _
        have HQ5 : Hid (W5.heap[w4.heap.size]? = some (.cells #[.int .i64 a, .int .i64 b] 29)) := by show _ = _; rw [hW5]; exact heap_alloc_new _ _
        have HD5 : Hid (RDAt W5 gt ⟨x0, x1, x2, x3, x4, x5, x6⟩ vt lk) := HD4.out.below HB5.out
        have HT5 : Hid (Turn w W5 (fun b => b = g)) := HT4.out.trans (Turn.of_below HB5.out) fun x hx => Or.inl hx
        have HR5 : Hid (Rs W5 g p n c l sb) := HR4.out.below HB5.out
        have HGD : Hid (gt < w4.heap.size ∧ w.heap.size ≤ w4.heap.size ∧ vt.ownBlock ≠ some w4.heap.size) := ⟨(Array.getElem?_eq_some_iff.1 HD4.out.blk).1, HT4.out.size, fun e => absurd (row_lt HD4.out.row e) (Nat.lt_irrefl _)⟩
        go_wp2_with fail
        rw [← hW5]
        obtain ⟨gd, hgd⟩ : ∃ gd, w4.heap.size = gd := ⟨_, rfl⟩
        rw [hgd] at HQ5 HGD ⊢
        clear hW5 hgd HB5 HD4 HT4 HR4
        have hne : Nonempty (NewW W5) := ⟨NewW.start W5⟩
        cases sb with
        | none =>
          have HN : Hid (R.2 = none) := by show _ = _; rw [HK.out, HST.out]; exact C.rowR_none _
          obtain ⟨ai, hrr, hdr⟩ := HR5.out
          have kb : ∀ t : NewW W5, t.v.cell? ⟨g, 2, none⟩ = some (.bool true) := fun t => (hrr.below t.h).c2
          have kf : ∀ t : NewW W5, t.v.frozen? ⟨g, 2, none⟩ = false := fun t => (hrr.below t.h).fz 2
          clear hrr hdr
          refine wp_region_new (by kernel_rfl) (by kernel_rfl) ?_
          repeat (go_big_quiet_step ((with_reducible rfl)))
          refine wpQuiet_nil ?_
          rintro _ ⟨w6, rfl⟩
          have k6 := kb w6
          have f6 := kf w6
          have HT6 : Hid (Turn w w6.v (fun b => b = g)) := HT5.out.trans (Turn.of_below w6.h) fun x hx => Or.inl hx
          clear kb kf hne
          go_wp2
          go_ret
          exact ⟨Or.inl ⟨Or.inl HN.out, rfl⟩, HT6.out.setCell (b := g) rfl _⟩
        | some rb =>
          have hmx := (C.may_iff (a, b)).1 (HMB.out rb rfl)
          simp only at hmx
          have HAL : Hid (C.may (a, b) = true → (¬ b ≤ C.at7 ⟨x0, x1, x2, x3, x4, x5, x6⟩ a.toNat + 1) → (∀ j x, lk.length = j + 1 → lk[j]? = some x → C.dlt x (a, b) = true) → LooseP ⟨x0, x1, x2, x3, x4, x5, x6⟩ (lk ++ [(a, b)])) := fun h1 h2 h3 => loose_add HLO.out h1 h2 h3
          have HRE : Hid (R = (lk ++ (a, b) :: (C.rowR (m - (k + 1)) (some rb)).1, (C.rowR (m - (k + 1)) (some rb)).2)) := by show R = _; rw [HK.out, HST.out]
          have HFA : Hid (LooseP ⟨x0, x1, x2, x3, x4, x5, x6⟩ R.1 → ¬ b ≤ C.at7 ⟨x0, x1, x2, x3, x4, x5, x6⟩ a.toNat + 1) := fun hh => by rw [HRE.out] at hh; exact loose_far hh (by simp)
          have HUP : Hid (∀ j x, lk[j]? = some x → LooseP ⟨x0, x1, x2, x3, x4, x5, x6⟩ R.1 → C.dlt x (a, b) = true) := fun j x hx hh => by rw [HRE.out] at hh; exact loose_up hh hx
          have HMAY := HMB.out rb rfl
          have HMA : Hid (C.may (a, b) = true) := HMAY
          have hga := C.good_at7 HGC.out a.toNat
          have hr7 : a.toNat < 7 := by omega
          have hrx : a = (a.toNat : Nat) := by omega
          clear HMAY HMB HST HA HBb HK
          generalize a.toNat = r at *
          subst hrx
          obtain ⟨y, hy⟩ : ∃ y, C.at7 ⟨x0, x1, x2, x3, x4, x5, x6⟩ r = y := ⟨_, rfl⟩
          rw [hy] at hga HAL HFA
          have hr7' : (r : Int) < 7 := by omega
          obtain ⟨ai, hrr, hdr⟩ := HR5.out
          have kb : ∀ t : NewW W5, t.v.cell? ⟨g, 2, none⟩ = some (.bool false) := fun t => (hrr.below t.h).c2
          have kf : ∀ t : NewW W5, t.v.frozen? ⟨g, 2, none⟩ = false := fun t => (hrr.below t.h).fz 2
          obtain ⟨q, cap, hv⟩ := HD5.out.row.len
          subst hv
          obtain ⟨HKN, hkn⟩ : ∃ _ : True, k = lk.length := ⟨trivial, HKL.out⟩
          rw [← hkn] at HD5 HF HGD
          clear hkn HKN
          have cr : ∀ t : NewW W5, t.v.cell? ⟨gt, r, none⟩ = some (.int .i64 y) := fun t => by rw [(held8 (HD5.out.below t.h).blk (Below.refl _ _) r).1, get_cells8 _ _ hr7, hy]
          have y7 : ∀ t : NewW W5, t.v.cell? ⟨gt, 7, none⟩ = some (.slice q k cap) := fun t => (held8 (HD5.out.below t.h).blk (Below.refl _ _) 7).1
          have z0 : ∀ t : NewW W5, t.v.cell? ⟨gd, 0, none⟩ = some (.int .i64 r) := fun t => (box2 (keep_on t.h HQ5.out)).1
          have z1 : ∀ t : NewW W5, t.v.cell? ⟨gd, 1, none⟩ = some (.int .i64 b) := fun t => (box2 (keep_on t.h HQ5.out)).2
          clear hrr hdr hy
          by_cases hle : b ≤ y + 1
          · have hdt : decide (b ≤ y + 1) = true := by simpa using hle
            refine wp_region_new (by kernel_rfl) (by kernel_rfl) ?_
            repeat (go_big_quiet_step ((with_reducible rfl)))
            refine wpQuiet_nil ?_
            rintro _ ⟨w6, rfl⟩
            have HNL : Hid (¬ LooseP ⟨x0, x1, x2, x3, x4, x5, x6⟩ R.1) := fun hh => HFA.out hh hle
            have k6 := kb w6
            have f6 := kf w6
            have HT6 : Hid (Turn w w6.v (fun b => b = g)) := HT5.out.trans (Turn.of_below w6.h) fun x hx => Or.inl hx
            clear kb kf hne cr y7 z0 z1
            go_wp2
            go_ret
            exact ⟨Or.inl ⟨Or.inr HNL.out, rfl⟩, HT6.out.setCell (b := g) rfl _⟩
          · have hdt : decide (b ≤ y + 1) = false := by simpa using hle
            rcases Nat.eq_zero_or_pos k with hk0 | hk0
            · subst hk0
              refine wp_region_new (by kernel_rfl) (by kernel_rfl) ?_
              repeat (go_big_quiet_step ((with_reducible rfl)))
              refine wpQuiet_nil ?_
              rintro _ ⟨w6, rfl⟩
              have HLN : Hid (LooseP ⟨x0, x1, x2, x3, x4, x5, x6⟩ (lk ++ [((r : Int), b)])) := HAL.out HMA.out hle fun j x hj _ => by have := HKL.out; omega
              have HB6 : Hid (Below W5.heap.size W5 w6.v) := w6.h
              obtain ⟨W6, hW6⟩ : ∃ W6, w6.v = W6 := ⟨_, rfl⟩
              rw [hW6] at HB6 ⊢
              clear hW6 w6 kb kf hne cr y7 z0 z1
              have HD6 : Hid (RDAt W6 gt ⟨x0, x1, x2, x3, x4, x5, x6⟩ (.slice q 0 cap) lk) := HD5.out.below HB6.out
              have HQ6 : Hid (W6.heap[gd]? = some (.cells #[.int .i64 r, .int .i64 b] 29)) := keep_on HB6.out HQ5.out
              have HT6 : Hid (Turn w W6 (fun b => b = g)) := HT5.out.trans (Turn.of_below HB6.out) fun x hx => Or.inl hx
              have HR6 : Hid (Rs W6 g p n c l (some rb)) := HR5.out.below HB6.out
              obtain ⟨k7, f7⟩ := held8 HD6.out.blk (Below.refl _ _) 7
              simp only [cells8_seven] at k7
              have k7a : ∀ ob, (W6.alloc ob).cell? ⟨gt, 7, none⟩ = some (.slice q 0 cap) := fun ob => (held8 HD6.out.blk (below_new W6 ob) 7).1
              obtain ⟨e0, e1⟩ := box2 HQ6.out
              have e0a : ∀ ob, (W6.alloc ob).cell? ⟨gd, 0, none⟩ = some (.int .i64 r) := fun ob => (box2 (keep_on (below_new W6 ob) HQ6.out)).1
              have e1a : ∀ ob, (W6.alloc ob).cell? ⟨gd, 1, none⟩ = some (.int .i64 b) := fun ob => (box2 (keep_on (below_new W6 ob) HQ6.out)).2
              have HBA : Hid (Below W6.heap.size W6 (W6.drew.alloc (.cells #[.int .i64 r, .int .i64 b] 29))) := bt ((Below.refl _ W6).drew) (below_new W6.drew _)
              have HROW : Hid (OwnD (W6.drew.alloc (.cells #[.int .i64 r, .int .i64 b] 29)) (.slice q 0 cap) lk) := HD6.out.row.below HBA.out
              have HSRC : Hid (SrcAt (W6.drew.alloc (.cells #[.int .i64 r, .int .i64 b] 29)) 2 (.slice (some ⟨W6.heap.size, 0, none⟩) 1 1) 1 (rowD [((r : Int), b)])) := two_src (heap_alloc_new W6.drew (.cells #[.int .i64 r, .int .i64 b] 29))
              have HFR : Hid (∀ W (v4 : Value), (W6.drew.alloc (.cells #[.int .i64 r, .int .i64 b] 29)).grownBy W (Value.slice q 0 cap).ownBlock → W.heap[gt]? = some (.cells (cells8 ⟨x0, x1, x2, x3, x4, x5, x6⟩ (.slice q 0 cap)) 42) ∧ W.heap[g]? = W6.heap[g]? ∧ W6.heap.size ≤ W.heap.size) := fun W v4 hg => by
                have hr := HD6.out.below HBA.out
                refine ⟨(hg.block gt (Array.getElem?_eq_some_iff.1 hr.blk).1 fun e => hr.apart e.symm).trans hr.blk, ?_, Nat.le_trans HBA.out.size hg.size⟩
                have hgl : g < W6.heap.size := HR6.out.lt
                rw [hg.block g (Nat.lt_of_lt_of_le hgl HBA.out.size) fun e => by have h1 := HF.out g e.symm; have h2 := HGL.out; omega]
                exact HBA.out.block g hgl
              have HKL1 : Hid (lk.length + 1 ≤ maxLen) := by have := HKL.out; show _ ≤ _; unfold maxLen; omega
              have HKL2 : Hid ((lk.length + 1) * 16 ≤ 140737488355328) := by have := HKL.out; show _ ≤ _; omega
              clear HD5 HQ5 HT5 HR5 HB6
              go_wp2_with fail
              go_region_law ((refine step_append_src u_dots info_dot rfl (by decide) (by rfl) _ _ (by rfl) (by rfl) HROW.out (by rfl) HSRC.out two_mem HKL1.out HKL2.out ?_; intro vb wb hrb hgb hlb; have HO4 : Hid (OwnD wb vb (lk ++ [((r : Int), b)])) := (by show OwnD _ _ _; unfold OwnD; rw [← rowD_append]; simpa using hrb); obtain ⟨q9, n9, c9, e9⟩ := HO4.out.slice; subst e9; obtain ⟨hgt2, hg2, hsz2⟩ := HFR.out wb (.slice q9 n9 c9) hgb; obtain ⟨k72, f72⟩ := held8 hgt2 (Below.refl _ _) 7; simp only [cells8_seven] at k72))
              all_goals
                have HG2 : Hid (wb.heap[g]? = W6.heap[g]?) := hg2
                have HQ2 : Hid (wb.heap[gt]? = some (.cells (cells8 ⟨x0, x1, x2, x3, x4, x5, x6⟩ (.slice q 0 cap)) 42)) := hgt2
                have HGB : Hid ((W6.drew.alloc (.cells #[.int .i64 r, .int .i64 b] 29)).grownBy wb (Value.slice q 0 cap).ownBlock) := hgb
                have HLB : Hid ((Value.slice q9 n9 c9).ownBlock = (Value.slice q 0 cap).ownBlock ∨ (Value.slice q9 n9 c9).ownBlock = some (W6.drew.alloc (.cells #[.int .i64 r, .int .i64 b] 29)).heap.size) := hlb
                clear hg2 hgt2 hgb hlb hrb hsz2 k72 f72 k7 f7 k7a e0 e1 e0a e1a
                go_wp2
                go_roundw
                case rel =>
                  have hgl : gt < W6.heap.size := (Array.getElem?_eq_some_iff.1 HD6.out.blk).1
                  have hgg := HGL.out
                  have hgtw := HGT.out
                  have hs6 := HT6.out.size
                  have hsa := HBA.out.size
                  have hng : ∀ x, (Value.slice q9 n9 c9).ownBlock = some x → x ≠ gt := fun x hx e => by
                    subst e
                    rcases HLB.out with hh | hh
                    · exact HD6.out.apart (hh.symm.trans hx)
                    · rw [hh] at hx; have := Option.some.inj hx; omega
                  have hfr : Fresh w (.slice q9 n9 c9) := fun x hx => by
                    rcases HLB.out with hh | hh
                    · exact HF.out x (hh.symm.trans hx)
                    · rw [hh] at hx; have := Option.some.inj hx; omega
                  have hT : Turn w (wb.setCell ⟨gt, 7, none⟩ (.slice q9 n9 c9)) (fun b => b = g) := by
                    have t1 := HT6.out.trans (Turn.of_below (S := fun b => b = g) HBA.out) fun x hx => Or.inl hx
                    have t2 := t1.trans (Turn.of_grown (S := fun x => (Value.slice q 0 cap).ownBlock = some x) HGB.out fun x hx => hx) fun x hx => Or.inr (HF.out x hx)
                    exact t2.trans (Turn.of_grown (S := fun x => x = gt) (set_grown wb gt 7 _) fun x hx => by cases hx; rfl) fun x hx => Or.inr (by omega)
                  refine ⟨1, lk ++ [((r : Int), b)], some rb, _, by go_num, by omega, ?_, ?_, HLN.out, ⟨?_, ?_⟩, hfr, ?_, hT⟩
                  · show R = _
                    rw [HRE.out]; simp
                  · show _ = _
                    rw [List.length_append, ← HKL.out]; rfl
                  · have h1 := set_block (o := 7) (v := .slice q9 n9 c9) HQ2.out
                    rw [set_loose8] at h1
                    exact h1
                  · exact HO4.out.same fun x hx => set_other (hng x hx)
                  · exact rs_keep HI0.out HNB.out HR6.out hT ((set_other (by omega)).trans HG2.out)
                case measure => simp [intOf]; omega
            · have hz : decide (0 < (k : Int)) = true := by simp; omega
              obtain ⟨j, hj⟩ : ∃ j, k = j + 1 := ⟨k - 1, by omega⟩
              have hix : (k : Int) - 1 = (j : Int) := by omega
              have hjk : (j : Int) < (k : Int) := by omega
              have HJ : Hid (k = j + 1) := hj
              obtain ⟨x, hx⟩ : ∃ x, lk[j]? = some x := ⟨_, List.getElem?_eq_getElem (by have := HKL.out; omega)⟩
              obtain ⟨gb, cap2, hvs⟩ := HD5.out.row.at (by have := HKL.out; omega)
              rw [← HKL.out] at hvs
              cases hvs
              clear hj
              obtain ⟨qb, hqb⟩ : ∃ qb, C.dlt x ((r : Int), b) = qb := ⟨_, rfl⟩
              have HLS : Hid (∀ W, Calls Try.prog 59 #[.agg #[.int .i64 x.1, .int .i64 x.2], .agg #[.int .i64 r, .int .i64 b]] W fun e w' => e = .returned (.bool qb) ∧ Below W.heap.size W w') := fun W => by rw [← hqb]; exact rless_any x.1 x.2 r b W
              have u0 : ∀ t : NewW W5, t.v.cell? ⟨gb, j * 2, none⟩ = some (.int .i64 x.1) := fun t => (OwnD.cell (HD5.out.below t.h).row j x hx).1
              have u1 : ∀ t : NewW W5, t.v.cell? ⟨gb, j * 2 + 1, none⟩ = some (.int .i64 x.2) := fun t => (OwnD.cell (HD5.out.below t.h).row j x hx).2
              cases qb with
              | false =>
                have HNL : Hid (¬ LooseP ⟨x0, x1, x2, x3, x4, x5, x6⟩ R.1) := fun hh => by have h1 := HUP.out j x hx hh; rw [hqb] at h1; cases h1
                clear hx hqb
                obtain ⟨d1, d2⟩ := x
                simp only at u0 u1 HLS
                refine wp_region_new (by kernel_rfl) (by kernel_rfl) ?_
                repeat (go_big_quiet_step ((first | (with_reducible rfl) | (with_reducible exact new_of (HLS.out _)))))
                refine wpQuiet_nil ?_
                rintro _ ⟨w6, rfl⟩
                have k6 := kb w6
                have f6 := kf w6
                have HT6 : Hid (Turn w w6.v (fun b => b = g)) := HT5.out.trans (Turn.of_below w6.h) fun x hx => Or.inl hx
                clear kb kf hne cr y7 z0 z1
                go_wp2
                go_ret
                exact ⟨Or.inl ⟨Or.inr HNL.out, rfl⟩, HT6.out.setCell (b := g) rfl _⟩
              | true =>
                have HLN : Hid (LooseP ⟨x0, x1, x2, x3, x4, x5, x6⟩ (lk ++ [((r : Int), b)])) := HAL.out HMA.out hle fun i z hi hz2 => by
                  obtain rfl : i = j := by have := HKL.out; have := HJ.out; omega
                  rw [hx] at hz2; cases hz2; exact hqb
                clear hx hqb
                obtain ⟨d1, d2⟩ := x
                simp only at u0 u1 HLS
                refine wp_region_new (by kernel_rfl) (by kernel_rfl) ?_
                repeat (go_big_quiet_step ((first | (with_reducible rfl) | (with_reducible exact new_of (HLS.out _)))))
                refine wpQuiet_nil ?_
                rintro _ ⟨w6, rfl⟩
                have HB6 : Hid (Below W5.heap.size W5 w6.v) := w6.h
                obtain ⟨W6, hW6⟩ : ∃ W6, w6.v = W6 := ⟨_, rfl⟩
                rw [hW6] at HB6 ⊢
                clear hW6 w6 kb kf hne cr y7 z0 z1 u0 u1 HLS
                have HD6 : Hid (RDAt W6 gt ⟨x0, x1, x2, x3, x4, x5, x6⟩ (.slice (some ⟨gb, 0, none⟩) k cap) lk) := HD5.out.below HB6.out
                have HQ6 : Hid (W6.heap[gd]? = some (.cells #[.int .i64 r, .int .i64 b] 29)) := keep_on HB6.out HQ5.out
                have HT6 : Hid (Turn w W6 (fun b => b = g)) := HT5.out.trans (Turn.of_below HB6.out) fun x hx => Or.inl hx
                have HR6 : Hid (Rs W6 g p n c l (some rb)) := HR5.out.below HB6.out
                obtain ⟨k7, f7⟩ := held8 HD6.out.blk (Below.refl _ _) 7
                simp only [cells8_seven] at k7
                have k7a : ∀ ob, (W6.alloc ob).cell? ⟨gt, 7, none⟩ = some (.slice (some ⟨gb, 0, none⟩) k cap) := fun ob => (held8 HD6.out.blk (below_new W6 ob) 7).1
                obtain ⟨e0, e1⟩ := box2 HQ6.out
                have e0a : ∀ ob, (W6.alloc ob).cell? ⟨gd, 0, none⟩ = some (.int .i64 r) := fun ob => (box2 (keep_on (below_new W6 ob) HQ6.out)).1
                have e1a : ∀ ob, (W6.alloc ob).cell? ⟨gd, 1, none⟩ = some (.int .i64 b) := fun ob => (box2 (keep_on (below_new W6 ob) HQ6.out)).2
                have HBA : Hid (Below W6.heap.size W6 (W6.drew.alloc (.cells #[.int .i64 r, .int .i64 b] 29))) := bt ((Below.refl _ W6).drew) (below_new W6.drew _)
                have HROW : Hid (OwnD (W6.drew.alloc (.cells #[.int .i64 r, .int .i64 b] 29)) (.slice (some ⟨gb, 0, none⟩) k cap) lk) := HD6.out.row.below HBA.out
                have HSRC : Hid (SrcAt (W6.drew.alloc (.cells #[.int .i64 r, .int .i64 b] 29)) 2 (.slice (some ⟨W6.heap.size, 0, none⟩) 1 1) 1 (rowD [((r : Int), b)])) := two_src (heap_alloc_new W6.drew (.cells #[.int .i64 r, .int .i64 b] 29))
                have HFR : Hid (∀ W (v4 : Value), (W6.drew.alloc (.cells #[.int .i64 r, .int .i64 b] 29)).grownBy W (Value.slice (some ⟨gb, 0, none⟩) k cap).ownBlock → W.heap[gt]? = some (.cells (cells8 ⟨x0, x1, x2, x3, x4, x5, x6⟩ (.slice (some ⟨gb, 0, none⟩) k cap)) 42) ∧ W.heap[g]? = W6.heap[g]? ∧ W6.heap.size ≤ W.heap.size) := fun W v4 hg => by
                  have hr := HD6.out.below HBA.out
                  refine ⟨(hg.block gt (Array.getElem?_eq_some_iff.1 hr.blk).1 fun e => hr.apart e.symm).trans hr.blk, ?_, Nat.le_trans HBA.out.size hg.size⟩
                  have hgl : g < W6.heap.size := HR6.out.lt
                  rw [hg.block g (Nat.lt_of_lt_of_le hgl HBA.out.size) fun e => by have h1 := HF.out g e.symm; have h2 := HGL.out; omega]
                  exact HBA.out.block g hgl
                have HKL1 : Hid (lk.length + 1 ≤ maxLen) := by have := HKL.out; show _ ≤ _; unfold maxLen; omega
                have HKL2 : Hid ((lk.length + 1) * 16 ≤ 140737488355328) := by have := HKL.out; show _ ≤ _; omega
                clear HD5 HQ5 HT5 HR5 HB6
                go_wp2_with fail
                go_region_law ((refine step_append_src u_dots info_dot rfl (by decide) (by rfl) _ _ (by rfl) (by rfl) HROW.out (by rfl) HSRC.out two_mem HKL1.out HKL2.out ?_; intro vb wb hrb hgb hlb; have HO4 : Hid (OwnD wb vb (lk ++ [((r : Int), b)])) := (by show OwnD _ _ _; unfold OwnD; rw [← rowD_append]; simpa using hrb); obtain ⟨q9, n9, c9, e9⟩ := HO4.out.slice; subst e9; obtain ⟨hgt2, hg2, hsz2⟩ := HFR.out wb (.slice q9 n9 c9) hgb; obtain ⟨k72, f72⟩ := held8 hgt2 (Below.refl _ _) 7; simp only [cells8_seven] at k72))
                all_goals
                  have HG2 : Hid (wb.heap[g]? = W6.heap[g]?) := hg2
                  have HQ2 : Hid (wb.heap[gt]? = some (.cells (cells8 ⟨x0, x1, x2, x3, x4, x5, x6⟩ (.slice (some ⟨gb, 0, none⟩) k cap)) 42)) := hgt2
                  have HGB : Hid ((W6.drew.alloc (.cells #[.int .i64 r, .int .i64 b] 29)).grownBy wb (Value.slice (some ⟨gb, 0, none⟩) k cap).ownBlock) := hgb
                  have HLB : Hid ((Value.slice q9 n9 c9).ownBlock = (Value.slice (some ⟨gb, 0, none⟩) k cap).ownBlock ∨ (Value.slice q9 n9 c9).ownBlock = some (W6.drew.alloc (.cells #[.int .i64 r, .int .i64 b] 29)).heap.size) := hlb
                  clear hg2 hgt2 hgb hlb hrb hsz2 k72 f72 k7 f7 k7a e0 e1 e0a e1a
                  go_wp2
                  go_roundw
                  case rel =>
                    have hgl : gt < W6.heap.size := (Array.getElem?_eq_some_iff.1 HD6.out.blk).1
                    have hgg := HGL.out
                    have hgtw := HGT.out
                    have hs6 := HT6.out.size
                    have hsa := HBA.out.size
                    have hng : ∀ x, (Value.slice q9 n9 c9).ownBlock = some x → x ≠ gt := fun x hx e => by
                      subst e
                      rcases HLB.out with hh | hh
                      · exact HD6.out.apart (hh.symm.trans hx)
                      · rw [hh] at hx; have := Option.some.inj hx; omega
                    have hfr : Fresh w (.slice q9 n9 c9) := fun x hx => by
                      rcases HLB.out with hh | hh
                      · exact HF.out x (hh.symm.trans hx)
                      · rw [hh] at hx; have := Option.some.inj hx; omega
                    have hT : Turn w (wb.setCell ⟨gt, 7, none⟩ (.slice q9 n9 c9)) (fun b => b = g) := by
                      have t1 := HT6.out.trans (Turn.of_below (S := fun b => b = g) HBA.out) fun x hx => Or.inl hx
                      have t2 := t1.trans (Turn.of_grown (S := fun x => (Value.slice (some ⟨gb, 0, none⟩) k cap).ownBlock = some x) HGB.out fun x hx => hx) fun x hx => Or.inr (HF.out x hx)
                      exact t2.trans (Turn.of_grown (S := fun x => x = gt) (set_grown wb gt 7 _) fun x hx => by cases hx; rfl) fun x hx => Or.inr (by omega)
                    refine ⟨k + 1, lk ++ [((r : Int), b)], some rb, _, by go_num, by omega, ?_, ?_, HLN.out, ⟨?_, ?_⟩, hfr, ?_, hT⟩
                    · show R = _
                      rw [HRE.out]; simp
                    · show _ = _
                      rw [List.length_append, ← HKL.out]; rfl
                    · have h1 := set_block (o := 7) (v := .slice q9 n9 c9) HQ2.out
                      rw [set_loose8] at h1
                      exact h1
                    · exact HO4.out.same fun x hx => set_other (hng x hx)
                    · exact rs_keep HI0.out HNB.out HR6.out hT ((set_other (by omega)).trans HG2.out)
                  case measure => simp [intOf]; omega
      · obtain rfl : k = m := by omega
        have HE : Hid (R = (lk, some rk)) := by
          show R = _
          rw [HK.out, Nat.sub_self]
          simp [C.rowR]
        go_wp2
        go_ret
        refine ⟨Or.inr ⟨rk, by rw [HE.out], by rw [HE.out]; exact HLO.out, gt, vt, rfl, by rw [HE.out]; exact HDT.out, HGT.out, HF.out, HRK.out⟩, HT.out⟩
end Go.Proofs.Ytglmmhgmdhdleaa

namespace Go.Proofs.Ytglmmhgmdhdleaa
open Go.RowKit Go.Lib
set_option linter.unusedVariables false

set_option maxRecDepth 100000 in
set_option maxHeartbeats 8000000 in
theorem rput_obj (w : World) (g : Nat) (c : V7) (v : Value) (l : List C.Dt) (pb : Option Addr) (nb cb : Nat) (lb : List UInt8) (h : RDAt w g c v l) (hs : C.Ds.Ok ⟨c, l⟩) (hl : l.length ≤ 1000) (hb : Is w pb nb cb lb) (hlb : lb.length ≤ 50000) :
    Calls Try.prog 26 #[.pointer (some ⟨g, 0, none⟩), .slice pb nb cb] w fun e w' => (∃ p n k, e = .returned (.slice p n k) ∧ Is w' p n k (lb ++ C.sbytes ⟨c, l⟩)) ∧ Below w.heap.size w w' := by
  have HD : Hid (RDAt w g c v l) := h
  have HBI : Hid (Is w pb nb cb lb) := hb
  have HF : Hid (C.fits7 c) := good_fits hs.good
  have HMY : Hid (∀ d ∈ l, C.may d = true) := fun d hd => C.far_may hs.good (hs.far d hd)
  obtain ⟨q, cp, hv⟩ := h.row.len
  subst hv
  obtain ⟨n, hn⟩ : ∃ n, n = l.length := ⟨_, rfl⟩
  have HN : Hid (n = l.length) := hn
  obtain ⟨lv, hlv⟩ : ∃ lv, lv = lb ++ C.vbytes c := ⟨_, rfl⟩
  obtain ⟨pre, hpre⟩ : ∃ pre, pre = lv ++ C.num (n : Nat) := ⟨_, rfl⟩
  have HP : Hid (pre = lv ++ C.num (n : Nat)) := hpre
  have HE : Hid (pre ++ C.dbytes l = lb ++ C.sbytes ⟨c, l⟩) := by
    show _ = _
    rw [hpre, hlv, hn]
    unfold C.sbytes
    simp only [List.append_assoc]
  have HLV : Hid (lv.length ≤ 50070) := by
    have h1 := C.vbytes_len HF.out
    show _ ≤ _
    rw [hlv, List.length_append]; omega
  have HPL : Hid (pre.length ≤ 50080) := by
    have h1 := (C.num_ten (show C.fits (n : Int) from ⟨by omega, by omega⟩)).2
    have h2 := HLV.out
    show _ ≤ _
    rw [hpre, List.length_append]; omega
  have HTK : Hid (∀ k, (pre ++ C.dbytes (l.take k)).length ≤ 80000) := fun k => by
    have h1 := C.dbytes_len (l.take k) fun d hd => HMY.out d (List.mem_of_mem_take hd)
    have h2 := HPL.out
    have h3 := List.length_take_le' k l
    rw [List.length_append]; omega
  have HSW : Hid (∀ w', Below w.heap.size w w' → w'.cell? ⟨g, 0, none⟩ = some (.int .i64 c.x0) ∧ w'.cell? ⟨g, 1, none⟩ = some (.int .i64 c.x1) ∧ w'.cell? ⟨g, 2, none⟩ = some (.int .i64 c.x2) ∧ w'.cell? ⟨g, 3, none⟩ = some (.int .i64 c.x3) ∧ w'.cell? ⟨g, 4, none⟩ = some (.int .i64 c.x4) ∧ w'.cell? ⟨g, 5, none⟩ = some (.int .i64 c.x5) ∧ w'.cell? ⟨g, 6, none⟩ = some (.int .i64 c.x6) ∧ w'.cell? ⟨g, 7, none⟩ = some (.slice q n cp)) := fun w' hb => by rw [hn]; exact cells8_at (HD.out.below hb).blk
  have HPV : Hid (∀ W, Below w.heap.size w W → Calls Try.prog 56 #[.slice pb nb cb, c.v] W fun e w' => (∃ p n k, e = .returned (.slice p n k) ∧ Is w' p n k lv) ∧ Below W.heap.size W w') := fun W hW => by rw [hlv]; exact rput_any pb nb cb lb c W (Is.below HBI.out hW) HF.out (by omega)
  clear h hs hb hpre hlb hlv
  rw [← hn] at hl
  clear hn
  obtain ⟨x0, x1, x2, x3, x4, x5, x6⟩ := c
  simp only [V7.v] at HPV
  simp only at HSW
  go_enter Try.func26, Try.ntmps26
  go_wp2_with fail
  have hne : Nonempty (NewW w) := ⟨NewW.start w⟩
  obtain ⟨a0, a1, a2, a3, a4, a5, a6, a7⟩ := cells8_all HD.out.blk
  rw [← HN.out] at a7
  simp only at a0 a1 a2 a3 a4 a5 a6
  have hC : ∃ m : NewW w, w.drew = m.v := ⟨⟨w.drew, (Below.refl _ w).drew⟩, rfl⟩
  refine wp_region_held_drew (S := fun w' => ∃ m : NewW w, w' = m.v) (by kernel_rfl) hC (fun _ => ?_)
  have hB : Below w.heap.size w w.drew := (Below.refl _ w).drew
  generalize hW0 : w.drew = W0 at *
  clear hW0
  refine takeList (i := 0) rfl (by kernel_rfl) (by kernel_rfl) (by kernel_rfl) (fun _ _ _ _ h => h) rfl rfl hC (fun K hK => ?_)
  go_big_quiet_op
  refine hK _ ?_
  clear hK K
  refine takeList (i := 1) rfl (by kernel_rfl) (by kernel_rfl) (by kernel_rfl) (fun _ _ _ _ h => h) rfl rfl hC (fun K hK => ?_)
  go_big_quiet_op
  refine hK _ ?_
  clear hK K
  refine takeNil (i := 2) rfl rfl rfl (by kernel_rfl) (by kernel_rfl) (by kernel_rfl) (fun _ _ _ _ h => h) rfl hC ?_
  go_simp
  refine takeList (i := 3) rfl (by kernel_rfl) (by kernel_rfl) (by kernel_rfl) (fun _ _ _ _ h => h) rfl rfl hC (fun K hK => ?_)
  go_big_quiet_op
  refine hK _ ?_
  clear hK K
  refine takeList (i := 4) rfl (by kernel_rfl) (by kernel_rfl) (by kernel_rfl) (fun _ _ _ _ h => h) rfl rfl hC (fun K hK => ?_)
  go_big_quiet_op
  refine hK _ ?_
  clear hK K
  refine takeList (i := 6) rfl (by kernel_rfl) (by kernel_rfl) (by kernel_rfl) (fun _ _ _ _ h => h) rfl rfl hC (fun K hK => ?_)
  go_big_quiet_op
  refine hK _ ?_
  clear hK K
  refine takeNil (i := 7) rfl rfl rfl (by kernel_rfl) (by kernel_rfl) (by kernel_rfl) (fun _ _ _ _ h => h) rfl hC ?_
  go_simp
  refine takeList (i := 8) rfl (by kernel_rfl) (by kernel_rfl) (by kernel_rfl) (fun _ _ _ _ h => h) rfl rfl hC (fun K hK => ?_)
  go_big_quiet_op
  refine hK _ ?_
  clear hK K
  refine takeList (i := 9) rfl (by kernel_rfl) (by kernel_rfl) (by kernel_rfl) (fun _ _ _ _ h => h) rfl rfl hC (fun K hK => ?_)
  go_big_quiet_op
  refine hK _ ?_
  clear hK K
  refine takeVal (i := 10) (.int .i64 (n : Int)) rfl (by kernel_rfl) (by kernel_rfl) (by kernel_rfl) (fun _ _ _ _ h => h) rfl hC (fun w' _ => by go_simp) ?_
  go_simp
  clear a0 a1 a2 a3 a4 a5 a6 a7
  refine callList (i := 5) rfl (by kernel_rfl) rfl (fun K hK => ?_)
  go_simp
  refine (HPV.out _ hB).mono ?_
  rintro e w1 ⟨⟨p1, n1, k1, rfl, hi1⟩, hb1⟩
  replace hB := bt hB hb1
  refine hK.out _ _ ⟨⟨_, hB⟩, rfl⟩ ?_
  go_simp
  clear hK K hC hb1
  have hC : ∃ m : NewW w, w1 = m.v := ⟨⟨_, hB⟩, rfl⟩
  refine callList (i := 11) rfl (by kernel_rfl) rfl (fun K hK => ?_)
  go_simp
  refine (refnum_at p1 n1 k1 _ pre (n : Int) _ hi1 (⟨by omega, by omega⟩) (by have := HLV.out; omega) HP.out).mono ?_
  rintro e w2 ⟨⟨p2, n2, k2, rfl, hi2⟩, hb2⟩
  have hB2 := bt hB hb2
  refine hK.out _ _ ⟨⟨_, hB2⟩, rfl⟩ ?_
  go_simp
  clear hK K hC hb2 hB hi1
  have hC : ∃ m : NewW w, w2 = m.v := ⟨⟨_, hB2⟩, rfl⟩
  refine takeList (i := 12) rfl (by kernel_rfl) (by kernel_rfl) (by kernel_rfl) (fun _ _ _ _ h => h) rfl rfl hC (fun K hK => ?_)
  go_big_quiet_op
  refine hK _ ?_
  clear hK K
  clear hC hne
  refine wpAnyH_done (by kernel_rfl) ?_ _
  have HB2 : Hid (Below w.heap.size w w2) := hB2
  have HI2 : Hid (Is w2 p2 n2 k2 (pre ++ C.dbytes (l.take 0))) := by show Is _ _ _ _ _; simpa [C.dbytes] using hi2
  clear hB2 hi2
  go_wp2_with fail
  go_loopw [1, 5] (fun s1 s5 wr => ∃ (k : Nat) (p : Option Addr) (m c : Nat), s1 = .slice p m c ∧ s5 = .int .i64 k ∧ k ≤ n ∧ Hid (Is wr p m c (pre ++ C.dbytes (l.take k))) ∧ Hid (Below w.heap.size w wr)) (fun _ s5 _ => n - (intOf s5).toNat)
  case atStart => exact ⟨0, _, _, _, rfl, rfl, Nat.zero_le _, HI2.out, HB2.out⟩
  case round =>
    clear HI2 HB2
    obtain ⟨k, p, m, c, rfl, rfl, hkn, HI, HB⟩ := hrel
    have y7 : wr.cell? ⟨g, 7, none⟩ = some (.slice q n cp) := (HSW.out _ HB.out).2.2.2.2.2.2.2
    by_cases hlt : k < n
    · obtain ⟨x, hx⟩ : ∃ x, l[k]? = some x := ⟨_, List.getElem?_eq_getElem (by have := HN.out; omega)⟩
      have hmx := HMY.out x (List.mem_of_getElem? hx)
      have HFX : Hid (C.fits x.1 ∧ C.fits x.2) := C.may_fits hmx
      obtain ⟨gb, cap, hvs⟩ := HD.out.row.at (by have := HN.out; omega)
      rw [← HN.out] at hvs
      cases hvs
      have HDN : Hid (C.dbytes (l.take (k + 1)) = C.dbytes (l.take k) ++ (C.num x.1 ++ C.num x.2)) := by show _ = _; rw [C.take_snoc hx, C.dbytes_snoc]
      obtain ⟨l0, e0⟩ : ∃ l0, l0 = pre ++ C.dbytes (l.take k) := ⟨_, rfl⟩
      obtain ⟨l1, e1⟩ : ∃ l1, l1 = l0 ++ C.num x.1 := ⟨_, rfl⟩
      obtain ⟨l2, e2⟩ : ∃ l2, l2 = l1 ++ C.num x.2 := ⟨_, rfl⟩
      have HL0 : Hid (l0.length ≤ 80000) := by show _ ≤ _; rw [e0]; exact HTK.out k
      have HL1 : Hid (l1.length ≤ 80010) := by have h1 := HL0.out; have h2 := (C.num_ten HFX.out.1).2; show _ ≤ _; rw [e1, List.length_append]; omega
      have HL2 : Hid (pre ++ C.dbytes (l.take (k + 1)) = l2) := by show _ = l2; rw [HDN.out, e2, e1, e0]; simp only [List.append_assoc]
      have E1 : Hid (l1 = l0 ++ C.num x.1) := e1
      have E2 : Hid (l2 = l1 ++ C.num x.2) := e2
      rw [← e0] at HI
      have HSD : Hid (∀ w', Below wr.heap.size wr w' → w'.cell? ⟨g, 7, none⟩ = some (.slice (some ⟨gb, 0, none⟩) n cp) ∧ w'.cell? ⟨gb, k * 2, none⟩ = some (.int .i64 x.1) ∧ w'.cell? ⟨gb, k * 2 + 1, none⟩ = some (.int .i64 x.2)) := fun w' hb => ⟨(HSW.out _ (bt HB.out hb)).2.2.2.2.2.2.2, OwnD.cell (HD.out.below (bt HB.out hb)).row k x hx⟩
      clear hx hmx e0 e1 e2
      obtain ⟨d1, d2⟩ := x
      simp only at HSD
      go_wp2_with fail
      have hne : Nonempty (NewW wr) := ⟨NewW.start wr⟩
      have e7 : ∀ m : NewW wr, m.v.cell? ⟨g, 7, none⟩ = some (.slice (some ⟨gb, 0, none⟩) n cp) := fun m => (HSD.out _ m.h).1
      have u0 : ∀ m : NewW wr, m.v.cell? ⟨gb, k * 2, none⟩ = some (.int .i64 d1) := fun m => (HSD.out _ m.h).2.1
      have u1 : ∀ m : NewW wr, m.v.cell? ⟨gb, k * 2 + 1, none⟩ = some (.int .i64 d2) := fun m => (HSD.out _ m.h).2.2
      clear y7
      have hC : ∃ m : NewW wr, wr.drew = m.v := ⟨⟨wr.drew, (Below.refl _ wr).drew⟩, rfl⟩
      refine wp_region_held_drew (S := fun w' => ∃ m : NewW wr, w' = m.v) (by kernel_rfl) hC (fun _ => ?_)
      have hB : Below wr.heap.size wr wr.drew := (Below.refl _ wr).drew
      generalize hW0 : wr.drew = W0 at *
      clear hW0
      refine takeList (i := 0) rfl (by kernel_rfl) (by kernel_rfl) (by kernel_rfl) (fun _ _ _ _ h => h) rfl rfl hC (fun K hK => ?_)
      go_big_quiet_op
      refine hK _ ?_
      clear hK K
      refine takeList (i := 1) rfl (by kernel_rfl) (by kernel_rfl) (by kernel_rfl) (fun _ _ _ _ h => h) rfl rfl hC (fun K hK => ?_)
      go_big_quiet_op
      refine hK _ ?_
      clear hK K
      refine takeNil (i := 2) rfl rfl rfl (by kernel_rfl) (by kernel_rfl) (by kernel_rfl) (fun _ _ _ _ h => h) rfl hC ?_
      go_simp
      refine takeList (i := 3) rfl (by kernel_rfl) (by kernel_rfl) (by kernel_rfl) (fun _ _ _ _ h => h) rfl rfl hC (fun K hK => ?_)
      go_big_quiet_op
      refine hK _ ?_
      clear hK K
      refine takeList (i := 4) rfl (by kernel_rfl) (by kernel_rfl) (by kernel_rfl) (fun _ _ _ _ h => h) rfl rfl hC (fun K hK => ?_)
      go_big_quiet_op
      refine hK _ ?_
      clear hK K
      refine takeList (i := 5) rfl (by kernel_rfl) (by kernel_rfl) (by kernel_rfl) (fun _ _ _ _ h => h) rfl rfl hC (fun K hK => ?_)
      go_big_quiet_op
      refine hK _ ?_
      clear hK K
      refine takeList (i := 6) rfl (by kernel_rfl) (by kernel_rfl) (by kernel_rfl) (fun _ _ _ _ h => h) rfl rfl hC (fun K hK => ?_)
      go_big_quiet_op
      refine hK _ ?_
      clear hK K
      refine takeList (i := 7) rfl (by kernel_rfl) (by kernel_rfl) (by kernel_rfl) (fun _ _ _ _ h => h) rfl rfl hC (fun K hK => ?_)
      go_big_quiet_op
      refine hK _ ?_
      clear hK K
      refine takeList (i := 8) rfl (by kernel_rfl) (by kernel_rfl) (by kernel_rfl) (fun _ _ _ _ h => h) rfl rfl hC (fun K hK => ?_)
      go_big_quiet_op
      refine hK _ ?_
      clear hK K
      refine takeList (i := 10) rfl (by kernel_rfl) (by kernel_rfl) (by kernel_rfl) (fun _ _ _ _ h => h) rfl rfl hC (fun K hK => ?_)
      go_big_quiet_op
      refine hK _ ?_
      clear hK K
      refine takeNil (i := 11) rfl rfl rfl (by kernel_rfl) (by kernel_rfl) (by kernel_rfl) (fun _ _ _ _ h => h) rfl hC ?_
      go_simp
      refine takeList (i := 12) rfl (by kernel_rfl) (by kernel_rfl) (by kernel_rfl) (fun _ _ _ _ h => h) rfl rfl hC (fun K hK => ?_)
      go_big_quiet_op
      refine hK _ ?_
      clear hK K
      refine takeList (i := 13) rfl (by kernel_rfl) (by kernel_rfl) (by kernel_rfl) (fun _ _ _ _ h => h) rfl rfl hC (fun K hK => ?_)
      go_big_quiet_op
      refine hK _ ?_
      clear hK K
      refine takeList (i := 14) rfl (by kernel_rfl) (by kernel_rfl) (by kernel_rfl) (fun _ _ _ _ h => h) rfl rfl hC (fun K hK => ?_)
      go_big_quiet_op
      refine hK _ ?_
      clear hK K
      refine takeList (i := 15) rfl (by kernel_rfl) (by kernel_rfl) (by kernel_rfl) (fun _ _ _ _ h => h) rfl rfl hC (fun K hK => ?_)
      go_big_quiet_op
      refine hK _ ?_
      clear hK K
      refine takeList (i := 16) rfl (by kernel_rfl) (by kernel_rfl) (by kernel_rfl) (fun _ _ _ _ h => h) rfl rfl hC (fun K hK => ?_)
      go_big_quiet_op
      refine hK _ ?_
      clear hK K
      refine takeList (i := 17) rfl (by kernel_rfl) (by kernel_rfl) (by kernel_rfl) (fun _ _ _ _ h => h) rfl rfl hC (fun K hK => ?_)
      go_big_quiet_op
      refine hK _ ?_
      clear hK K
      clear e7 u0 u1
      refine callList (i := 9) rfl (by kernel_rfl) rfl (fun K hK => ?_)
      go_simp
      refine (refnum_at p m c l0 l1 d1 _ (Is.below HI.out hB) HFX.out.1 (by have := HL0.out; omega) E1.out).mono ?_
      rintro e w3 ⟨⟨p3, n3, k3, rfl, hi3⟩, hb3⟩
      replace hB := bt hB hb3
      refine hK.out _ _ ⟨⟨_, hB⟩, rfl⟩ ?_
      go_simp
      clear hK K hC hb3
      have hC : ∃ m : NewW wr, w3 = m.v := ⟨⟨_, hB⟩, rfl⟩
      refine callList (i := 18) rfl (by kernel_rfl) rfl (fun K hK => ?_)
      go_simp
      refine (refnum_at p3 n3 k3 l1 l2 d2 _ hi3 HFX.out.2 (by have := HL1.out; omega) E2.out).mono ?_
      rintro e w4 ⟨⟨p4, n4, k4, rfl, hi4⟩, hb4⟩
      have hB4 := bt hB hb4
      refine hK.out _ _ ⟨⟨_, hB4⟩, rfl⟩ ?_
      go_simp
      clear hK K hC hb4 hB hi3
      have hC : ∃ m : NewW wr, w4 = m.v := ⟨⟨_, hB4⟩, rfl⟩
      refine takeList (i := 19) rfl (by kernel_rfl) (by kernel_rfl) (by kernel_rfl) (fun _ _ _ _ h => h) rfl rfl hC (fun K hK => ?_)
      go_big_quiet_op
      refine hK _ ?_
      clear hK K
      clear hC hne
      refine wpAnyH_done (by kernel_rfl) ?_ _
      have HI4 : Hid (Is w4 p4 n4 k4 l2) := hi4
      have HB4 : Hid (Below w.heap.size w w4) := bt HB.out hB4
      clear hi4 hB4
      go_wp2
      go_roundw
      case rel => exact ⟨k + 1, _, _, _, rfl, by go_num, by omega, by show Is _ _ _ _ _; rw [HL2.out]; exact HI4.out, HB4.out⟩
      case measure => simp [intOf]; omega
    · obtain rfl : k = n := by omega
      have htk : l.take k = l := List.take_of_length_le (by have := HN.out; omega)
      rw [htk, HE.out] at HI
      clear htk
      go_wp2
      go_ret
      exact ⟨⟨_, _, _, rfl, HI.out⟩, HB.out⟩
end Go.Proofs.Ytglmmhgmdhdleaa

namespace Go.Proofs.Ytglmmhgmdhdleaa
open Go.RowKit Go.Lib

theorem getV_bytes {a : V7} (h : C.good a = true) (r : List UInt8) : C.getV (some (C.vbytes a ++ r)) = (a, some r) := by
  have hg := (C.good_iff a).1 h
  obtain ⟨x0, x1, x2, x3, x4, x5, x6⟩ := a
  simp only at hg
  have f : ∀ x : Int, 0 ≤ x ∧ x ≤ 1099511627776 → C.fits x := fun x hx => ⟨by omega, by omega⟩
  have n : ∀ (x : Int) (l : List UInt8), 0 ≤ x ∧ x ≤ 1099511627776 → C.rnum (some (C.num x ++ l)) 0 1099511627776 = (x, some l) := fun x l hx => C.rnum_num (f x hx) hx.1 hx.2 l
  simp only [C.vbytes, List.append_assoc]
  rw [getV_eq (n x0 _ hg.1) (n x1 _ hg.2.1) (n x2 _ hg.2.2.1) (n x3 _ hg.2.2.2.1) (n x4 _ hg.2.2.2.2.1) (n x5 _ hg.2.2.2.2.2.1) (n x6 _ hg.2.2.2.2.2.2)]
  rfl
theorem vbytes_inj {a b : V7} (ha : C.good a = true) (hb : C.good b = true) (h : C.vbytes a = C.vbytes b) : a = b := by
  have h1 := getV_bytes ha []
  have h2 := getV_bytes hb []
  rw [h, h2] at h1
  exact (Prod.mk.inj h1).1.symm
theorem vbytes_len {a : V7} (h : C.fits7 a) : (C.vbytes a).length ≤ 70 := by
  have := (C.num_ten h.1).2
  have := (C.num_ten h.2.1).2
  have := (C.num_ten h.2.2.1).2
  have := (C.num_ten h.2.2.2.1).2
  have := (C.num_ten h.2.2.2.2.1).2
  have := (C.num_ten h.2.2.2.2.2.1).2
  have := (C.num_ten h.2.2.2.2.2.2).2
  simp only [C.vbytes, List.length_append]
  omega
end Go.Proofs.Ytglmmhgmdhdleaa

namespace Go.Proofs.Ytglmmhgmdhdleaa
open Go.RowKit Go.Lib
set_option linter.unusedVariables false

namespace C
theorem rowR_bytes : ∀ (l : List Dt) (r : List UInt8), (∀ d ∈ l, may d = true) → rowR l.length (some (dbytes l ++ r)) = (l, some r)
  | [], r, _ => rfl
  | d :: t, r, h => by
    have hm := h d (List.mem_cons_self ..)
    have hx := (may_iff d).1 hm
    obtain ⟨f1, f2⟩ := may_fits hm
    have e : dbytes (d :: t) ++ r = num d.1 ++ (num d.2 ++ (dbytes t ++ r)) := by simp [dbytes, List.append_assoc]
    have e1 : rnum (some (num d.1 ++ (num d.2 ++ (dbytes t ++ r)))) 0 6 = (d.1, some (num d.2 ++ (dbytes t ++ r))) := rnum_num f1 (by omega) (by omega) _
    have e2 : rnum (some (num d.2 ++ (dbytes t ++ r))) 1 1099511627776 = (d.2, some (dbytes t ++ r)) := rnum_num f2 (by omega) (by omega) _
    have e4 : ∀ s0, rowR (t.length + 1) s0 = (((rnum s0 0 6).1, (rnum (rnum s0 0 6).2 1 1099511627776).1) :: (rowR t.length (rnum (rnum s0 0 6).2 1 1099511627776).2).1, (rowR t.length (rnum (rnum s0 0 6).2 1 1099511627776).2).2) := fun _ => rfl
    rw [e, List.length_cons, e4, e1]
    simp only [e2, rowR_bytes t r fun x hx => h x (List.mem_cons_of_mem _ hx)]
theorem num_back {S : Ds} (hl : S.l.length ≤ 1000) : rnum (some (num (S.l.length : Nat) ++ dbytes S.l)) 0 1000 = (((S.l.length : Nat) : Int), some (dbytes S.l)) := rnum_num (show fits ((S.l.length : Nat) : Int) from ⟨by omega, by omega⟩) (by omega) (by omega) _
theorem row_back {S : Ds} (h : S.Ok) : rowR S.l.length (some (dbytes S.l)) = (S.l, some []) := by
  have := rowR_bytes S.l [] fun d hd => far_may h.good (h.far d hd)
  simpa using this
theorem sbytes_len {S : Ds} (h : S.Ok) (hl : S.l.length ≤ 1000) : (sbytes S).length ≤ 30000 ∧ (num (S.l.length : Nat) ++ dbytes S.l).length ≤ 30000 := by
  have h1 := vbytes_len (good_fits h.good)
  have h2 := (num_ten (show fits ((S.l.length : Nat) : Int) from ⟨by omega, by omega⟩)).2
  have h3 := dbytes_len S.l fun d hd => far_may h.good (h.far d hd)
  unfold sbytes
  simp only [List.length_append]
  omega
theorem getV_len {s s1 : Option (List UInt8)} {cv : V7} (h : getV s = (cv, s1)) (hl : (s.getD []).length ≤ 100000) : (s1.getD []).length ≤ 100000 := by
  obtain ⟨x0, s0, h0⟩ : ∃ x s', rnum s 0 1099511627776 = (x, s') := ⟨_, _, rfl⟩
  obtain ⟨x1, t1, h1⟩ : ∃ x s', rnum s0 0 1099511627776 = (x, s') := ⟨_, _, rfl⟩
  obtain ⟨x2, t2, h2⟩ : ∃ x s', rnum t1 0 1099511627776 = (x, s') := ⟨_, _, rfl⟩
  obtain ⟨x3, t3, h3⟩ : ∃ x s', rnum t2 0 1099511627776 = (x, s') := ⟨_, _, rfl⟩
  obtain ⟨x4, t4, h4⟩ : ∃ x s', rnum t3 0 1099511627776 = (x, s') := ⟨_, _, rfl⟩
  obtain ⟨x5, t5, h5⟩ : ∃ x s', rnum t4 0 1099511627776 = (x, s') := ⟨_, _, rfl⟩
  obtain ⟨x6, t6, h6⟩ : ∃ x s', rnum t5 0 1099511627776 = (x, s') := ⟨_, _, rfl⟩
  rw [getV_eq h0 h1 h2 h3 h4 h5 h6] at h
  cases h
  exact rnum_len' h6 (rnum_len' h5 (rnum_len' h4 (rnum_len' h3 (rnum_len' h2 (rnum_len' h1 (rnum_len' h0 hl))))))
theorem rnum_nat {s s2 : Option (List UInt8)} {z : Int} (h : rnum s 0 1000 = (z, s2)) : ∃ m : Nat, z = (m : Int) ∧ m ≤ 1000 := by
  cases s2 with
  | some r => have := rnum_in h; exact ⟨z.toNat, by omega, by omega⟩
  | none =>
    rw [rnum_all] at h
    split at h
    · cases h; exact ⟨0, rfl, by omega⟩
    · cases h
end C
theorem rs_turn {w w' : World} {g k : Nat} {p : Option Addr} {n c : Nat} {l : List UInt8} {s : Option (List UInt8)} (h : Rs w g p n c l s) (hn : NB w k) (hne : g ≠ k) (ht : Turn w w' (fun b => b = k)) : Rs w' g p n c l s := by
  obtain ⟨a, hr, h'⟩ := h
  exact ⟨a, ⟨(ht.block g hr.lt hne).trans hr.blk, is_turn hr.is hn ht, hr.nc, hr.cm, hr.al, hr.pa⟩, h'⟩
theorem rd_turn {w w' : World} {g k : Nat} {s : Option (List UInt8)} {p : Option Addr} {n c : Nat} (h : Rd w g s p n c) (hn : NB w k) (hne : g ≠ k) (ht : Turn w w' (fun b => b = k)) : Rd w' g s p n c :=
  ⟨(ht.block g h.lt hne).trans h.blk, is_turn h.is hn ht, h.nc, h.cm, h.pa⟩
set_option maxRecDepth 100000 in
set_option maxHeartbeats 0 in
theorem bytes_walk (pb : Option Addr) (lb : List UInt8) (cb : Nat) (pa : Option Addr) (l : List C.Dt) (ca : Nat) (w : World) (hx : Is w pb lb.length cb lb) (hlc : lb.length ≤ cb) (hcm : cb ≤ maxLen) (hat : 0 < cb → ∃ b o, pb = some ⟨b, o, none⟩) (ha : ArgD w pa l) (hla : l.length ≤ maxLen) :
    Calls Try.prog 5 #[.slice pb lb.length cb, .slice pa l.length ca] w fun e w' => e = .returned (.bool true) ∧ Below w.heap.size w w' := by
  have HX0 : Hid (Is w pb lb.length cb lb) := hx
  have HA : Hid (ArgD w pa l) := ha
  have HAT : Hid (0 < cb → ∃ b o, pb = some ⟨b, o, none⟩) := hat
  have HCM : Hid (lb.length ≤ cb ∧ cb ≤ maxLen) := ⟨hlc, hcm⟩
  have hnm : lb.length ≤ 9223372036854775807 := by unfold maxLen at hcm; omega
  clear hx ha hat hlc hcm
  unfold maxLen at hla
  obtain ⟨cv, s1, hv⟩ : ∃ cv s1, C.getV (some lb) = (cv, s1) := ⟨_, _, rfl⟩
  obtain ⟨z, s2, hm⟩ : ∃ z s2, C.rnum s1 0 1000 = (z, s2) := ⟨_, _, rfl⟩
  obtain ⟨q, rfl, hq⟩ := C.rnum_nat hm
  obtain ⟨R, hR⟩ : ∃ R, C.rowR q s2 = R := ⟨_, rfl⟩
  have HV : Hid (C.getV (some lb) = (cv, s1)) := hv
  have HM : Hid (C.rnum s1 0 1000 = ((q : Int), s2)) := hm
  have HQ : Hid (q ≤ 1000) := hq
  have HR : Hid (C.rowR q s2 = R) := hR
  clear hv hm hq hR
  obtain ⟨nx, hnx⟩ : ∃ nx, nx = lb.length := ⟨_, rfl⟩
  have HNX : Hid (nx = lb.length) := hnx
  have HX : Hid (Is w pb nx cb lb) := by show Is _ _ _ _ _; rw [hnx]; exact HX0.out
  rw [← hnx] at HCM hnm ⊢
  obtain ⟨n, hn⟩ : ∃ n, n = l.length := ⟨_, rfl⟩
  have HN : Hid (n = l.length) := hn
  rw [← hn] at hla ⊢
  clear hn hnx HX0
  by_cases hbig : 300 < nx
  · go_enter Try.func5, Try.ntmps5
    go_wp2_with fail
    refine (awake_any _).mono ?_
    rintro e w1 ⟨rfl, hb1⟩
    have HB1 : Hid (Below w.heap.size w w1) := hb1
    clear hb1
    go_wp2
    go_ret
    exact ⟨rfl, HB1.out⟩
  by_cases hbig2 : 60 < n
  · go_enter Try.func5, Try.ntmps5
    go_wp2_with fail
    refine (awake_any _).mono ?_
    rintro e w1 ⟨rfl, hb1⟩
    have HB1 : Hid (Below w.heap.size w w1) := hb1
    clear hb1
    go_wp2
    go_ret
    exact ⟨rfl, HB1.out⟩
  have HLB : Hid (lb.length ≤ 300) := by have := HNX.out; show _ ≤ _; omega
  have HL60 : Hid (l.length ≤ 60) := by have := HN.out; show _ ≤ _; omega
  go_enter Try.func5, Try.ntmps5
  go_wp2_with fail
  refine (awake_any _).mono ?_
  rintro e w1 ⟨rfl, hb1⟩
  have HB1 : Hid (Below w.heap.size w w1) := hb1
  clear hb1
  go_wp2_with fail
  refine (read_at w1 pb nx cb lb (HX.out.below HB1.out) (by have := HLB.out; omega)).mono ?_
  rintro e w2 ⟨⟨gr, pr, nr, cr, rfl, hgr, hgl, hr2⟩, hb2⟩
  obtain ⟨W3, hW3⟩ : ∃ W3, W3 = w2.alloc (.cells #[.slice pb nx cb, .int .i64 0, .bool false] 53) := ⟨_, rfl⟩
  obtain ⟨gq, hgq⟩ : ∃ gq, w2.heap.size = gq := ⟨_, rfl⟩
  have hba : Below w2.heap.size w2 W3 := by rw [hW3]; exact below_new _ _
  have HB3 : Hid (Below w.heap.size w W3) := bt (bt HB1.out hb2) hba
  have HR3 : Hid (Rd W3 gr (some lb) pr nr cr) := hr2.below hba
  have HS3 : Hid (Rs W3 gq pb nx cb lb (some lb)) := ⟨0, ⟨by rw [hW3, ← hgq]; exact heap_alloc_new w2 _, HX.out.below HB3.out, HCM.out.1, HCM.out.2, Nat.zero_le _, HAT.out⟩, fun r hr => by cases hr; rfl⟩
  have HGG : Hid (w.heap.size ≤ gr ∧ w.heap.size ≤ gq ∧ gr ≠ gq ∧ gr < W3.heap.size ∧ gq < W3.heap.size) := by
    have h1 := HB1.out.size
    have h2 := (bt HB1.out hb2).size
    refine ⟨by omega, by omega, by omega, HR3.out.lt, HS3.out.lt⟩
  go_wp2_with fail
  first | rw [hgq, ← hW3] | rw [← hW3]
  clear hW3 hgq hba hr2 hb2 hgr hgl HB1
  refine (getD_any W3 gr (some lb) pr nr cr HR3.out (by have := HLB.out; show lb.length ≤ _; omega) cv s1 s2 q HV.out (C.getV_len HV.out (by have := HLB.out; show lb.length ≤ _; omega)) HM.out HQ.out R HR.out).mono ?_
  rintro e w4 ⟨hret, ht4⟩
  have HS4 : Hid (Rs w4 gq pb nx cb lb (some lb)) := rs_turn HS3.out HR3.out.nb (fun e => HGG.out.2.2.1 e.symm) ht4
  have HT4 : Hid (Turn W3 w4 (fun b => b = gr)) := ht4
  have HG : Hid (Calls Try.prog 27 #[.pointer (some ⟨gq, 0, none⟩)] w4 fun e w' => RGetRet w4 w' gq pb nx cb lb cv R e ∧ Turn w4 w' (fun b => b = gq)) := rgetD_any w4 gq pb nx cb lb (some lb) HS4.out (by have := HLB.out; omega) cv s1 s2 q HV.out HM.out HQ.out R HR.out
  have HRL : Hid (R.1.length ≤ 1000) := by show _ ≤ _; rw [← HR.out, C.rowR_len]; exact HQ.out
  have HCG : Hid (C.good cv = true) := C.getV_good HV.out
  clear ht4 HS3 HR3
  by_cases hg : ∃ r, R.2 = some r ∧ LooseP cv R.1
  · obtain ⟨r, hr, hlo⟩ := hg
    obtain ⟨lr, sr⟩ := R
    simp only at hr hlo HRL
    subst hr
    obtain ⟨g2, v2, rfl, hd4, hg2, hf2, p4, n4, c4, hr4⟩ := get_good hret hlo
    have HD4 : Hid (DotsAt w4 g2 cv v2 lr) := hd4
    have HR4 : Hid (Rd w4 gr (some r) p4 n4 c4) := hr4
    have HF2 : Hid (W3.heap.size ≤ g2 ∧ Fresh W3 v2) := ⟨hg2, hf2⟩
    have HLO : Hid (LooseP cv lr) := hlo
    clear hret hd4 hg2 hf2 hr4 hlo
    go_wp2_with fail
    refine HG.out.mono ?_
    rintro e w5 ⟨hret, ht5⟩
    rcases hret with ⟨hbad, _⟩ | ⟨r', hr', _, g3, v3, rfl, hd5, hg3, hf3, hs5⟩
    · exfalso
      rcases hbad with hbad | hbad
      · cases hbad
      · exact hbad HLO.out
    simp only at hr' hd5
    cases hr'
    have HB5 : Hid (Below w.heap.size w w5) := by
      have t1 : Below w.heap.size w w4 := HB3.out.trans (HT4.out.below HB3.out.size fun b hb => by rw [hb]; exact HGG.out.1)
      exact t1.trans (ht5.below t1.size fun b hb => by rw [hb]; exact HGG.out.2.1)
    have HDX : Hid (DotsAt w5 g2 cv v2 lr) := HD4.out.same fun b hf => ht5.block b (HD4.out.lt hf) fun e => by
      have h1 := HGG.out.2.2.2.2
      rcases hf with rfl | hf
      · have := HF2.out.1; omega
      · have := HF2.out.2 b hf; omega
    have HDY : Hid (RDAt w5 g3 cv v3 lr) := hd5
    have HRX : Hid (Rd w5 gr (some r) p4 n4 c4) := rd_turn HR4.out HS4.out.nb HGG.out.2.2.1 ht5
    have HRY : Hid (Rs w5 gq pb nx cb lb (some r)) := hs5
    clear ht5 hd5 hg3 hf3 hs5
    have HOK : Hid (C.Ds.Ok ⟨cv, lr⟩) := ⟨HCG.out, HLO.out.1, HLO.out.2⟩
    obtain ⟨lp, hlp⟩ : ∃ lp, C.sbytes ⟨cv, lr⟩ = lp := ⟨_, rfl⟩
    obtain ⟨eb, heb⟩ : ∃ eb, ((some r : Option (List UInt8)) == some []) = eb := ⟨_, rfl⟩
    have HP1 : Hid (∀ W, Below w5.heap.size w5 W → Calls Try.prog 11 #[.pointer (some ⟨g2, 0, none⟩), .slice none 0 0] W fun e w' => (∃ p n k, e = .returned (.slice p n k) ∧ Is w' p n k lp) ∧ Below W.heap.size W w') := fun W hW => by rw [← hlp]; exact put_obj W g2 cv v2 lr none 0 0 [] (HDX.out.below hW) HOK.out HRL.out (Is.nil _) (by decide)
    have HP2 : Hid (∀ W, Below w5.heap.size w5 W → Calls Try.prog 26 #[.pointer (some ⟨g3, 0, none⟩), .slice none 0 0] W fun e w' => (∃ p n k, e = .returned (.slice p n k) ∧ Is w' p n k lp) ∧ Below W.heap.size W w') := fun W hW => by rw [← hlp]; exact rput_obj W g3 cv v3 lr none 0 0 [] (HDY.out.below hW) HOK.out HRL.out (Is.nil _) (by decide)
    have HE1 : Hid (∀ W, Below w5.heap.size w5 W → Calls Try.prog 15 #[.pointer (some ⟨gr, 0, none⟩)] W fun e w' => e = .returned (.bool eb) ∧ w' = W) := fun W hW => by rw [← heb]; exact end_any W gr (some r) p4 n4 c4 (HRX.out.below hW)
    have HE2 : Hid (∀ W, Below w5.heap.size w5 W → Calls Try.prog 28 #[.pointer (some ⟨gq, 0, none⟩)] W fun e w' => e = .returned (.bool eb) ∧ Below W.heap.size W w') := fun W hW => by rw [← heb]; exact refend_any W gq pb nx cb lb (some r) (HRY.out.below hW) (by have := HLB.out; omega)
    clear hlp heb
    have hne : Nonempty (NewW w5) := ⟨NewW.start w5⟩
    go_wp2_with fail
    have hC : ∃ m : NewW w5, w5.drew = m.v := ⟨⟨w5.drew, (Below.refl _ w5).drew⟩, rfl⟩
    refine wp_region_held_drew (S := fun w' => ∃ m : NewW w5, w' = m.v) (by kernel_rfl) hC (fun _ => ?_)
    have hB : Below w5.heap.size w5 w5.drew := (Below.refl _ w5).drew
    generalize hW0 : w5.drew = W0 at *
    clear hW0
    refine takeList (i := 0) rfl (by kernel_rfl) (by kernel_rfl) (by kernel_rfl) (fun _ _ _ _ h => h) rfl rfl hC (fun K hK => ?_)
    go_big_quiet_op
    refine hK _ ?_
    clear hK K
    refine takeList (i := 1) rfl (by kernel_rfl) (by kernel_rfl) (by kernel_rfl) (fun _ _ _ _ h => h) rfl rfl hC (fun K hK => ?_)
    go_big_quiet_op
    refine hK _ ?_
    clear hK K
    refine takeList (i := 2) rfl (by kernel_rfl) (by kernel_rfl) (by kernel_rfl) (fun _ _ _ _ h => h) rfl rfl hC (fun K hK => ?_)
    go_big_quiet_op
    refine hK _ ?_
    clear hK K
    refine takeList (i := 3) rfl (by kernel_rfl) (by kernel_rfl) (by kernel_rfl) (fun _ _ _ _ h => h) rfl rfl hC (fun K hK => ?_)
    go_big_quiet_op
    refine hK _ ?_
    clear hK K
    refine takeList (i := 4) rfl (by kernel_rfl) (by kernel_rfl) (by kernel_rfl) (fun _ _ _ _ h => h) rfl rfl hC (fun K hK => ?_)
    go_big_quiet_op
    refine hK _ ?_
    clear hK K
    refine takeList (i := 5) rfl (by kernel_rfl) (by kernel_rfl) (by kernel_rfl) (fun _ _ _ _ h => h) rfl rfl hC (fun K hK => ?_)
    go_big_quiet_op
    refine hK _ ?_
    clear hK K
    refine takeList (i := 6) rfl (by kernel_rfl) (by kernel_rfl) (by kernel_rfl) (fun _ _ _ _ h => h) rfl rfl hC (fun K hK => ?_)
    go_big_quiet_op
    refine hK _ ?_
    clear hK K
    refine takeList (i := 7) rfl (by kernel_rfl) (by kernel_rfl) (by kernel_rfl) (fun _ _ _ _ h => h) rfl rfl hC (fun K hK => ?_)
    go_big_quiet_op
    refine hK _ ?_
    clear hK K
    refine takeList (i := 8) rfl (by kernel_rfl) (by kernel_rfl) (by kernel_rfl) (fun _ _ _ _ h => h) rfl rfl hC (fun K hK => ?_)
    go_big_quiet_op
    refine hK _ ?_
    clear hK K
    refine takeList (i := 9) rfl (by kernel_rfl) (by kernel_rfl) (by kernel_rfl) (fun _ _ _ _ h => h) rfl rfl hC (fun K hK => ?_)
    go_big_quiet_op
    refine hK _ ?_
    clear hK K
    refine takeList (i := 12) rfl (by kernel_rfl) (by kernel_rfl) (by kernel_rfl) (fun _ _ _ _ h => h) rfl rfl hC (fun K hK => ?_)
    go_big_quiet_op
    refine hK _ ?_
    clear hK K
    refine callList (i := 10) rfl (by kernel_rfl) rfl (fun K hK => ?_)
    go_simp
    refine (HP1.out _ hB).mono ?_
    rintro e w6 ⟨⟨p5, n5, c5, rfl, hi5⟩, hk⟩
    replace hB := bt hB hk
    refine hK.out _ _ ⟨⟨_, hB⟩, rfl⟩ ?_
    clear hK K hC hk hne
    refine wpAnyH_strengthen (S' := fun w' => ∃ n : NewW w6, w' = n.v) (fun w' ⟨n, hn⟩ => ⟨⟨n.v, bt hB n.h⟩, hn⟩) _ _ _ _ ?_
    have hne5 : Nonempty (NewW w6) := ⟨NewW.start w6⟩
    have k5 : ∀ n : NewW w6, (convert 30 9 (.slice p5 n5 c5)).run Try.prog n.v = .ok (.string ⟨lp.toArray⟩) n.v := fun n => conv_is (hi5.below n.h)
    have hC : ∃ n : NewW w6, w6 = n.v := ⟨⟨w6, Below.refl _ _⟩, rfl⟩
    refine takeList (i := 11) rfl (by kernel_rfl) (by kernel_rfl) (by kernel_rfl) (fun _ _ _ _ h => h) rfl rfl hC (fun K hK => ?_)
    go_big_quiet_op
    refine hK _ ?_
    clear hK K
    refine callList (i := 13) rfl (by kernel_rfl) rfl (fun K hK => ?_)
    go_simp
    refine (HP2.out _ hB).mono ?_
    rintro e w7 ⟨⟨p6, n6, c6, rfl, hi6⟩, hk⟩
    refine hK.out _ _ ⟨⟨w7, hk⟩, rfl⟩ ?_
    clear hK K hC k5 hne5
    refine wpAnyH_strengthen (S' := fun w' => ∃ n : NewW w7, w' = n.v) (fun w' ⟨n, hn⟩ => ⟨⟨n.v, bt hk n.h⟩, hn⟩) _ _ _ _ ?_
    replace hB := bt hB hk
    clear hk
    have hne6 : Nonempty (NewW w7) := ⟨NewW.start w7⟩
    have k6 : ∀ n : NewW w7, (convert 30 9 (.slice p6 n6 c6)).run Try.prog n.v = .ok (.string ⟨lp.toArray⟩) n.v := fun n => conv_is (hi6.below n.h)
    have hC : ∃ n : NewW w7, w7 = n.v := ⟨⟨w7, Below.refl _ _⟩, rfl⟩
    have hD : Below w7.heap.size w7 w7 := Below.refl _ _
    refine takeList (i := 14) rfl (by kernel_rfl) (by kernel_rfl) (by kernel_rfl) (fun _ _ _ _ h => h) rfl rfl hC (fun K hK => ?_)
    go_big_quiet_op
    refine hK _ ?_
    clear hK K
    refine takeList (i := 15) rfl (by kernel_rfl) (by kernel_rfl) (by kernel_rfl) (fun _ _ _ _ h => h) rfl rfl hC (fun K hK => ?_)
    go_big_quiet_op
    refine hK _ ?_
    clear hK K
    refine takeList (i := 16) rfl (by kernel_rfl) (by kernel_rfl) (by kernel_rfl) (fun _ _ _ _ h => h) rfl rfl hC (fun K hK => ?_)
    go_big_quiet_op
    refine hK _ ?_
    clear hK K
    refine takeList (i := 17) rfl (by kernel_rfl) (by kernel_rfl) (by kernel_rfl) (fun _ _ _ _ h => h) rfl rfl hC (fun K hK => ?_)
    go_big_quiet_op
    refine hK _ ?_
    clear hK K
    refine takeList (i := 19) rfl (by kernel_rfl) (by kernel_rfl) (by kernel_rfl) (fun _ _ _ _ h => h) rfl rfl hC (fun K hK => ?_)
    go_big_quiet_op
    refine hK _ ?_
    clear hK K
    refine callList (i := 18) rfl (by kernel_rfl) rfl (fun K hK => ?_)
    go_simp
    refine (HE1.out _ (bt hB hD)).mono ?_
    rintro e wx ⟨rfl, hk⟩
    subst hk
    refine hK.out _ _ ⟨⟨_, hD⟩, rfl⟩ ?_
    try go_simp
    clear hK K hC
    have hC : ∃ n : NewW wx, wx = n.v := ⟨⟨_, hD⟩, rfl⟩
    refine callList (i := 20) rfl (by kernel_rfl) rfl (fun K hK => ?_)
    go_simp
    refine (HE2.out _ (bt hB hD)).mono ?_
    rintro e wy ⟨rfl, hk⟩
    replace hD := bt hD hk
    refine hK.out _ _ ⟨⟨_, hD⟩, rfl⟩ ?_
    try go_simp
    clear hK K hC hk
    have hC : ∃ n : NewW wx, wy = n.v := ⟨⟨_, hD⟩, rfl⟩
    refine takeList (i := 21) rfl (by kernel_rfl) (by kernel_rfl) (by kernel_rfl) (fun _ _ _ _ h => h) rfl rfl hC (fun K hK => ?_)
    go_big_quiet_op
    refine hK _ ?_
    clear hK K
    refine takeList (i := 22) rfl (by kernel_rfl) (by kernel_rfl) (by kernel_rfl) (fun _ _ _ _ h => h) rfl rfl hC (fun K hK => ?_)
    go_big_quiet_op
    refine hK _ ?_
    clear hK K
    refine takeList (i := 23) rfl (by kernel_rfl) (by kernel_rfl) (by kernel_rfl) (fun _ _ _ _ h => h) rfl rfl hC (fun K hK => ?_)
    go_big_quiet_op
    refine hK _ ?_
    clear hK K
    refine takeList (i := 24) rfl (by kernel_rfl) (by kernel_rfl) (by kernel_rfl) (fun _ _ _ _ h => h) rfl rfl hC (fun K hK => ?_)
    go_big_quiet_op
    refine hK _ ?_
    clear hK K
    clear hC hne6 k6
    refine wpAnyH_done (by kernel_rfl) ?_ _
    have HBE : Hid (Below w.heap.size w wy) := bt HB5.out (bt hB hD)
    clear hB hD hi5 hi6
    go_wp2_with fail
    refine (o_new (Objs.nil (Below.refl _ wy))).mono ?_
    rintro e w10 ⟨gs, rfl, h10, -⟩
    have H10 : Hid (Objs wy w10 ([] ++ ⟨gs, .slice none 0 0, C.addAll C.zeroS (l.take 0)⟩ :: [])) := h10
    clear h10
    go_wp2_with fail
    go_loopw [10] (fun s10 wr => ∃ (k : Nat) (vs : Value), s10 = .int .i64 k ∧ k ≤ n ∧ Hid (Objs wy wr ([] ++ ⟨gs, vs, C.addAll C.zeroS (l.take k)⟩ :: []))) (fun s10 _ => n - (intOf s10).toNat)
    case atStart => exact ⟨0, _, rfl, Nat.zero_le _, H10.out⟩
    case round =>
      clear H10
      obtain ⟨k, vs, rfl, hkn, HO⟩ := hrel
      by_cases hlt : k < n
      · obtain ⟨x, hx⟩ : ∃ x, l[k]? = some x := ⟨_, List.getElem?_eq_getElem (by have := HN.out; omega)⟩
        obtain ⟨b, o, rfl, hc⟩ := HA.out (by have := HN.out; omega)
        have HXA : Hid (C.addAll C.zeroS (l.take (k + 1)) = C.addM (C.addAll C.zeroS (l.take k)) x) := C.add_take hx
        obtain ⟨a0, a1⟩ := hc k x hx
        have hbe := bt HBE.out HO.out.bel
        have c0 := (hbe.cell (p := ⟨b, o + k * 2, none⟩) (World.block_lt_of_cell? _ _ a0)).trans a0
        have c1 := (hbe.cell (p := ⟨b, o + k * 2 + 1, none⟩) (World.block_lt_of_cell? _ _ a1)).trans a1
        have HKA : Hid ((C.addAll C.zeroS (l.take k)).l.length < 1000) := Nat.lt_of_le_of_lt (C.take_small l k 60 HL60.out) (by decide)
        clear hc a0 a1 hx hbe
        obtain ⟨x1, x2⟩ := x
        try simp only at c0 c1
        go_wp2_with fail
        refine (o_add [] [] gs vs _ _ x1 x2 _ _ HO.out HKA.out rfl rfl rfl).mono ?_
        rintro e w11 ⟨rfl, ⟨vs2, h11⟩, -⟩
        rw [← HXA.out] at h11
        have H11 : Hid (Objs wy w11 ([] ++ ⟨gs, vs2, C.addAll C.zeroS (l.take (k + 1))⟩ :: [])) := h11
        clear h11 HO c0 c1
        go_wp2
        go_roundw
        case rel => exact ⟨k + 1, vs2, by go_num, by omega, H11.out⟩
        case measure => simp [intOf]; omega
      · obtain rfl : k = n := by omega
        have htk : l.take k = l := List.take_of_length_le (by have := HN.out; omega)
        rw [htk] at HO
        have HAL : Hid ((C.addAll C.zeroS l).l.length ≤ 60) := by
          have := C.take_small l l.length 60 HL60.out
          rwa [List.take_of_length_le (Nat.le_refl _)] at this
        obtain ⟨S, hS⟩ : ∃ S, S = C.addAll C.zeroS l := ⟨_, rfl⟩
        rw [← hS] at HO HAL
        have HOKS : Hid S.Ok := HO.out.get.2
        clear htk hS
        go_wp2_with fail
        refine (put_obj _ gs S.c vs S.l none 0 0 [] HO.out.get.1 HOKS.out (by have := HAL.out; omega) (Is.nil _) (by decide)).mono ?_
        rintro e w12 ⟨⟨p7, n7, c7, rfl, hi7⟩, hb7⟩
        have HI7 : Hid (Is w12 p7 n7 c7 (C.sbytes S)) := hi7
        have H12 : Hid (Objs wy w12 ([] ++ ⟨gs, vs, S⟩ :: [])) := HO.out.below hb7
        clear hi7 hb7 HO
        go_wp2_with fail
        refine (read_at w12 p7 n7 c7 _ HI7.out (by have := (C.sbytes_len HOKS.out (by have := HAL.out; omega)).1; omega)).mono ?_
        rintro e w13 ⟨⟨gx, p8, n8, c8, rfl, hgx, -, hr8⟩, hb8⟩
        have HR8 : Hid (Rd w13 gx (some (C.sbytes S)) p8 n8 c8) := hr8
        have H13 : Hid (Objs wy w13 ([] ++ ⟨gs, vs, S⟩ :: [])) := H12.out.below hb8
        have HNF : Hid (¬ foot gs vs gx) := fun hf => by have := H12.out.get.1.lt hf; omega
        have HGX : Hid (wy.heap.size ≤ gx) := Nat.le_trans H12.out.bel.size hgx
        clear hr8 hb8 hgx H12 HI7
        go_wp2_with fail
        refine (getD_any w13 gx _ p8 n8 c8 HR8.out (by have := (C.sbytes_len HOKS.out (by have := HAL.out; omega)).1; show (C.sbytes S).length ≤ _; omega) S.c (some (C.num (S.l.length : Nat) ++ C.dbytes S.l)) (some (C.dbytes S.l)) S.l.length (getV_bytes HOKS.out.good _) (by have := (C.sbytes_len HOKS.out (by have := HAL.out; omega)).2; show (C.num (S.l.length : Nat) ++ C.dbytes S.l).length ≤ _; omega) (C.num_back (by have := HAL.out; omega)) (by have := HAL.out; omega) (S.l, some []) (C.row_back HOKS.out)).mono ?_
        rintro e w14 ⟨hret, ht14⟩
        obtain ⟨gz, vz, rfl, hdz, -, -, pz, nz, cz, hrz⟩ := get_good hret ⟨HOKS.out.up, HOKS.out.far⟩
        have HDZ : Hid (DotsAt w14 gz S.c vz S.l) := hdz
        have HRZ : Hid (Rd w14 gx (some []) pz nz cz) := hrz
        have H14 : Hid (Objs wy w14 ([] ++ ⟨gs, vs, S⟩ :: [])) := H13.out.turn ht14 HGX.out fun o ho => by
          obtain rfl : o = ⟨gs, vs, S⟩ := by simpa using ho
          exact HNF.out
        clear hret ht14 hdz hrz H13 HR8
        go_wp2_with fail
        refine (same_any w14 gs gz S S vs vz true H14.out.get.1 HDZ.out (by have := HAL.out; omega) ((sameS_iff _ _).2 rfl)).mono ?_
        rintro e w15 ⟨rfl, hb15⟩
        have H15 : Hid (Objs wy w15 ([] ++ ⟨gs, vs, S⟩ :: [])) := H14.out.below hb15
        have HRE : Hid (Rd w15 gx (some []) pz nz cz) := HRZ.out.below hb15
        clear hb15 H14 HRZ HDZ
        go_wp2_with fail
        refine (end_any w15 gx _ pz nz cz HRE.out).mono ?_
        rintro e w16 ⟨rfl, hw⟩
        subst hw
        have he : ((some ([] : List UInt8)) == some []) = true := by decide
        simp only [he]
        clear he
        go_wp2
        go_ret
        exact ⟨rfl, bt HBE.out H15.out.bel⟩
  · obtain rfl := get_none hret (by
      rcases hrr : R.2 with _ | r
      · exact Or.inl rfl
      · exact Or.inr fun hh => hg ⟨r, hrr, hh⟩)
    clear hret
    go_wp2_with fail
    refine HG.out.mono ?_
    rintro e w5 ⟨hret, ht5⟩
    have e5 : e = .returned (.pointer none) := by
      rcases hret with ⟨_, h1⟩ | ⟨r', hr', hl, _⟩
      · exact h1
      · exact absurd ⟨r', hr', hl⟩ hg
    subst e5
    have HB5 : Hid (Below w.heap.size w w5) := by
      have t1 : Below w.heap.size w w4 := HB3.out.trans (HT4.out.below HB3.out.size fun b hb => by rw [hb]; exact HGG.out.1)
      exact t1.trans (ht5.below t1.size fun b hb => by rw [hb]; exact HGG.out.2.1)
    clear hret ht5 hg
    have hne : Nonempty (NewW w5) := ⟨NewW.start w5⟩
    go_wp2_with fail
    refine wp_region_new (by kernel_rfl) (by kernel_rfl) ?_
    repeat (go_big_quiet_step ((with_reducible rfl)))
    refine wpQuiet_nil ?_
    rintro _ ⟨w6, rfl⟩
    obtain ⟨WE, hWE⟩ : ∃ WE, w6.v = WE := ⟨_, rfl⟩
    have HBE : Hid (Below w.heap.size w WE) := by rw [← hWE]; exact bt HB5.out w6.h
    rw [hWE]
    clear hWE w6
    go_wp2_with fail
    refine (o_new (Objs.nil (Below.refl _ WE))).mono ?_
    rintro e w10 ⟨gs, rfl, h10, -⟩
    have H10 : Hid (Objs WE w10 ([] ++ ⟨gs, .slice none 0 0, C.addAll C.zeroS (l.take 0)⟩ :: [])) := h10
    clear h10
    go_wp2_with fail
    go_loopw [10] (fun s10 wr => ∃ (k : Nat) (vs : Value), s10 = .int .i64 k ∧ k ≤ n ∧ Hid (Objs WE wr ([] ++ ⟨gs, vs, C.addAll C.zeroS (l.take k)⟩ :: []))) (fun s10 _ => n - (intOf s10).toNat)
    case atStart => exact ⟨0, _, rfl, Nat.zero_le _, H10.out⟩
    case round =>
      clear H10
      obtain ⟨k, vs, rfl, hkn, HO⟩ := hrel
      by_cases hlt : k < n
      · obtain ⟨x, hx⟩ : ∃ x, l[k]? = some x := ⟨_, List.getElem?_eq_getElem (by have := HN.out; omega)⟩
        obtain ⟨b, o, rfl, hc⟩ := HA.out (by have := HN.out; omega)
        have HXA : Hid (C.addAll C.zeroS (l.take (k + 1)) = C.addM (C.addAll C.zeroS (l.take k)) x) := C.add_take hx
        obtain ⟨a0, a1⟩ := hc k x hx
        have hbe := bt HBE.out HO.out.bel
        have c0 := (hbe.cell (p := ⟨b, o + k * 2, none⟩) (World.block_lt_of_cell? _ _ a0)).trans a0
        have c1 := (hbe.cell (p := ⟨b, o + k * 2 + 1, none⟩) (World.block_lt_of_cell? _ _ a1)).trans a1
        have HKA : Hid ((C.addAll C.zeroS (l.take k)).l.length < 1000) := Nat.lt_of_le_of_lt (C.take_small l k 60 HL60.out) (by decide)
        clear hc a0 a1 hx hbe
        obtain ⟨x1, x2⟩ := x
        try simp only at c0 c1
        go_wp2_with fail
        refine (o_add [] [] gs vs _ _ x1 x2 _ _ HO.out HKA.out rfl rfl rfl).mono ?_
        rintro e w11 ⟨rfl, ⟨vs2, h11⟩, -⟩
        rw [← HXA.out] at h11
        have H11 : Hid (Objs WE w11 ([] ++ ⟨gs, vs2, C.addAll C.zeroS (l.take (k + 1))⟩ :: [])) := h11
        clear h11 HO c0 c1
        go_wp2
        go_roundw
        case rel => exact ⟨k + 1, vs2, by go_num, by omega, H11.out⟩
        case measure => simp [intOf]; omega
      · obtain rfl : k = n := by omega
        have htk : l.take k = l := List.take_of_length_le (by have := HN.out; omega)
        rw [htk] at HO
        have HAL : Hid ((C.addAll C.zeroS l).l.length ≤ 60) := by
          have := C.take_small l l.length 60 HL60.out
          rwa [List.take_of_length_le (Nat.le_refl _)] at this
        obtain ⟨S, hS⟩ : ∃ S, S = C.addAll C.zeroS l := ⟨_, rfl⟩
        rw [← hS] at HO HAL
        have HOKS : Hid S.Ok := HO.out.get.2
        clear htk hS
        go_wp2_with fail
        refine (put_obj _ gs S.c vs S.l none 0 0 [] HO.out.get.1 HOKS.out (by have := HAL.out; omega) (Is.nil _) (by decide)).mono ?_
        rintro e w12 ⟨⟨p7, n7, c7, rfl, hi7⟩, hb7⟩
        have HI7 : Hid (Is w12 p7 n7 c7 (C.sbytes S)) := hi7
        have H12 : Hid (Objs WE w12 ([] ++ ⟨gs, vs, S⟩ :: [])) := HO.out.below hb7
        clear hi7 hb7 HO
        go_wp2_with fail
        refine (read_at w12 p7 n7 c7 _ HI7.out (by have := (C.sbytes_len HOKS.out (by have := HAL.out; omega)).1; omega)).mono ?_
        rintro e w13 ⟨⟨gx, p8, n8, c8, rfl, hgx, -, hr8⟩, hb8⟩
        have HR8 : Hid (Rd w13 gx (some (C.sbytes S)) p8 n8 c8) := hr8
        have H13 : Hid (Objs WE w13 ([] ++ ⟨gs, vs, S⟩ :: [])) := H12.out.below hb8
        have HNF : Hid (¬ foot gs vs gx) := fun hf => by have := H12.out.get.1.lt hf; omega
        have HGX : Hid (WE.heap.size ≤ gx) := Nat.le_trans H12.out.bel.size hgx
        clear hr8 hb8 hgx H12 HI7
        go_wp2_with fail
        refine (getD_any w13 gx _ p8 n8 c8 HR8.out (by have := (C.sbytes_len HOKS.out (by have := HAL.out; omega)).1; show (C.sbytes S).length ≤ _; omega) S.c (some (C.num (S.l.length : Nat) ++ C.dbytes S.l)) (some (C.dbytes S.l)) S.l.length (getV_bytes HOKS.out.good _) (by have := (C.sbytes_len HOKS.out (by have := HAL.out; omega)).2; show (C.num (S.l.length : Nat) ++ C.dbytes S.l).length ≤ _; omega) (C.num_back (by have := HAL.out; omega)) (by have := HAL.out; omega) (S.l, some []) (C.row_back HOKS.out)).mono ?_
        rintro e w14 ⟨hret, ht14⟩
        obtain ⟨gz, vz, rfl, hdz, -, -, pz, nz, cz, hrz⟩ := get_good hret ⟨HOKS.out.up, HOKS.out.far⟩
        have HDZ : Hid (DotsAt w14 gz S.c vz S.l) := hdz
        have HRZ : Hid (Rd w14 gx (some []) pz nz cz) := hrz
        have H14 : Hid (Objs WE w14 ([] ++ ⟨gs, vs, S⟩ :: [])) := H13.out.turn ht14 HGX.out fun o ho => by
          obtain rfl : o = ⟨gs, vs, S⟩ := by simpa using ho
          exact HNF.out
        clear hret ht14 hdz hrz H13 HR8
        go_wp2_with fail
        refine (same_any w14 gs gz S S vs vz true H14.out.get.1 HDZ.out (by have := HAL.out; omega) ((sameS_iff _ _).2 rfl)).mono ?_
        rintro e w15 ⟨rfl, hb15⟩
        have H15 : Hid (Objs WE w15 ([] ++ ⟨gs, vs, S⟩ :: [])) := H14.out.below hb15
        have HRE : Hid (Rd w15 gx (some []) pz nz cz) := HRZ.out.below hb15
        clear hb15 H14 HRZ HDZ
        go_wp2_with fail
        refine (end_any w15 gx _ pz nz cz HRE.out).mono ?_
        rintro e w16 ⟨rfl, hw⟩
        subst hw
        have he : ((some ([] : List UInt8)) == some []) = true := by decide
        simp only [he]
        clear he
        go_wp2
        go_ret
        exact ⟨rfl, bt HBE.out H15.out.bel⟩
theorem bytes_all (pb : Option Addr) (lb : List UInt8) (cb : Nat) (pa : Option Addr) (lena ca : Nat) (w : World) (hx : (Part.mk pb lb cb).ok w ∧ lb.length ≤ cb ∧ cb ≤ maxLen) (hat : 0 < cb → ∃ b o, pb = some ⟨b, o, none⟩) (hla : lena ≤ ca) (hca : ca ≤ maxLen)
    (V : Nat → Nat → Value) (hV : 0 < lena → ∃ b o, pa = some ⟨b, o, none⟩ ∧ ∀ i j, i < lena → j < 2 → w.cell? ⟨b, o + i * 2 + j, none⟩ = some (V i j)) (hI : ∀ i j, i < lena → j < 2 → ∃ z, V i j = .int .i64 z ∧ (Lit.int .i64 z).wf = true) :
    Calls Try.prog 5 #[.slice pb lb.length cb, .slice pa lena ca] w fun e w' => e = .returned (.bool true) ∧ Below w.heap.size w w' := by
  obtain ⟨l, rfl, ha⟩ := argD_of w pa lena V hV hI
  exact bytes_walk pb lb cb pa l ca w ⟨rfl, hx.1⟩ hx.2.1 hx.2.2 hat ha (Nat.le_trans hla hca)
end Go.Proofs.Ytglmmhgmdhdleaa
