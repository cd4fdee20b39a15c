/-
  The document's own: Write.
-/
import Derived.Test.YtebfhomopdnkkaaEWrite3
import Derived.Test.YtebfhomopdnkkaaRDots0
namespace Go.Proofs.Ytebfhomopdnkkaa
open Go.RowKit Go.Lib
set_option linter.unusedVariables false

/-- The same of the document's own. -/
def DPost (w : World) (g : Nat) (S a : C.La) (e : Ending) (w' : World) : Prop :=
  e = .returned (.tuple #[.bool (C.didL S a), .int .i64 (C.errL S a)]) ∧ EAt w' g true (C.wrL S a) ∧ Turn w w' (fun b => b = g)
theorem may_is (r n : Int) : C.may (r, n) = !C.noneL r n := by
  unfold C.may C.noneL
  rw [Bool.eq_iff_iff]
  simp only [Bool.and_eq_true, decide_eq_true_eq, Bool.not_eq_true', Bool.or_eq_false_iff, decide_eq_false_iff_not]
  omega
set_option maxHeartbeats 4000000 in
theorem dwrite_bad (w : World) (g : Nat) (a : C.La) (h : C.badL a = true) (hx : a.x.size ≤ maxLen) :
    Calls Try.prog 17 #[.pointer (some ⟨g, 0, none⟩), .string a.x, .int .i64 a.t, .agg #[.int .i64 a.r, .int .i64 a.n]] w fun e w' => e = .returned (.tuple #[.bool false, .int .i64 1]) ∧ Below w.heap.size w w' := by
  have hxm : a.x.size ≤ 9223372036854775807 := by unfold maxLen at hx; omega
  obtain ⟨x, t, r, n⟩ := a
  simp only at hxm
  have HB : Hid _ := below_new w (.cells #[.int .i64 r, .int .i64 n] 31)
  obtain ⟨y0, y1⟩ := box2 (heap_alloc_new w (.cells #[.int .i64 r, .int .i64 n] 31))
  rcases bad_cases h with h1 | ⟨h1, h2⟩ | ⟨h1, h2, h3⟩ | ⟨h1, h2, h3, h4⟩
  · have h1' : 100 < x.size := h1
    clear h hx h1
    go_enter Try.func17, Try.ntmps17
    go_wp2
    exact bodyPost_ret (v := .tuple #[.bool false, .int .i64 1]) (by simp [results, Try.results17, go_sem]) rfl ⟨rfl, HB.out⟩
  · have h1' : ¬ 100 < x.size := by simp only at h1; omega
    have h2' : t < 0 := h2
    clear h hx h1 h2
    go_enter Try.func17, Try.ntmps17
    go_wp2
    exact bodyPost_ret (v := .tuple #[.bool false, .int .i64 1]) (by simp [results, Try.results17, go_sem]) rfl ⟨rfl, HB.out⟩
  · have h1' : ¬ 100 < x.size := by simp only at h1; omega
    have h2' : ¬ t < 0 := by simp only at h2; omega
    have h3' : 1099511627776 < t := h3
    clear h hx h1 h2 h3
    go_enter Try.func17, Try.ntmps17
    go_wp2
    exact bodyPost_ret (v := .tuple #[.bool false, .int .i64 1]) (by simp [results, Try.results17, go_sem]) rfl ⟨rfl, HB.out⟩
  · have h1' : ¬ 100 < x.size := by simp only at h1; omega
    have h2' : ¬ t < 0 := by simp only at h2; omega
    have h3' : ¬ 1099511627776 < t := by simp only at h3; omega
    have HN : Hid (∀ W, _) := fun W => rmay_any r n W
    simp only at h4
    rw [may_is, h4] at HN
    simp only [Bool.not_true] at HN
    clear h hx h1 h2 h3 h4
    go_enter Try.func17, Try.ntmps17
    go_wp2_with fail
    refine (HN.out _).mono ?_
    rintro e w1 ⟨rfl, hb1⟩
    have HB1 : Hid _ := bt HB.out hb1
    clear hb1
    go_wp2
    exact bodyPost_ret (v := .tuple #[.bool false, .int .i64 1]) (by simp [results, Try.results17, go_sem]) rfl ⟨rfl, HB1.out⟩
theorem EAt.set5 {w : World} {g : Nat} {S : C.La} (h : EAt w g true S) (a : C.La) (ha : C.isL a = true) : EAt (((((w.setCell ⟨g, 0, none⟩ (.bool true)).setCell ⟨g, 1, none⟩ (.string a.x)).setCell ⟨g, 2, none⟩ (.int .i64 a.t)).setCell ⟨g, 3, none⟩ (.int .i64 a.r)).setCell ⟨g, 4, none⟩ (.int .i64 a.n)) g true a := by
  have h0 := set_block (o := 0) (v := .bool true) h
  have h1 := set_block (o := 1) (v := .string a.x) h0
  have h2 := set_block (o := 2) (v := .int .i64 a.t) h1
  have h3 := set_block (o := 3) (v := .int .i64 a.r) h2
  have h4 := set_block (o := 4) (v := .int .i64 a.n) h3
  unfold EAt
  rw [h4]
  simp [cellsE, C.La.cells, ha]
theorem turn5 (w : World) (g : Nat) (i j k l m : Nat) (a b c d e : Value) : Turn w (((((w.setCell ⟨g, i, none⟩ a).setCell ⟨g, j, none⟩ b).setCell ⟨g, k, none⟩ c).setCell ⟨g, l, none⟩ d).setCell ⟨g, m, none⟩ e) (fun x => x = g) :=
  Turn.setCell (S := fun x => x = g) (turn4 w g i j k l a b c d) rfl e
theorem good_isL {a : C.La} (h : C.badL a = false) : C.isL a = true := by
  have := (C.badL_iff a).1 h
  unfold C.isL
  rw [bne_iff_ne]
  omega
end Go.Proofs.Ytebfhomopdnkkaa
