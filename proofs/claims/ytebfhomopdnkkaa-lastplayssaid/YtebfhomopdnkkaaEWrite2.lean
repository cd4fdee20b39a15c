/-
  last.Last.Write.
-/
import Derived.Test.YtebfhomopdnkkaaEWrite
import Derived.Deep.RegionWith
import Derived.Deep.RegionHeldLaw
namespace Go.Proofs.Ytebfhomopdnkkaa
open Go.RowKit Go.Lib Go.Sort
set_option linter.unusedVariables false

/-- A write that is refused at once. -/
theorem bad_cases {a : C.La} (h : C.badL a = true) : 100 < a.x.size ∨ (a.x.size ≤ 100 ∧ a.t < 0) ∨ (a.x.size ≤ 100 ∧ 0 ≤ a.t ∧ 1099511627776 < a.t) ∨ (a.x.size ≤ 100 ∧ 0 ≤ a.t ∧ a.t ≤ 1099511627776 ∧ C.noneL a.r a.n = true) := by
  have : ¬ C.badL a = false := by rw [h]; decide
  rw [C.badL_iff] at this
  simp only [C.noneL, Bool.or_eq_true, decide_eq_true_eq]
  omega
set_option maxHeartbeats 4000000 in
theorem write_bad (w : World) (g : Nat) (a : C.La) (h : C.badL a = true) (hx : a.x.size ≤ maxLen) :
    Calls Try.prog 11 #[.pointer (some ⟨g, 0, none⟩), .string a.x, .int .i64 a.t, .agg #[.int .i64 a.r, .int .i64 a.n]] w fun e w' => e = .returned (.tuple #[.bool false, .int .i64 1]) ∧ Below w.heap.size w w' := by
  have hxm : a.x.size ≤ 9223372036854775807 := by unfold maxLen at hx; omega
  obtain ⟨x, t, r, n⟩ := a
  simp only at hxm
  have HB : Hid _ := below_new w (.cells #[.int .i64 r, .int .i64 n] 31)
  obtain ⟨y0, y1⟩ := box2 (heap_alloc_new w (.cells #[.int .i64 r, .int .i64 n] 31))
  rcases bad_cases h with h1 | ⟨h1, h2⟩ | ⟨h1, h2, h3⟩ | ⟨h1, h2, h3, h4⟩
  · have h1' : 100 < x.size := h1
    clear h hx h1
    go_enter Try.func11, Try.ntmps11
    go_wp2
    exact bodyPost_ret (v := .tuple #[.bool false, .int .i64 1]) (by simp [results, Try.results11, go_sem]) rfl ⟨rfl, HB.out⟩
  · have h1' : ¬ 100 < x.size := by simp only at h1; omega
    have h2' : t < 0 := h2
    clear h hx h1 h2
    go_enter Try.func11, Try.ntmps11
    go_wp2
    exact bodyPost_ret (v := .tuple #[.bool false, .int .i64 1]) (by simp [results, Try.results11, go_sem]) rfl ⟨rfl, HB.out⟩
  · have h1' : ¬ 100 < x.size := by simp only at h1; omega
    have h2' : ¬ t < 0 := by simp only at h2; omega
    have h3' : 1099511627776 < t := h3
    clear h hx h1 h2 h3
    go_enter Try.func11, Try.ntmps11
    go_wp2
    exact bodyPost_ret (v := .tuple #[.bool false, .int .i64 1]) (by simp [results, Try.results11, go_sem]) rfl ⟨rfl, HB.out⟩
  · have h1' : ¬ 100 < x.size := by simp only at h1; omega
    have h2' : ¬ t < 0 := by simp only at h2; omega
    have h3' : ¬ 1099511627776 < t := by simp only at h3; omega
    have HN : Hid (∀ W, _) := fun W => isnone_any r n W
    simp only at h4
    rw [h4] at HN
    clear h hx h1 h2 h3 h4
    go_enter Try.func11, Try.ntmps11
    go_wp2_with fail
    refine (HN.out _).mono ?_
    rintro e w1 ⟨rfl, hb1⟩
    have HB1 : Hid _ := bt HB.out hb1
    clear hb1
    go_wp2
    exact bodyPost_ret (v := .tuple #[.bool false, .int .i64 1]) (by simp [results, Try.results11, go_sem]) rfl ⟨rfl, HB1.out⟩
end Go.Proofs.Ytebfhomopdnkkaa
