/-
  last.Last: written, Value, When, Write.
-/
import Derived.Test.YtebfhomopdnkkaaECmp
namespace Go.Proofs.Ytebfhomopdnkkaa
open Go.RowKit Go.Lib Go.Sort
set_option linter.unusedVariables false

namespace C
/-- How a write stands to what is there. -/
def ordL (S a : La) : Int := if cmp3 a.t S.t = 0 then cmpD (a.r, a.n) (S.r, S.n) else cmp3 a.t S.t
theorem ordL_pos (S a : La) : 0 < ordL S a ↔ ltL S a = true := by
  rw [ltL_is]
  unfold ordL cmpD cmp3
  simp only
  repeat' split
  all_goals omega
theorem ordL_zero (S a : La) : ordL S a = 0 ↔ eqL S a = true := by
  rw [eqL_is]
  unfold ordL cmpD cmp3
  simp only
  repeat' split
  all_goals omega
theorem isL_eq {S : La} (h : S.Ok) : (S.r == 0 && S.n == 0) = !isL S := by
  unfold isL
  rw [Bool.eq_iff_iff]
  simp only [Bool.and_eq_true, beq_iff_eq, Bool.not_eq_true', bne_eq_false_iff_eq]
  constructor
  · exact And.right
  · intro e
    refine ⟨?_, e⟩
    rw [h.z e]; rfl
end C
theorem written_any (w : World) (g : Nat) (S : C.La) (h : EAt w g false S) (hS : S.Ok) :
    Calls Try.prog 22 #[.pointer (some ⟨g, 0, none⟩)] w fun e w' => e = .returned (.bool (C.isL S)) ∧ w' = w := by
  by_cases hz : S.n = 0
  · have e := hS.z hz
    subst e
    obtain ⟨y0, y1, y2, y3⟩ := cells4_at h
    have e : C.isL C.La.zero = false := rfl
    rw [e]
    clear h hz hS e
    go_enter Try.func22, Try.ntmps22
    go_wp2
    go_ret
    exact ⟨rfl, rfl⟩
  · have e : C.isL S = true := by simp [C.isL, hz]
    rw [e]
    obtain ⟨x, t, r, n⟩ := S
    obtain ⟨y0, y1, y2, y3⟩ := cells4_at h
    simp only at hz
    clear h hS e
    go_enter Try.func22, Try.ntmps22
    go_wp2
    all_goals
      go_ret
      exact ⟨rfl, rfl⟩
set_option maxHeartbeats 4000000 in
theorem value_any (w : World) (g : Nat) (S : C.La) (h : EAt w g false S) (hS : S.Ok) :
    Calls Try.prog 10 #[.pointer (some ⟨g, 0, none⟩)] w fun e w' => e = .returned (.tuple #[.string S.x, .bool (C.isL S)]) ∧ Below w.heap.size w w' := by
  have HW : Hid (∀ n : NewW w, Calls Try.prog 22 #[.pointer (some ⟨g, 0, none⟩)] n.v fun e w' => e = .returned (.bool (C.isL S)) ∧ w' = n.v) := fun n => written_any n.v g S (h.below n.h) hS
  have c0 : ∀ n : NewW w, n.v.cell? ⟨g, 0, none⟩ = some (.string S.x) := fun n => (h.below n.h).cell 0
  have hne : Nonempty (NewW w) := ⟨NewW.start w⟩
  generalize C.isL S = z at HW ⊢
  generalize S.x = x at c0 ⊢
  clear h hS
  go_enter Try.func10, Try.ntmps10
  go_wp2_with fail
  refine wp_region_new (by kernel_rfl) (by kernel_rfl) ?_
  repeat (go_big_quiet_step ((first | (with_reducible exact new_of_same (HW.out _)))))
  refine wpQuiet_nil ?_
  rintro _ ⟨w2, rfl⟩
  clear c0 hne
  go_wp2
  exact bodyPost_ret (v := .tuple #[.string x, .bool z]) (by simp [results, Try.results10, go_sem]) rfl ⟨rfl, w2.h⟩
set_option maxHeartbeats 4000000 in
theorem when_any (w : World) (g : Nat) (S : C.La) (h : EAt w g false S) :
    Calls Try.prog 12 #[.pointer (some ⟨g, 0, none⟩)] w fun e w' => e = .returned (.tuple #[.int .i64 S.t, .agg #[.int .i64 S.r, .int .i64 S.n]]) ∧ Below w.heap.size w w' := by
  obtain ⟨x, t, r, n⟩ := S
  have hb := below_new w (.cells #[.int .i64 0, .int .i64 0] 31)
  obtain ⟨y0, y1, y2, y3⟩ := cells4_at (h.below hb)
  have hlt := h.lt
  have q := heap_alloc_new w (.cells #[.int .i64 0, .int .i64 0] 31)
  have f0 := frozen_cells q 0
  have f1 := frozen_cells q 1
  have q0 := (box2 q).1
  have q1 := (box2 q).2
  clear h hb q
  go_enter Try.func12, Try.ntmps12
  go_wp2_with fail
  go_region
  all_goals
    go_wp2
    refine bodyPost_ret (v := .tuple #[.int .i64 t, .agg #[.int .i64 r, .int .i64 n]]) (by simp [results, Try.results12, go_sem, *]) rfl ⟨rfl, ?_⟩
    exact Below.drew (below_new _ _)
end Go.Proofs.Ytebfhomopdnkkaa
