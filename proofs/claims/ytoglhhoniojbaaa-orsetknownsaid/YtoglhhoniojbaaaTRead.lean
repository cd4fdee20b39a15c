/-
  dots.Dots: New, Has, Vec, Len, Loose; slices.Clone at dots.
-/
import Derived.Test.YtoglhhoniojbaaaTObj
namespace Go.Proofs.Ytoglhhoniojbaaa
open Go.RowKit Go.Lib
set_option linter.unusedVariables false

theorem u_dots : Try.prog.underlying 49 = some (.slice 31) := Try.underlying49
theorem OwnD.empty (w : World) : OwnD (w.alloc (.cells #[] 31)) (.slice (some ⟨w.heap.size, 0, none⟩) 0 0) [] := World.ownsRow_lit w #[] 0 (Nat.zero_le _) (Nat.zero_le _) rfl
theorem bel_grown {w0 w w' : World} {o : Option Nat} (h : Below w0.heap.size w0 w) (hg : w.grownBy w' o) (ho : ∀ b, o = some b → w0.heap.size ≤ b) : Below w0.heap.size w0 w' := h.grown hg h.size ho
set_option maxHeartbeats 1000000 in
theorem cloneD_any (v : Value) (l : List C.Dt) (w : World) (h : OwnD w v l) (hl : l.length ≤ 1000000) :
    Calls Try.prog 39 #[v] w fun e w' => (∃ v', e = .returned v' ∧ OwnD w' v' l ∧ ∀ b, v'.ownBlock = some b → w.heap.size ≤ b) ∧ Below w.heap.size w w' := by
  have HO : Hid (OwnD w v l) := h
  have kn := fun (w : World) (a : Option Addr) (n c n' c' : Nat) => Lib.run_eql_slice_nil (P := Try.prog) w 49 31 a n c n' c' u_dots
  rcases h.shape with ⟨rfl, rfl⟩ | ⟨g, cap, cur, rfl, _⟩
  · clear h
    go_enter Try.func39, Try.ntmps39
    go_wp2
    go_ret
    exact ⟨⟨_, rfl, OwnD.nil _, fun b hb => by cases hb⟩, Below.refl _ _⟩
  · clear h
    go_enter Try.func39, Try.ntmps39
    go_wp2_with (at_builtin; go_must (refine wpList_append_src u_dots info_dot rfl (by decide) rfl _ _ rfl rfl (OwnD.empty w) rfl (row_src (HO.out.below (below_new w _))) (rowD_one l) (by simp only [List.length_nil]; unfold maxLen; omega) (by simp only [List.length_nil]; omega) ?_); intro v2 w2 ho2 hg2 hb2)
    go_ret
    refine ⟨⟨v2, rfl, ?_, fun b hb => ?_⟩, bel_grown (below_new w _) hg2 fun b hb => ?_⟩
    · simpa [OwnD, rowD] using ho2
    · rcases hb2 with h | h
      · rw [hb] at h; cases h; exact Nat.le_refl _
      · rw [hb] at h; cases h; simp
    · cases hb; exact Nat.le_refl _
theorem new_any (w : World) : Calls Try.prog 61 #[] w fun e w' => (∃ g, e = .returned (.pointer (some ⟨g, 0, none⟩)) ∧ w.heap.size ≤ g ∧ DotsAt w' g C.zeroS.c (.slice none 0 0) []) ∧ Below w.heap.size w w' := by
  have H := heap_alloc_new w (.cells (cells8 C.zeroS.c (.slice none 0 0)) 119)
  have HN : Hid _ := H
  clear H
  go_enter Try.func61, Try.ntmps61
  go_wp2
  go_ret
  exact ⟨⟨_, rfl, Nat.le_refl _, HN.out, OwnD.nil _⟩, below_new _ _⟩
end Go.Proofs.Ytoglhhoniojbaaa
