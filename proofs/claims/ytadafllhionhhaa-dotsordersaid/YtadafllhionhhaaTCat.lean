/-
  slices.Grow of nothing, slices.Concat of two rows of dots.
-/
import Derived.Test.YtadafllhionhhaaTSame
import Derived.Lib.AppendZeros
namespace Go.Proofs.Ytadafllhionhhaa
open Go.RowKit Go.Lib
set_option linter.unusedVariables false

def Fresh (w : World) (v : Value) : Prop := ∀ b, v.ownBlock = some b → w.heap.size ≤ b
set_option maxRecDepth 100000 in
set_option maxHeartbeats 1000000 in
theorem growD_any (n : Nat) (w : World) (hn : n ≤ 1000000) :
    Calls Try.prog 69 #[.slice none 0 0, .int .i64 n] w fun e w' => (∃ v, e = .returned v ∧ OwnD w' v [] ∧ Fresh w v) ∧ Below w.heap.size w w' := by
  obtain ⟨i0, hi, hz0, hz1, hz2⟩ := info_parts info_dot
  have hrz : ∀ (ty : TypeId), 0 < n → (Builtin.append_ #[37, 3] ty #[.slice none 0 0, .int .i64 n]).run Try.prog w = _ := fun ty h0 =>
    Lib.run_append_nil_zeros w 37 3 ty 29 i0 (.agg #[.int .i64 0, .int .i64 0]) .i64 .i64 u_dots Try.underlying3 hi hz0 n h0 (by rw [hz1]; decide) (by omega) (by rw [hz2]; omega)
  have HR : Hid _ := hrz
  clear hrz
  go_enter Try.func69, Try.ntmps69
  by_cases h0 : 0 < n
  · have hG0 := grownCap_ge w n 0 29
    have hGm : grownCap w n 0 29 ≤ maxLen := grownCap_le_maxLen w n 0 29 (by unfold maxLen; omega)
    have HO : Hid (OwnD (w.drew.alloc (.cells (Builtin.zeroCells (Value.agg #[.int .i64 0, .int .i64 0]).cells n ++ Builtin.zeroCells (Value.agg #[.int .i64 0, .int .i64 0]).cells (grownCap w n 0 29 - n)) 29)) (.slice (some ⟨w.heap.size, 0, none⟩) 0 (grownCap w n 0 29)) []) := by
      refine OwnD.make (l := []) (cur := (Builtin.zeroCells (Value.agg #[.int .i64 0, .int .i64 0]).cells n ++ Builtin.zeroCells (Value.agg #[.int .i64 0, .int .i64 0]).cells (grownCap w n 0 29 - n)).toList) (by rw [Array.toArray_toList]; exact heap_alloc_new w.drew _) (Nat.zero_le _) hGm ?_ rfl
      rw [Array.toList_append, zero_dots, zero_dots, List.length_append, rowD_length, rowD_length, List.length_replicate, List.length_replicate]
      omega
    have hG1 : grownCap w n 0 29 ≤ 9223372036854775807 := Nat.le_trans hGm (by decide)
    have h1 := HR.out 37 h0
    have H1 : Hid _ := h1
    clear HR h1 hGm
    generalize grownCap w n 0 29 = G at *
    go_wp2_with (at_builtin; go_must (refine Lib.wpList_append_run _ rfl _ _ _ _ rfl _ _ rfl rfl _ _ H1.out ?_))
    go_ret
    exact ⟨⟨_, rfl, HO.out, fun b hb => by cases hb; exact Nat.le_refl _⟩, (Below.refl _ w).drew.alloc (by simp) _⟩
  · obtain rfl : n = 0 := by omega
    clear HR
    go_wp2
    go_ret
    exact ⟨⟨_, rfl, OwnD.nil _, fun b hb => by cases hb⟩, Below.refl _ _⟩
set_option maxRecDepth 100000 in
set_option maxHeartbeats 4000000 in
theorem concatD_any (b : Nat) (v1 v2 : Value) (l1 l2 : List C.Dt) (w : World) (c0 : w.cell? ⟨b, 0, none⟩ = some v1) (c1 : w.cell? ⟨b, 1, none⟩ = some v2) (h1 : OwnD w v1 l1) (h2 : OwnD w v2 l2) (hl1 : l1.length ≤ 100000) (hl2 : l2.length ≤ 100000) :
    Calls Try.prog 48 #[.slice (some ⟨b, 0, none⟩) 2 2] w fun e w' => (∃ v, e = .returned v ∧ OwnD w' v (l1 ++ l2) ∧ Fresh w v) ∧ Below w.heap.size w w' := by
  obtain ⟨q1, k1, hv1⟩ := h1.len
  obtain ⟨q2, k2, hv2⟩ := h2.len
  subst hv1 hv2
  have H1 : Hid (OwnD w (.slice q1 l1.length k1) l1) := h1
  have H2 : Hid (OwnD w (.slice q2 l2.length k2) l2) := h2
  have C0 : Hid (w.cell? ⟨b, 0, none⟩ = some (.slice q1 l1.length k1)) := c0
  have C1 : Hid (w.cell? ⟨b, 1, none⟩ = some (.slice q2 l2.length k2)) := c1
  clear h1 h2
  obtain ⟨n1, hn1⟩ : ∃ n, n = l1.length := ⟨_, rfl⟩
  obtain ⟨n2, hn2⟩ : ∃ n, n = l2.length := ⟨_, rfl⟩
  have HN1 : Hid (n1 = l1.length) := hn1
  have HN2 : Hid (n2 = l2.length) := hn2
  rw [← hn1] at c0 hl1
  rw [← hn2] at c1 hl2
  clear hn1 hn2
  go_enter Try.func48, Try.ntmps48
  go_wp2
  refine wp_loop_rounds 3 ?_
  repeat (rw [rounds_succ]; go_wp2_with fail)
  clear c0 c1
  have e12 : (n1 : Int) + (n2 : Int) = ((n1 + n2 : Nat) : Int) := by omega
  rw [e12]
  clear e12
  refine (growD_any (n1 + n2) _ (by omega)).mono ?_
  rintro e w1 ⟨⟨v, rfl, ho, hf⟩, hb⟩
  have HO : Hid (OwnD w1 v []) := ho
  have HF : Hid (Fresh w v) := hf
  have HB : Hid (Below w.heap.size w w1) := hb
  have c0 : w1.cell? ⟨b, 0, none⟩ = some (.slice q1 n1 k1) := by rw [HN1.out]; exact (hb.cell (p := ⟨b, 0, none⟩) (World.block_lt_of_cell? _ _ C0.out)).trans C0.out
  clear ho hf hb
  go_wp2
  refine wp_loop_rounds 3 ?_
  rw [rounds_succ]
  go_wp2_with (at_builtin; go_must (refine wpList_append_src u_dots info_dot rfl (by decide) rfl _ _ rfl rfl HO.out rfl (by rw [HN1.out]; exact row_src (H1.out.below HB.out)) (rowD_one l1) (by have := HN1.out; simp only [List.length_nil]; unfold maxLen; omega) (by have := HN1.out; simp only [List.length_nil]; omega) ?_); intro v2 w2 ho2 hg2 hb2)
  have HO2 : Hid (OwnD w2 v2 l1) := by show OwnD _ _ _; simpa [OwnD, rowD] using ho2
  have HB2 : Hid (Below w.heap.size w w2) := bel_grown HB.out hg2 HF.out
  have HF2 : Hid (Fresh w v2) := fun b hb => by
    rcases hb2 with k | k
    · exact HF.out b (k ▸ hb)
    · rw [k] at hb; cases hb; exact HB.out.size
  have c1 : w2.cell? ⟨b, 1, none⟩ = some (.slice q2 n2 k2) := by rw [HN2.out]; exact (HB2.out.cell (p := ⟨b, 1, none⟩) (World.block_lt_of_cell? _ _ C1.out)).trans C1.out
  clear ho2 hg2 hb2 HO HF HB c0
  rw [rounds_succ]
  go_wp2_with (at_builtin; go_must (refine wpList_append_src u_dots info_dot rfl (by decide) rfl _ _ rfl rfl HO2.out rfl (by rw [HN2.out]; exact row_src (H2.out.below HB2.out)) (rowD_one l2) (by have := HN1.out; have := HN2.out; unfold maxLen; omega) (by have := HN1.out; have := HN2.out; omega) ?_); intro v3 w3 ho3 hg3 hb3)
  have HO3 : Hid (OwnD w3 v3 (l1 ++ l2)) := by show OwnD _ _ _; unfold OwnD; rw [List.length_append, ← rowD_append]; exact ho3
  have HB3 : Hid (Below w.heap.size w w3) := bel_grown HB2.out hg3 HF2.out
  have HF3 : Hid (Fresh w v3) := fun b hb => by
    rcases hb3 with k | k
    · exact HF2.out b (k ▸ hb)
    · rw [k] at hb; cases hb; exact HB2.out.size
  clear ho3 hg3 hb3 HO2 HF2 HB2 c1
  rw [rounds_succ]
  go_wp2
  go_ret
  exact ⟨⟨v3, rfl, HO3.out, HF3.out⟩, HB3.out⟩
end Go.Proofs.Ytadafllhionhhaa
