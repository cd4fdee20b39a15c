/-
  DotsPlays: any dots, and others' dots, in any order: what is there, what is loose, its bytes, are as the document says: at most 60 dots. For every input.
-/
import Derived.Test.YtglmmhgmdhdleaaZ4
import Derived.Test.YtglmmhgmdhdleaaBVec
namespace Go.Proofs.Ytglmmhgmdhdleaa.dotsPlays
open Go.ChangeShapes Go.WideShapes Go.ChangeAt Go.RowKit
open Go.ChangeMaps (open_string shut_string)
set_option linter.unusedVariables false

theorem laidOut : laidOutB Try.prog = true := by kernel_rfl
set_option maxRecDepth 100000 in
theorem lifted (os : Os) (started : os.Started) (H : Type) (enc : TypeId × Value → H) :
    ReturnsInHanded {} Try.checked os 4 .any (Rows.dotsPlaysSpec.pre6 enc Try.prog Try.f4 Rows.dotsPlaysRow.domain false) (Rows.dotsPlaysSpec.post enc Try.prog Try.f4 false true false false) := by
  refine returnsInHanded_of_change (C := Try.checked) own started (by kernel_rfl) Try.func4
    (ChangeSpec.witness6 (enc := enc) (C := Try.checked) false ⟨#[], #[.slice none 0 0, .slice none 0 0, .agg #[.int .i64 0, .int .i64 0]], []⟩ 8 (by kernel_rfl) (by kernel_rfl) (by kernel_rfl) (by kernel_rfl)) ?_
  intro W base args ds gs before hval0 hW hcnd _
  have hval : ∀ (j : Nat) t v, Try.f4.params[j]? = some t → args[j]? = some v → Value.okWide Try.prog W .any base t v := hval0
  have hW' := hW
  obtain ⟨p, q, hA0, hV, rfl, _, _⟩ := hW
  have hA : DataW.TrodAll enc Try.prog W 0 (fun _ => true) true Try.f4.params.toList args.toList ds p := hA0
  rw [Try.params4] at hA hval
  obtain ⟨v0, vs0, d0, ds0, p0, q0, hargs, rfl, rfl, h0, r0⟩ := trodAll_cons hA
  obtain ⟨v1, vs1, d1, ds1, p1, q1, rfl, rfl, rfl, h1, r1⟩ := trodAll_cons r0
  obtain ⟨v2, vs2, d2, ds2, p2, q2, rfl, rfl, rfl, h2, r2⟩ := trodAll_cons r1
  obtain ⟨rfl, rfl, rfl⟩ := trodAll_nil r2
  obtain rfl : args = #[v0, v1, v2] := by cases args; simp_all
  obtain ⟨rfl, rfl⟩ := trodVars_none hV
  obtain ⟨a0, len0, c0, rfl⟩ := okWide_slice Try.underlying37 (hval 0 37 v0 rfl rfl)
  have hk0 := h0
  obtain ⟨hlc0, hcm0, V0, hV0, hT0⟩ := openedStructs 2 (by decide) Try.underlying37 Try.underlying29 (by kernel_rfl) (fun j f hj => by rcases j with _ | _ | j <;> simp at hj <;> subst hj <;> exact ⟨rfl, by kernel_rfl⟩) rfl h0
  have hI0 : ∀ i j, i < len0 → j < 2 → ∃ z, V0 i j = .int .i64 z ∧ (Lit.int .i64 z).wf = true := by
    intro i j hi hj
    rcases j with _ | _ | j
    · obtain ⟨n, y, hy⟩ := hT0 i 0 _ hi rfl
      obtain ⟨z, hz, _, hw⟩ := DataW.trod_int Try.underlying3 hy
      exact ⟨z, by simpa using hz, hw⟩
    · obtain ⟨n, y, hy⟩ := hT0 i 1 _ hi rfl
      obtain ⟨z, hz, _, hw⟩ := DataW.trod_int Try.underlying2 hy
      exact ⟨z, by simpa using hz, hw⟩
    · omega
  have hlt0 : ∀ x ∈ p0, x.block < W.heap.size := fun x hx => by have := hW'.lt x (by simp [hx]); simpa using this
  obtain ⟨a1, len1, c1, rfl⟩ := okWide_slice Try.underlying37 (hval 1 37 v1 rfl rfl)
  have hk1 := h1
  obtain ⟨hlc1, hcm1, V1, hV1, hT1⟩ := openedStructs 2 (by decide) Try.underlying37 Try.underlying29 (by kernel_rfl) (fun j f hj => by rcases j with _ | _ | j <;> simp at hj <;> subst hj <;> exact ⟨rfl, by kernel_rfl⟩) rfl h1
  have hI1 : ∀ i j, i < len1 → j < 2 → ∃ z, V1 i j = .int .i64 z ∧ (Lit.int .i64 z).wf = true := by
    intro i j hi hj
    rcases j with _ | _ | j
    · obtain ⟨n, y, hy⟩ := hT1 i 0 _ hi rfl
      obtain ⟨z, hz, _, hw⟩ := DataW.trod_int Try.underlying3 hy
      exact ⟨z, by simpa using hz, hw⟩
    · obtain ⟨n, y, hy⟩ := hT1 i 1 _ hi rfl
      obtain ⟨z, hz, _, hw⟩ := DataW.trod_int Try.underlying2 hy
      exact ⟨z, by simpa using hz, hw⟩
    · omega
  have hlt1 : ∀ x ∈ p1, x.block < W.heap.size := fun x hx => by have := hW'.lt x (by simp [hx]); simpa using this
  have hk2 := h2
  obtain ⟨a2, b2, rfl, hp2, w2, wb2⟩ := opened2 Try.underlying29 (by kernel_rfl) (by kernel_rfl) Try.underlying3 Try.underlying2 (hval 2 29 v2 rfl rfl) h2
  have hlt2 : ∀ x ∈ p2, x.block < W.heap.size := fun x hx => by rw [hp2] at hx; cases hx
  clear hA0 hval0
  simp only [List.append_nil] at hW'
  refine (plays_all a0 len0 c0 a1 len1 c1 a2 b2 w2 wb2 W hlc0 hcm0 V0 hV0 hI0 hlc1 hcm1 V1 hV1 hI1).mono fun e W' ⟨he, hb⟩ => ?_
  subst he
  exact ⟨_, rfl, ⟨_, _, _, [], _, [], hW', (trodAll_cons_mk (shut_bool Try.underlying4 _) trodAll_mk0), (trodAll_cons_mk (Below.trod laidOut (by kernel_rfl) (of_decide_eq_true (by kernel_rfl)) hk0 hb hlt0) (trodAll_cons_mk (Below.trod laidOut (by kernel_rfl) (of_decide_eq_true (by kernel_rfl)) hk1 hb hlt1) (trodAll_cons_mk (Below.trod laidOut (by kernel_rfl) (of_decide_eq_true (by kernel_rfl)) hk2 hb hlt2) trodAll_mk0))), rfl, hb.frame _, fun h => by cases h⟩⟩

end Go.Proofs.Ytglmmhgmdhdleaa.dotsPlays
namespace Go.Proofs.Ytglmmhgmdhdleaa
open Go.ChangeShapes Go.WideShapes Go.ChangeAt Go.RowKit
set_option linter.unusedVariables false
/-- THE STATEMENT. -/
theorem dotsPlays_holds : Rows.DotsPlaysSaid :=
  OpenClaim.holds_of_wide 4 Try.f4 rfl rfl rfl rfl rfl rfl rfl ⟨rfl, rfl, rfl, rfl, rfl⟩ rfl rfl rfl rfl rfl (by kernel_rfl) Try.func4 (by kernel_rfl)
    (of_decide_eq_true (by kernel_rfl)) (by unfold Func.isWrapper; first | (rw [if_pos (by decide +kernel)]; kernel_rfl) | (rw [if_neg (by decide +kernel)]; exact ⟨rfl, rfl⟩))
    (fun os started H enc _ => dotsPlays.lifted os started H enc)
#print axioms dotsPlays_holds
end Go.Proofs.Ytglmmhgmdhdleaa
