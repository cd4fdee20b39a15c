/-
  OrsetSeen: what a remove had not seen stays; what it had seen is gone, whichever comes first. For every input.
-/
import Derived.Test.YtoglhhoniojbaaaKSeen
import Derived.Test.YtoglhhoniojbaaaBVec
namespace Go.Proofs.Ytoglhhoniojbaaa.orsetSeen
open Go.ChangeShapes Go.WideShapes Go.ChangeAt Go.RowKit
open Go.ChangeMaps (open_string shut_string)
set_option linter.unusedVariables false

theorem laidOut : laidOutB Try.prog = true := by kernel_rfl
set_option maxRecDepth 100000 in
theorem lifted (os : Os) (started : os.Started) (H : Type) (enc : TypeId × Value → H) :
    ReturnsInHanded {} Try.checked os 7 .any (Rows.orsetSeenSpec.pre6 enc Try.prog Try.f7 Rows.orsetSeenRow.domain false) (Rows.orsetSeenSpec.post enc Try.prog Try.f7 false true false false) := by
  refine returnsInHanded_of_change (C := Try.checked) own started (by kernel_rfl) Try.func7
    (ChangeSpec.witness6 (enc := enc) (C := Try.checked) false ⟨#[], #[.slice none 0 0, .agg #[.int .i64 0, .int .i64 0, .int .i64 0, .int .i64 0, .int .i64 0, .int .i64 0, .int .i64 0], .bool false], []⟩ 8 (by kernel_rfl) (by kernel_rfl) (by kernel_rfl) (by kernel_rfl)) ?_
  intro W base args ds gs before hval0 hW hcnd _
  have hval : ∀ (j : Nat) t v, Try.f7.params[j]? = some t → args[j]? = some v → Value.okWide Try.prog W .any base t v := hval0
  have hW' := hW
  obtain ⟨p, q, hA0, hV, rfl, _, _⟩ := hW
  have hA : DataW.TrodAll enc Try.prog W 0 (fun _ => true) true Try.f7.params.toList args.toList ds p := hA0
  rw [Try.params7] at hA hval
  obtain ⟨v0, vs0, d0, ds0, p0, q0, hargs, rfl, rfl, h0, r0⟩ := trodAll_cons hA
  obtain ⟨v1, vs1, d1, ds1, p1, q1, rfl, rfl, rfl, h1, r1⟩ := trodAll_cons r0
  obtain ⟨v2, vs2, d2, ds2, p2, q2, rfl, rfl, rfl, h2, r2⟩ := trodAll_cons r1
  obtain ⟨rfl, rfl, rfl⟩ := trodAll_nil r2
  obtain rfl : args = #[v0, v1, v2] := by cases args; simp_all
  obtain ⟨rfl, rfl⟩ := trodVars_none hV
  obtain ⟨a0, len0, c0, rfl⟩ := okWide_slice Try.underlying49 (hval 0 49 v0 rfl rfl)
  have hk0 := h0
  obtain ⟨hlc0, hcm0, V0, hV0, hT0⟩ := openedStructs 2 (by decide) Try.underlying49 Try.underlying31 (by kernel_rfl) (fun j f hj => by rcases j with _ | _ | j <;> simp at hj <;> subst hj <;> exact ⟨rfl, by kernel_rfl⟩) rfl h0
  have hI0 : ∀ i j, i < len0 → j < 2 → ∃ z, V0 i j = .int .i64 z ∧ (Lit.int .i64 z).wf = true := by
    intro i j hi hj
    rcases j with _ | _ | j
    · obtain ⟨n, y, hy⟩ := hT0 i 0 _ hi rfl
      obtain ⟨z, hz, _, hw⟩ := DataW.trod_int Try.underlying3 hy
      exact ⟨z, by simpa using hz, hw⟩
    · obtain ⟨n, y, hy⟩ := hT0 i 1 _ hi rfl
      obtain ⟨z, hz, _, hw⟩ := DataW.trod_int Try.underlying2 hy
      exact ⟨z, by simpa using hz, hw⟩
    · omega
  have hlt0 : ∀ x ∈ p0, x.block < W.heap.size := fun x hx => by have := hW'.lt x (by simp [hx]); simpa using this
  have hk1 := h1
  obtain ⟨a1, rfl, hp1, w1⟩ := opened7 Try.underlying28 Try.underlying2 (by kernel_rfl) (by kernel_rfl) (hval 1 28 v1 rfl rfl) h1
  have hlt1 : ∀ x ∈ p1, x.block < W.heap.size := fun x hx => by rw [hp1] at hx; cases hx
  obtain ⟨a2, rfl, rfl, rfl⟩ := open_bool Try.underlying4 (hval 2 4 v2 rfl rfl) h2
  clear hA0 hval0
  simp only [List.append_nil] at hW'
  refine (seen_all a0 len0 c0 a1 w1 a2 W hlc0 hcm0 V0 hV0 hI0).mono fun e W' ⟨he, hb⟩ => ?_
  subst he
  exact ⟨_, rfl, ⟨_, _, _, [], _, [], hW', (trodAll_cons_mk (shut_bool Try.underlying4 _) trodAll_mk0), (trodAll_cons_mk (Below.trod laidOut (by kernel_rfl) (of_decide_eq_true (by kernel_rfl)) hk0 hb hlt0) (trodAll_cons_mk (Below.trod laidOut (by kernel_rfl) (of_decide_eq_true (by kernel_rfl)) hk1 hb hlt1) (trodAll_cons_mk (shut_bool Try.underlying4 a2) trodAll_mk0))), rfl, hb.frame _, fun h => by cases h⟩⟩

end Go.Proofs.Ytoglhhoniojbaaa.orsetSeen
namespace Go.Proofs.Ytoglhhoniojbaaa
open Go.ChangeShapes Go.WideShapes Go.ChangeAt Go.RowKit
set_option linter.unusedVariables false
/-- THE STATEMENT. -/
theorem orsetSeen_holds : Rows.OrsetSeenSaid :=
  OpenClaim.holds_of_wide 7 Try.f7 rfl rfl rfl rfl rfl rfl rfl ⟨rfl, rfl, rfl, rfl, rfl⟩ rfl rfl rfl rfl rfl (by kernel_rfl) Try.func7 (by kernel_rfl)
    (of_decide_eq_true (by kernel_rfl)) (by unfold Func.isWrapper; first | (rw [if_pos (by decide +kernel)]; kernel_rfl) | (rw [if_neg (by decide +kernel)]; exact ⟨rfl, rfl⟩))
    (fun os started H enc _ => orsetSeen.lifted os started H enc)
#print axioms orsetSeen_holds
end Go.Proofs.Ytoglhhoniojbaaa
