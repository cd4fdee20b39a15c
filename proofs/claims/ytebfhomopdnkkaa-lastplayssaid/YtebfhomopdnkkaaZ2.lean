/-
  Several texts in one: BTake, BTake2, BTake3.
-/
import Derived.Test.YtebfhomopdnkkaaBNew
import Derived.Deep.RegionHeld
namespace Go.Proofs.Ytebfhomopdnkkaa
open Go.RowKit Go.Lib
set_option linter.unusedVariables false

/-- Operations that yield a value and are no call. -/
def passive : Op → Bool
  | .move _ => true
  | .assign _ => true
  | .pick _ _ _ => true
  | .load _ _ => true
  | .binOp _ _ _ _ _ => true
  | .unOp _ _ _ => true
  | .convert _ _ _ => true
  | .fieldAddr _ _ _ => true
  | .indexAddr _ _ _ => true
  | .extract _ _ => true
  | .build _ _ => true
  | .index _ _ _ => true
  | .field _ _ _ => true
  | _ => false
theorem value_then {α : Type} {w' : World} {n : Next} {f : α → Value} (r : Result α) (h : (r.andThen fun a w => Result.ok (Next.value (f a)) w) = .ok n w') : ∃ u, n = .value u := by
  cases r with
  | ok a w1 => simp only [Result.andThen_ok, Result.ok.injEq] at h; exact ⟨f a, h.1.symm⟩
  | halt x w1 => simp [Result.andThen] at h
theorem passive_value {P : Program} {ρ : Operand → Value} {o : Oper} {w w' : World} {n : Next} (hp : passive o.op = true) (h : (execOp ρ o).run P w = .ok n w') : ∃ u, n = .value u := by
  unfold execOp at h
  cases hop : o.op <;> rw [hop] at h hp <;> simp only [passive, Bool.false_eq_true] at hp <;> simp only [Sem.run_bind, Sem.run_pure] at h
  all_goals first
    | exact value_then (f := fun a => a) _ h
    | exact value_then (α := Bool) _ h
    | (simp only [Result.ok.injEq] at h; exact ⟨_, h.1.symm⟩)
theorem yields_of_quiet {P : Program} {C : World → Prop} {o : Oper} {a : Act} {w : World} {v : Value} (hp : passive o.op = true) (h : o.quietAt P a C w v) : (execOp a.eval o).run P w = .ok (.value v) w := by
  unfold Oper.quietAt at h
  cases hr : (execOp a.eval o).run P w with
  | ok n w' =>
    obtain ⟨u, rfl⟩ := passive_value hp hr
    rw [hr] at h
    obtain ⟨h1, h2⟩ := h
    rw [h1, h2]
  | halt x w' =>
    rw [hr] at h
    exact h.elim
theorem at_of_drop {l rest : List Oper} {i : Nat} {o : Oper} (h : l.drop i = o :: rest) : l.toArray[i]? = some o := by
  have := congrArg List.head? h
  simpa [List.head?_drop] using this
section
variable {P : Program} {ops : Array Oper} {Q : Exit → Act → World → Prop} {md : Region.Mode} {C : World → Prop}
/-- An operation that only reads, taken first. -/
theorem takeQuiet {i : Nat} {oi : Oper} {fuel : Nat} {listed : Array Bool} {a : Act} {w : World} (hi : ops[i]? = some oi)
    (hs : Region.noSelect ops = true) (hf : Region.free md ops listed i = true) (hr : (Region.ready md ops listed).contains i = true)
    (hQ : ∀ v c a w, Q (.panic c) (a.put oi.dst v) w → Q (.panic c) a w) (hp : passive oi.op = true) (hw : Region.wanted oi (yielded ops a.tmps) = true) (hS : C w)
    (h : ∀ K : Act → Prop, (∀ a', wpAnyH P md ops Q C fuel (listed.setIfInBounds i true) a' w → K a') → oi.quiet P a C K) : wpAnyH P md ops Q C (fuel + 1) listed a w := by
  obtain ⟨v, h1, h2⟩ := h _ (fun _ h => h)
  exact wpAnyH_take hi hs hf hr (hQ v) (Or.inl ⟨hw, fun w' hw' => yields_of_quiet hp (h1 w' hw')⟩) hS h2
/-- The same where the operations are written out: the operation is read off the list. -/
theorem takeList {l rest : List Oper} {i : Nat} {oi : Oper} {fuel : Nat} {listed : Array Bool} {a : Act} {w : World} (hi : l.drop i = oi :: rest)
    (hs : Region.noSelect l.toArray = true) (hf : Region.free md l.toArray listed i = true) (hr : (Region.ready md l.toArray listed).contains i = true)
    (hQ : ∀ v c a w, Q (.panic c) (a.put oi.dst v) w → Q (.panic c) a w) (hp : passive oi.op = true) (hw : Region.wanted oi (yielded l.toArray a.tmps) = true) (hS : C w)
    (h : ∀ K : Act → Prop, (∀ a', wpAnyH P md l.toArray Q C fuel (listed.setIfInBounds i true) a' w → K a') → oi.quiet P a C K) : wpAnyH P md l.toArray Q C (fuel + 1) listed a w :=
  takeQuiet (at_of_drop hi) hs hf hr hQ hp hw hS h
/-- An operation that its guard passes over, taken first. -/
theorem takeSkip {i : Nat} {oi : Oper} {fuel : Nat} {listed : Array Bool} {a : Act} {w : World} (hi : ops[i]? = some oi)
    (hs : Region.noSelect ops = true) (hf : Region.free md ops listed i = true) (hr : (Region.ready md ops listed).contains i = true)
    (hQ : ∀ v c a w, Q (.panic c) (a.put oi.dst v) w → Q (.panic c) a w) (hw : Region.wanted oi (yielded ops a.tmps) = false) (hS : C w)
    (h : wpAnyH P md ops Q C fuel (listed.setIfInBounds i true) (a.put oi.dst undef) w) : wpAnyH P md ops Q C (fuel + 1) listed a w :=
  wpAnyH_take hi hs hf hr (hQ undef) (Or.inr ⟨hw, rfl⟩) hS h
/-- The condition may be narrowed on the way. -/
theorem wpAnyH_strengthen {S S' : World → Prop} (hSS : ∀ w, S' w → S w) : ∀ (fuel : Nat) (listed : Array Bool) (a : Act) (w : World), wpAnyH P md ops Q S' fuel listed a w → wpAnyH P md ops Q S fuel listed a w
  | 0, _, _, _, h => h
  | fuel + 1, _, _, _, h => ⟨h.1, fun i hi => wpOp_mono (fun a' w' h' => ⟨hSS _ h'.1, wpAnyH_strengthen hSS fuel _ a' w' h'.2⟩) (h.2 i hi)⟩
/-- A call of a Go function that comes up alone. -/
theorem takeCall {i : Nat} {oi : Oper} {fuel : Nat} {listed : Array Bool} {a : Act} {w : World} (hi : ops[i]? = some oi) (hr : Region.ready md ops listed = [i]) (hw : Region.wanted oi (yielded ops a.tmps) = true)
    (h : ∀ K : Act → World → Prop, Shut (∀ a w, C w → wpAnyH P md ops Q C fuel (listed.setIfInBounds i true) a w → K a w) → Oper.wp P oi a w K Q) : wpAnyH P md ops Q C (fuel + 1) listed a w := by
  refine wpAnyH_ready hr (by simp) (AllReadyH.cons hi (fun K hK => ?_) AllReadyH.nil)
  rw [if_pos hw]
  exact h K (fun a w hS hW => hK.out a w hS (fun _ => hW))
theorem callList {l rest : List Oper} {i : Nat} {oi : Oper} {fuel : Nat} {listed : Array Bool} {a : Act} {w : World} (hi : l.drop i = oi :: rest) (hr : Region.ready md l.toArray listed = [i]) (hw : Region.wanted oi (yielded l.toArray a.tmps) = true)
    (h : ∀ K : Act → World → Prop, Shut (∀ a w, C w → wpAnyH P md l.toArray Q C fuel (listed.setIfInBounds i true) a w → K a w) → Oper.wp P oi a w K Q) : wpAnyH P md l.toArray Q C (fuel + 1) listed a w :=
  takeCall (at_of_drop hi) hr hw h
end
end Go.Proofs.Ytebfhomopdnkkaa

namespace Go.Proofs.Ytebfhomopdnkkaa
open Go.RowKit Go.Lib
set_option linter.unusedVariables false

section
variable {P : Program} {ops : Array Oper} {Q : Exit → Act → World → Prop} {md : Region.Mode} {C : World → Prop}
theorem takeNil {l rest : List Oper} {i : Nat} {oi : Oper} {x : Operand} {ad : Addr} {fuel : Nat} {listed : Array Bool} {a : Act} {w : World} (hi : l.drop i = oi :: rest) (hop : oi.op = .nilCheck x) (hx : a.eval x = .pointer (some ad))
    (hs : Region.noSelect l.toArray = true) (hf : Region.free md l.toArray listed i = true) (hr : (Region.ready md l.toArray listed).contains i = true)
    (hQ : ∀ v c a w, Q (.panic c) (a.put oi.dst v) w → Q (.panic c) a w) (hw : Region.wanted oi (yielded l.toArray a.tmps) = true) (hS : C w)
    (h : wpAnyH P md l.toArray Q C fuel (listed.setIfInBounds i true) (a.put oi.dst (.pointer (some ad))) w) : wpAnyH P md l.toArray Q C (fuel + 1) listed a w :=
  wpAnyH_take (at_of_drop hi) hs hf hr (hQ _) (Or.inl ⟨hw, fun w' _ => by unfold execOp; rw [hop]; simp only [hx]; rfl⟩) hS h
end
end Go.Proofs.Ytebfhomopdnkkaa

namespace Go.Proofs.Ytebfhomopdnkkaa
open Go.RowKit Go.Lib
set_option linter.unusedVariables false

section
variable {P : Program} {ops : Array Oper} {Q : Exit → Act → World → Prop} {md : Region.Mode} {C : World → Prop}
/-- An operation that is known to yield a value and to leave the world. -/
theorem takeVal {l rest : List Oper} {i : Nat} {oi : Oper} (v : Value) {fuel : Nat} {listed : Array Bool} {a : Act} {w : World} (hi : l.drop i = oi :: rest)
    (hs : Region.noSelect l.toArray = true) (hf : Region.free md l.toArray listed i = true) (hr : (Region.ready md l.toArray listed).contains i = true)
    (hQ : ∀ v c a w, Q (.panic c) (a.put oi.dst v) w → Q (.panic c) a w) (hw : Region.wanted oi (yielded l.toArray a.tmps) = true) (hS : C w)
    (hv : ∀ w', C w' → (execOp a.eval oi).run P w' = .ok (.value v) w')
    (h : wpAnyH P md l.toArray Q C fuel (listed.setIfInBounds i true) (a.put oi.dst v) w) : wpAnyH P md l.toArray Q C (fuel + 1) listed a w :=
  wpAnyH_take (at_of_drop hi) hs hf hr (hQ _) (Or.inl ⟨hw, hv⟩) hS h
end
end Go.Proofs.Ytebfhomopdnkkaa
