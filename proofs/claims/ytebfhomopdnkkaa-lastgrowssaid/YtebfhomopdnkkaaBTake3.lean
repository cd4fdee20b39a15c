/-
  BTake: a part of a slice (which yields a value), taken first.
-/
import Derived.Test.YtebfhomopdnkkaaBTake2
namespace Go.Proofs.Ytebfhomopdnkkaa
open Go.RowKit Go.Lib
set_option linter.unusedVariables false

section
variable {P : Program} {ops : Array Oper} {Q : Exit → Act → World → Prop} {md : Region.Mode} {C : World → Prop}
/-- An operation that is known to yield a value and to leave the world. -/
theorem takeVal {l rest : List Oper} {i : Nat} {oi : Oper} (v : Value) {fuel : Nat} {listed : Array Bool} {a : Act} {w : World} (hi : l.drop i = oi :: rest)
    (hs : Region.noSelect l.toArray = true) (hf : Region.free md l.toArray listed i = true) (hr : (Region.ready md l.toArray listed).contains i = true)
    (hQ : ∀ v c a w, Q (.panic c) (a.put oi.dst v) w → Q (.panic c) a w) (hw : Region.wanted oi (yielded l.toArray a.tmps) = true) (hS : C w)
    (hv : ∀ w', C w' → (execOp a.eval oi).run P w' = .ok (.value v) w')
    (h : wpAnyH P md l.toArray Q C fuel (listed.setIfInBounds i true) (a.put oi.dst v) w) : wpAnyH P md l.toArray Q C (fuel + 1) listed a w :=
  wpAnyH_take (at_of_drop hi) hs hf hr (hQ _) (Or.inl ⟨hw, hv⟩) hS h
end
end Go.Proofs.Ytebfhomopdnkkaa
