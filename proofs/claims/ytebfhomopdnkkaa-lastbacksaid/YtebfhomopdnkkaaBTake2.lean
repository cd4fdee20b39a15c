/-
  BTake: a nil check of a pointer that is not nil, taken first; an operation of several that come up together.
-/
import Derived.Test.YtebfhomopdnkkaaBTake
namespace Go.Proofs.Ytebfhomopdnkkaa
open Go.RowKit Go.Lib
set_option linter.unusedVariables false

section
variable {P : Program} {ops : Array Oper} {Q : Exit → Act → World → Prop} {md : Region.Mode} {C : World → Prop}
theorem takeNil {l rest : List Oper} {i : Nat} {oi : Oper} {x : Operand} {ad : Addr} {fuel : Nat} {listed : Array Bool} {a : Act} {w : World} (hi : l.drop i = oi :: rest) (hop : oi.op = .nilCheck x) (hx : a.eval x = .pointer (some ad))
    (hs : Region.noSelect l.toArray = true) (hf : Region.free md l.toArray listed i = true) (hr : (Region.ready md l.toArray listed).contains i = true)
    (hQ : ∀ v c a w, Q (.panic c) (a.put oi.dst v) w → Q (.panic c) a w) (hw : Region.wanted oi (yielded l.toArray a.tmps) = true) (hS : C w)
    (h : wpAnyH P md l.toArray Q C fuel (listed.setIfInBounds i true) (a.put oi.dst (.pointer (some ad))) w) : wpAnyH P md l.toArray Q C (fuel + 1) listed a w :=
  wpAnyH_take (at_of_drop hi) hs hf hr (hQ _) (Or.inl ⟨hw, fun w' _ => by unfold execOp; rw [hop]; simp only [hx]; rfl⟩) hS h
end
end Go.Proofs.Ytebfhomopdnkkaa
