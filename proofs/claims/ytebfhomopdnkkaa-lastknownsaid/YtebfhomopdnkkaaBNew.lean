/-
  Regions that draw their order, whose callees only make new memory: one walk, in the order of the text, over the class of worlds in which all that was there is as it was.
-/
import Derived.Test.YtebfhomopdnkkaaBKit
import Derived.Deep.QuietTactic
import Derived.BigQuiet
namespace Go.Proofs.Ytebfhomopdnkkaa
open Go.RowKit Go.Lib
set_option linter.unusedVariables false

/-- The world at hand under a letter, with what is known of it. -/
theorem wp_letter {P : Program} {s : Code} {Q : Exit → Act → World → Prop} {a : Act} {w : World} (R : World → Prop) (h : R w) (k : ∀ w', R w' → s.wp P Q a w') : s.wp P Q a w := k w h
/-- A world in which all that was there is as it was. -/
structure NewW (w : World) where
  v : World
  h : Below w.heap.size w v
def NewW.start (w : World) : NewW w := ⟨w.drew, (Below.refl _ _).drew⟩
theorem wp_region_new {P : Program} {id : Nat} {Q : Exit → Act → World → Prop} {a : Act} {w : World} {l : List Oper} (hm : P.follows .mixedOrders = true) (hB : Region.lexB .any l.toArray = true)
    (h : wpQuiet P l.toArray (fun w' => ∃ n : NewW w, w' = n.v) (fun a' => ∀ w', (∃ n : NewW w, w' = n.v) → Q .normal a' w') l a) : (Code.region id l.toArray true).wp P Q a w :=
  wp_region_quiet (C := fun w' => ∃ n : NewW w, w' = n.v) hm hB ⟨NewW.start w, rfl⟩ (by simpa using h)
/-- The same from any world of the class on. -/
theorem wp_region_more {P : Program} {id : Nat} {Q : Exit → Act → World → Prop} {a : Act} {w : World} {l : List Oper} {n : NewW w} (hm : P.follows .mixedOrders = true) (hB : Region.lexB .any l.toArray = true)
    (h : wpQuiet P l.toArray (fun w' => ∃ n : NewW w, w' = n.v) (fun a' => ∀ w', (∃ n : NewW w, w' = n.v) → Q .normal a' w') l a) : (Code.region id l.toArray true).wp P Q a n.v :=
  wp_region_quiet (C := fun w' => ∃ n : NewW w, w' = n.v) hm hB ⟨⟨n.v.drew, n.h.drew⟩, rfl⟩ (by simpa using h)
/-- A callee's contract, met in such a world. -/
theorem new_of {P : Program} {f : FuncId} {args : Array Value} {w : World} {n : NewW w} {v : Value} (h : Calls P f args n.v fun e w' => e = .returned v ∧ Below n.v.heap.size n.v w') : Calls P f args n.v fun e w'' => e = .returned v ∧ ∃ m : NewW w, w'' = m.v :=
  h.mono fun e w'' ⟨he, hb⟩ => ⟨he, ⟨w'', bt n.h hb⟩, rfl⟩
theorem new_of_same {P : Program} {f : FuncId} {args : Array Value} {w : World} {n : NewW w} {v : Value} (h : Calls P f args n.v fun e w' => e = .returned v ∧ w' = n.v) : Calls P f args n.v fun e w'' => e = .returned v ∧ ∃ m : NewW w, w'' = m.v :=
  h.mono fun e w'' ⟨he, hb⟩ => ⟨he, n, hb⟩
end Go.Proofs.Ytebfhomopdnkkaa
