/-
  No cell of these rows narrows 'for every input' (looked for: loops, veiled, ifaces, maps, wideKeys, modest, calm, conditions, laid).
  DERIVED. THE GIVEN ROWS OF THIS SEAT. 5 by the template 'for every input the law returns true; each argument reads behind the call as it read before'; 0 by the template 'total and deterministic' (their statements: YtebfhomopdnkkaaTotals.lean).
  GIVEN WITH THE SEED: the statements are not yours to turn. If you find one false, say at which input.
  Laid BY PROGRAM, IN A SANDBOX (cutbox-rows.mjs): the forced cells as the released guide's own fill.sh prints them over the translation 01cddedb960fe380… (all of the seat's roots in one cut). By AI agents, Wed Nov 11 2026. No macro, syntax, notation, axiom, sorry.
-/
import Derived.Test.YtebfhomopdnkkaaChecked
import GoSem.Claim
import GoSem.ClaimJoined
import GoSem.ClaimMapViews
import Derived.JoinedTies
import Derived.KernelRfl
namespace Go.Proofs.Ytebfhomopdnkkaa
/- THE CELL 'sum', in the pinned program and in every row, IS THE sha256 OF THE DUMP (.gsa) THAT YtebfhomopdnkkaaProg.lean LOADS. Nothing in Lean hashes anything: it is a label: what it is worth is what the hold of that sum in a sandbox is worth. -/
noncomputable def Try.pinned : Pinned := { name := "ytebfhomopdnkkaa", sum := "01cddedb960fe3800d0e792f1c0c87496a1b102d77f15d457fb311266102042d", checked := Try.checked }
namespace Rows
def none {H : Type} : Left H := { results := [], args := [] }

/-- 'rostrumlaw11.LastKnown': WHATEVER THE INPUT: true; the input reads as it did. -/
def lastKnownSpec : ChangeSpec := { name := "lastKnown", fn := fun _ => fun
  | [] => { results := [.lit (.bool true)], args := [] }
  | _ => none }
def lastKnownRow : OpenClaim := { program := "ytebfhomopdnkkaa", sum := "01cddedb960fe3800d0e792f1c0c87496a1b102d77f15d457fb311266102042d", func := "rostrum/rostrumlaw11.LastKnown", spec := "lastKnown", apart := false }
def LastKnownSaid : Prop := lastKnownRow.holds Try.pinned (OpenSpec.ofChange lastKnownSpec)

/-- ITS FALSE NEIGHBOUR: 'it returns false'. Refute it at one input. -/
def lastKnownWrong : ChangeSpec := { name := "lastKnown", fn := fun _ => fun
  | [] => { results := [.lit (.bool false)], args := [] }
  | _ => none }
def LastKnownWrongFalsely : Prop := lastKnownRow.holds Try.pinned (OpenSpec.ofChange lastKnownWrong)

/-- 'rostrumlaw11.LastPlays': WHATEVER THE INPUT: true; the input reads as it did. -/
def lastPlaysSpec : ChangeSpec := { name := "lastPlays", fn := fun _ => fun
  | [d1, d2] => { results := [.lit (.bool true)], args := [d1, d2] }
  | _ => none }
def lastPlaysRow : OpenClaim := { program := "ytebfhomopdnkkaa", sum := "01cddedb960fe3800d0e792f1c0c87496a1b102d77f15d457fb311266102042d", func := "rostrum/rostrumlaw11.LastPlays", spec := "lastPlays", apart := false }
def LastPlaysSaid : Prop := lastPlaysRow.holds Try.pinned (OpenSpec.ofChange lastPlaysSpec)

/-- ITS FALSE NEIGHBOUR: 'it returns false'. Refute it at one input. -/
def lastPlaysWrong : ChangeSpec := { name := "lastPlays", fn := fun _ => fun
  | [d1, d2] => { results := [.lit (.bool false)], args := [d1, d2] }
  | _ => none }
def LastPlaysWrongFalsely : Prop := lastPlaysRow.holds Try.pinned (OpenSpec.ofChange lastPlaysWrong)

/-- 'rostrumlaw11.LastOrder': WHATEVER THE INPUT: true; the input reads as it did. -/
def lastOrderSpec : ChangeSpec := { name := "lastOrder", fn := fun _ => fun
  | [d1, d2] => { results := [.lit (.bool true)], args := [d1, d2] }
  | _ => none }
def lastOrderRow : OpenClaim := { program := "ytebfhomopdnkkaa", sum := "01cddedb960fe3800d0e792f1c0c87496a1b102d77f15d457fb311266102042d", func := "rostrum/rostrumlaw11.LastOrder", spec := "lastOrder", apart := false }
def LastOrderSaid : Prop := lastOrderRow.holds Try.pinned (OpenSpec.ofChange lastOrderSpec)

/-- ITS FALSE NEIGHBOUR: 'it returns false'. Refute it at one input. -/
def lastOrderWrong : ChangeSpec := { name := "lastOrder", fn := fun _ => fun
  | [d1, d2] => { results := [.lit (.bool false)], args := [d1, d2] }
  | _ => none }
def LastOrderWrongFalsely : Prop := lastOrderRow.holds Try.pinned (OpenSpec.ofChange lastOrderWrong)

/-- 'rostrumlaw11.LastGrows': WHATEVER THE INPUT: true; the input reads as it did. -/
def lastGrowsSpec : ChangeSpec := { name := "lastGrows", fn := fun _ => fun
  | [d] => { results := [.lit (.bool true)], args := [d] }
  | _ => none }
def lastGrowsRow : OpenClaim := { program := "ytebfhomopdnkkaa", sum := "01cddedb960fe3800d0e792f1c0c87496a1b102d77f15d457fb311266102042d", func := "rostrum/rostrumlaw11.LastGrows", spec := "lastGrows", apart := false }
def LastGrowsSaid : Prop := lastGrowsRow.holds Try.pinned (OpenSpec.ofChange lastGrowsSpec)

/-- ITS FALSE NEIGHBOUR: 'it returns false'. Refute it at one input. -/
def lastGrowsWrong : ChangeSpec := { name := "lastGrows", fn := fun _ => fun
  | [d] => { results := [.lit (.bool false)], args := [d] }
  | _ => none }
def LastGrowsWrongFalsely : Prop := lastGrowsRow.holds Try.pinned (OpenSpec.ofChange lastGrowsWrong)

/-- 'rostrumlaw11.LastBack': WHATEVER THE INPUT: true; the input reads as it did. -/
def lastBackSpec : ChangeSpec := { name := "lastBack", fn := fun _ => fun
  | [d1, d2] => { results := [.lit (.bool true)], args := [d1, d2] }
  | _ => none }
def lastBackRow : OpenClaim := { program := "ytebfhomopdnkkaa", sum := "01cddedb960fe3800d0e792f1c0c87496a1b102d77f15d457fb311266102042d", func := "rostrum/rostrumlaw11.LastBack", spec := "lastBack", apart := false }
def LastBackSaid : Prop := lastBackRow.holds Try.pinned (OpenSpec.ofChange lastBackSpec)

/-- ITS FALSE NEIGHBOUR: 'it returns false'. Refute it at one input. -/
def lastBackWrong : ChangeSpec := { name := "lastBack", fn := fun _ => fun
  | [d1, d2] => { results := [.lit (.bool false)], args := [d1, d2] }
  | _ => none }
def LastBackWrongFalsely : Prop := lastBackRow.holds Try.pinned (OpenSpec.ofChange lastBackWrong)

/- THE SECOND FORM. 'bulk': how many values and letters a reading holds, each counted each time it is reached (what is shared counts as often as it is met; a slice's spare places count too). A statement '..UptoSaid' is the law's where the arguments, and the package variables that the reading takes, are together of bulk at most 1048576: NARROWER than '..Said'. Prove '..Said' where nothing that the law and all that it calls make is longer than what came in: it says more and counts as full. Else prove '..UptoSaid'. A law counts once. -/
mutual
def uptoBulk {H : Type} : DataW H → Nat
  | .lit (.string bytes) => bytes.length + 1
  | .lit _ => 1
  | .nil => 1
  | .ptr d => uptoBulk d + 1
  | .slice elems spare => uptoBulkAll elems + uptoBulkAll spare + 1
  | .agg parts => uptoBulkAll parts + 1
  | .iface _ d => uptoBulk d + 1
  | .map entries => uptoBulkEntries entries + 1
  | .held _ => 1
def uptoBulkAll {H : Type} : List (DataW H) → Nat
  | [] => 0
  | d :: r => uptoBulk d + uptoBulkAll r
def uptoBulkEntries {H : Type} : List (Lit × DataW H) → Nat
  | [] => 0
  | x :: r => uptoBulkEntry x + uptoBulkEntries r
def uptoBulkEntry {H : Type} : Lit × DataW H → Nat
  | (.string bytes, d) => bytes.length + uptoBulk d + 1
  | (_, d) => uptoBulk d + 1
 end
def uptoSmall : (H : Type) → List (DataW H) → Bool := fun _ ds => decide (uptoBulkAll ds ≤ 1048576)
def OpenSpec.upto (s : _root_.Go.ChangeSpec) : _root_.Go.OpenSpec := { _root_.Go.OpenSpec.ofChange s with cond := some uptoSmall }

/-- 'rostrumlaw11.LastKnown', WHERE WHAT IT READS IS OF BULK AT MOST 1048576: true; the input reads as it did. -/
def lastKnownUptoRow : OpenClaim := { program := "ytebfhomopdnkkaa", sum := "01cddedb960fe3800d0e792f1c0c87496a1b102d77f15d457fb311266102042d", func := "rostrum/rostrumlaw11.LastKnown", spec := "lastKnown", apart := false, narrowed := true }
def LastKnownUptoSaid : Prop := lastKnownUptoRow.holds Try.pinned (OpenSpec.upto lastKnownSpec)

/-- 'rostrumlaw11.LastPlays', WHERE WHAT IT READS IS OF BULK AT MOST 1048576: true; the input reads as it did. -/
def lastPlaysUptoRow : OpenClaim := { program := "ytebfhomopdnkkaa", sum := "01cddedb960fe3800d0e792f1c0c87496a1b102d77f15d457fb311266102042d", func := "rostrum/rostrumlaw11.LastPlays", spec := "lastPlays", apart := false, narrowed := true }
def LastPlaysUptoSaid : Prop := lastPlaysUptoRow.holds Try.pinned (OpenSpec.upto lastPlaysSpec)

/-- 'rostrumlaw11.LastOrder', WHERE WHAT IT READS IS OF BULK AT MOST 1048576: true; the input reads as it did. -/
def lastOrderUptoRow : OpenClaim := { program := "ytebfhomopdnkkaa", sum := "01cddedb960fe3800d0e792f1c0c87496a1b102d77f15d457fb311266102042d", func := "rostrum/rostrumlaw11.LastOrder", spec := "lastOrder", apart := false, narrowed := true }
def LastOrderUptoSaid : Prop := lastOrderUptoRow.holds Try.pinned (OpenSpec.upto lastOrderSpec)

/-- 'rostrumlaw11.LastGrows', WHERE WHAT IT READS IS OF BULK AT MOST 1048576: true; the input reads as it did. -/
def lastGrowsUptoRow : OpenClaim := { program := "ytebfhomopdnkkaa", sum := "01cddedb960fe3800d0e792f1c0c87496a1b102d77f15d457fb311266102042d", func := "rostrum/rostrumlaw11.LastGrows", spec := "lastGrows", apart := false, narrowed := true }
def LastGrowsUptoSaid : Prop := lastGrowsUptoRow.holds Try.pinned (OpenSpec.upto lastGrowsSpec)

/-- 'rostrumlaw11.LastBack', WHERE WHAT IT READS IS OF BULK AT MOST 1048576: true; the input reads as it did. -/
def lastBackUptoRow : OpenClaim := { program := "ytebfhomopdnkkaa", sum := "01cddedb960fe3800d0e792f1c0c87496a1b102d77f15d457fb311266102042d", func := "rostrum/rostrumlaw11.LastBack", spec := "lastBack", apart := false, narrowed := true }
def LastBackUptoSaid : Prop := lastBackUptoRow.holds Try.pinned (OpenSpec.upto lastBackSpec)

end Rows
end Go.Proofs.Ytebfhomopdnkkaa
