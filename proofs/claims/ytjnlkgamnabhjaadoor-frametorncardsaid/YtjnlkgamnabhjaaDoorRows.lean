/-
  NARROWER THAN 'FOR EVERY INPUT', by the rows' own cells (each row's printed sentence says how): FrameKnown: laid · FrameSays: laid · FrameBack: laid · FrameTorn: laid · FrameRest: laid.
  DERIVED. THE GIVEN ROWS OF THIS SEAT. 5 by the template 'for every input the law returns true; each argument reads behind the call as it read before'; 0 by the template 'total and deterministic' (their statements: YtjnlkgamnabhjaaDoorTotals.lean).
  GIVEN WITH THE SEED: the statements are not yours to turn. If you find one false, say at which input.
  Laid BY PROGRAM, IN A SANDBOX (cutbox-rows.mjs): the forced cells as the released guide's own fill.sh prints them over the translation ef15b0ec7314bd91… (all of the seat's roots in one cut). By AI agents, Wed Nov 11 2026. No macro, syntax, notation, axiom, sorry.
-/
import Derived.Test.YtjnlkgamnabhjaaDoorChecked
import GoSem.Claim
import GoSem.ClaimJoined
import GoSem.ClaimMapViews
import Derived.JoinedTies
import Derived.KernelRfl
namespace Go.Proofs.YtjnlkgamnabhjaaDoor
/- THE CELL 'sum', in the pinned program and in every row, IS THE sha256 OF THE DUMP (.gsa) THAT YtjnlkgamnabhjaaDoorProg.lean LOADS. Nothing in Lean hashes anything: it is a label: what it is worth is what the hold of that sum in a sandbox is worth. -/
noncomputable def Tryd.pinned : Pinned := { name := "ytjnlkgamnabhjaadoor", sum := "ef15b0ec7314bd91b4078935c5d43f8fb308486c9165ecfe8c793d65f346ddd3", checked := Tryd.checked }
namespace Rows
def none {H : Type} : Left H := { results := [], args := [] }

/- WHAT THE LISTED PACKAGE-LEVEL VARIABLES READ AS WHEN THE CALL BEGINS. Each datum BY PROGRAM (the guide's laid-datum.mjs) off the statement by which the dump's own 'gosem.cut.vars' lays the variable. In a bare row this is a premise. The card (YtjnlkgamnabhjaaDoorCards.lean) ties it to the program's text. -/
def laid_rostrum_crc_halves {H : Type} : DataW H := .agg [.lit (.int .u32 0), .lit (.int .u32 498536548), .lit (.int .u32 997073096), .lit (.int .u32 651767980), .lit (.int .u32 1994146192), .lit (.int .u32 1802195444), .lit (.int .u32 1303535960), .lit (.int .u32 1342533948), .lit (.int .u32 3988292384), .lit (.int .u32 4027552580), .lit (.int .u32 3604390888), .lit (.int .u32 3412177804), .lit (.int .u32 2607071920), .lit (.int .u32 2262029012), .lit (.int .u32 2685067896), .lit (.int .u32 3183342108)]

/-- 'rostrumlaw3.FrameKnown': WHATEVER THE INPUT: true; the input reads as it did. -/
def frameKnownSpec : ChangeSpec := { name := "frameKnown", fn := fun _ => fun
  | [] => { results := [.lit (.bool true)], args := [] }
  | _ => none }
def frameKnownRow : OpenClaim := { program := "ytjnlkgamnabhjaadoor", sum := "ef15b0ec7314bd91b4078935c5d43f8fb308486c9165ecfe8c793d65f346ddd3", func := "rostrum/rostrumlaw3.FrameKnown", spec := "frameKnown", named := ["rostrum/crc.halves"], apart := false, laid := [("rostrum/crc.halves", laid_rostrum_crc_halves)] }
def FrameKnownSaid : Prop := frameKnownRow.holds Tryd.pinned (OpenSpec.ofChange frameKnownSpec)

/-- ITS FALSE NEIGHBOUR: 'it returns false'. Refute it at one input. -/
def frameKnownWrong : ChangeSpec := { name := "frameKnown", fn := fun _ => fun
  | [] => { results := [.lit (.bool false)], args := [] }
  | _ => none }
def FrameKnownWrongFalsely : Prop := frameKnownRow.holds Tryd.pinned (OpenSpec.ofChange frameKnownWrong)

/-- 'rostrumlaw3.FrameSays': WHATEVER THE INPUT: true; the input reads as it did. -/
def frameSaysSpec : ChangeSpec := { name := "frameSays", fn := fun _ => fun
  | [d1, d2] => { results := [.lit (.bool true)], args := [d1, d2] }
  | _ => none }
def frameSaysRow : OpenClaim := { program := "ytjnlkgamnabhjaadoor", sum := "ef15b0ec7314bd91b4078935c5d43f8fb308486c9165ecfe8c793d65f346ddd3", func := "rostrum/rostrumlaw3.FrameSays", spec := "frameSays", named := ["rostrum/crc.halves"], apart := false, laid := [("rostrum/crc.halves", laid_rostrum_crc_halves)] }
def FrameSaysSaid : Prop := frameSaysRow.holds Tryd.pinned (OpenSpec.ofChange frameSaysSpec)

/-- ITS FALSE NEIGHBOUR: 'it returns false'. Refute it at one input. -/
def frameSaysWrong : ChangeSpec := { name := "frameSays", fn := fun _ => fun
  | [d1, d2] => { results := [.lit (.bool false)], args := [d1, d2] }
  | _ => none }
def FrameSaysWrongFalsely : Prop := frameSaysRow.holds Tryd.pinned (OpenSpec.ofChange frameSaysWrong)

/-- 'rostrumlaw3.FrameBack': WHATEVER THE INPUT: true; the input reads as it did. -/
def frameBackSpec : ChangeSpec := { name := "frameBack", fn := fun _ => fun
  | [d1, d2, d3] => { results := [.lit (.bool true)], args := [d1, d2, d3] }
  | _ => none }
def frameBackRow : OpenClaim := { program := "ytjnlkgamnabhjaadoor", sum := "ef15b0ec7314bd91b4078935c5d43f8fb308486c9165ecfe8c793d65f346ddd3", func := "rostrum/rostrumlaw3.FrameBack", spec := "frameBack", named := ["rostrum/crc.halves"], apart := false, laid := [("rostrum/crc.halves", laid_rostrum_crc_halves)] }
def FrameBackSaid : Prop := frameBackRow.holds Tryd.pinned (OpenSpec.ofChange frameBackSpec)

/-- ITS FALSE NEIGHBOUR: 'it returns false'. Refute it at one input. -/
def frameBackWrong : ChangeSpec := { name := "frameBack", fn := fun _ => fun
  | [d1, d2, d3] => { results := [.lit (.bool false)], args := [d1, d2, d3] }
  | _ => none }
def FrameBackWrongFalsely : Prop := frameBackRow.holds Tryd.pinned (OpenSpec.ofChange frameBackWrong)

/-- 'rostrumlaw3.FrameTorn': WHATEVER THE INPUT: true; the input reads as it did. -/
def frameTornSpec : ChangeSpec := { name := "frameTorn", fn := fun _ => fun
  | [d1, d2] => { results := [.lit (.bool true)], args := [d1, d2] }
  | _ => none }
def frameTornRow : OpenClaim := { program := "ytjnlkgamnabhjaadoor", sum := "ef15b0ec7314bd91b4078935c5d43f8fb308486c9165ecfe8c793d65f346ddd3", func := "rostrum/rostrumlaw3.FrameTorn", spec := "frameTorn", named := ["rostrum/crc.halves"], apart := false, laid := [("rostrum/crc.halves", laid_rostrum_crc_halves)] }
def FrameTornSaid : Prop := frameTornRow.holds Tryd.pinned (OpenSpec.ofChange frameTornSpec)

/-- ITS FALSE NEIGHBOUR: 'it returns false'. Refute it at one input. -/
def frameTornWrong : ChangeSpec := { name := "frameTorn", fn := fun _ => fun
  | [d1, d2] => { results := [.lit (.bool false)], args := [d1, d2] }
  | _ => none }
def FrameTornWrongFalsely : Prop := frameTornRow.holds Tryd.pinned (OpenSpec.ofChange frameTornWrong)

/-- 'rostrumlaw3.FrameRest': WHATEVER THE INPUT: true; the input reads as it did. -/
def frameRestSpec : ChangeSpec := { name := "frameRest", fn := fun _ => fun
  | [d1, d2] => { results := [.lit (.bool true)], args := [d1, d2] }
  | _ => none }
def frameRestRow : OpenClaim := { program := "ytjnlkgamnabhjaadoor", sum := "ef15b0ec7314bd91b4078935c5d43f8fb308486c9165ecfe8c793d65f346ddd3", func := "rostrum/rostrumlaw3.FrameRest", spec := "frameRest", named := ["rostrum/crc.halves"], apart := false, laid := [("rostrum/crc.halves", laid_rostrum_crc_halves)] }
def FrameRestSaid : Prop := frameRestRow.holds Tryd.pinned (OpenSpec.ofChange frameRestSpec)

/-- ITS FALSE NEIGHBOUR: 'it returns false'. Refute it at one input. -/
def frameRestWrong : ChangeSpec := { name := "frameRest", fn := fun _ => fun
  | [d1, d2] => { results := [.lit (.bool false)], args := [d1, d2] }
  | _ => none }
def FrameRestWrongFalsely : Prop := frameRestRow.holds Tryd.pinned (OpenSpec.ofChange frameRestWrong)

/- THE SECOND FORM. 'bulk': how many values and letters a reading holds, each counted each time it is reached (what is shared counts as often as it is met; a slice's spare places count too). A statement '..UptoSaid' is the law's where the arguments, and the package variables that the reading takes, are together of bulk at most 1048576: NARROWER than '..Said'. Prove '..Said' where nothing that the law and all that it calls make is longer than what came in: it says more and counts as full. Else prove '..UptoSaid'. A law counts once. -/
mutual
def uptoBulk {H : Type} : DataW H → Nat
  | .lit (.string bytes) => bytes.length + 1
  | .lit _ => 1
  | .nil => 1
  | .ptr d => uptoBulk d + 1
  | .slice elems spare => uptoBulkAll elems + uptoBulkAll spare + 1
  | .agg parts => uptoBulkAll parts + 1
  | .iface _ d => uptoBulk d + 1
  | .map entries => uptoBulkEntries entries + 1
  | .held _ => 1
def uptoBulkAll {H : Type} : List (DataW H) → Nat
  | [] => 0
  | d :: r => uptoBulk d + uptoBulkAll r
def uptoBulkEntries {H : Type} : List (Lit × DataW H) → Nat
  | [] => 0
  | x :: r => uptoBulkEntry x + uptoBulkEntries r
def uptoBulkEntry {H : Type} : Lit × DataW H → Nat
  | (.string bytes, d) => bytes.length + uptoBulk d + 1
  | (_, d) => uptoBulk d + 1
 end
def uptoSmall : (H : Type) → List (DataW H) → Bool := fun _ ds => decide (uptoBulkAll ds ≤ 1048576)
def OpenSpec.upto (s : _root_.Go.ChangeSpec) : _root_.Go.OpenSpec := { _root_.Go.OpenSpec.ofChange s with cond := some uptoSmall }

/-- 'rostrumlaw3.FrameKnown', WHERE WHAT IT READS IS OF BULK AT MOST 1048576: true; the input reads as it did. -/
def frameKnownUptoRow : OpenClaim := { program := "ytjnlkgamnabhjaadoor", sum := "ef15b0ec7314bd91b4078935c5d43f8fb308486c9165ecfe8c793d65f346ddd3", func := "rostrum/rostrumlaw3.FrameKnown", spec := "frameKnown", named := ["rostrum/crc.halves"], apart := false, laid := [("rostrum/crc.halves", laid_rostrum_crc_halves)], narrowed := true }
def FrameKnownUptoSaid : Prop := frameKnownUptoRow.holds Tryd.pinned (OpenSpec.upto frameKnownSpec)

/-- 'rostrumlaw3.FrameSays', WHERE WHAT IT READS IS OF BULK AT MOST 1048576: true; the input reads as it did. -/
def frameSaysUptoRow : OpenClaim := { program := "ytjnlkgamnabhjaadoor", sum := "ef15b0ec7314bd91b4078935c5d43f8fb308486c9165ecfe8c793d65f346ddd3", func := "rostrum/rostrumlaw3.FrameSays", spec := "frameSays", named := ["rostrum/crc.halves"], apart := false, laid := [("rostrum/crc.halves", laid_rostrum_crc_halves)], narrowed := true }
def FrameSaysUptoSaid : Prop := frameSaysUptoRow.holds Tryd.pinned (OpenSpec.upto frameSaysSpec)

/-- 'rostrumlaw3.FrameBack', WHERE WHAT IT READS IS OF BULK AT MOST 1048576: true; the input reads as it did. -/
def frameBackUptoRow : OpenClaim := { program := "ytjnlkgamnabhjaadoor", sum := "ef15b0ec7314bd91b4078935c5d43f8fb308486c9165ecfe8c793d65f346ddd3", func := "rostrum/rostrumlaw3.FrameBack", spec := "frameBack", named := ["rostrum/crc.halves"], apart := false, laid := [("rostrum/crc.halves", laid_rostrum_crc_halves)], narrowed := true }
def FrameBackUptoSaid : Prop := frameBackUptoRow.holds Tryd.pinned (OpenSpec.upto frameBackSpec)

/-- 'rostrumlaw3.FrameTorn', WHERE WHAT IT READS IS OF BULK AT MOST 1048576: true; the input reads as it did. -/
def frameTornUptoRow : OpenClaim := { program := "ytjnlkgamnabhjaadoor", sum := "ef15b0ec7314bd91b4078935c5d43f8fb308486c9165ecfe8c793d65f346ddd3", func := "rostrum/rostrumlaw3.FrameTorn", spec := "frameTorn", named := ["rostrum/crc.halves"], apart := false, laid := [("rostrum/crc.halves", laid_rostrum_crc_halves)], narrowed := true }
def FrameTornUptoSaid : Prop := frameTornUptoRow.holds Tryd.pinned (OpenSpec.upto frameTornSpec)

/-- 'rostrumlaw3.FrameRest', WHERE WHAT IT READS IS OF BULK AT MOST 1048576: true; the input reads as it did. -/
def frameRestUptoRow : OpenClaim := { program := "ytjnlkgamnabhjaadoor", sum := "ef15b0ec7314bd91b4078935c5d43f8fb308486c9165ecfe8c793d65f346ddd3", func := "rostrum/rostrumlaw3.FrameRest", spec := "frameRest", named := ["rostrum/crc.halves"], apart := false, laid := [("rostrum/crc.halves", laid_rostrum_crc_halves)], narrowed := true }
def FrameRestUptoSaid : Prop := frameRestUptoRow.holds Tryd.pinned (OpenSpec.upto frameRestSpec)

end Rows
end Go.Proofs.YtjnlkgamnabhjaaDoor
