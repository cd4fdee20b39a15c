/-
  NARROWER THAN 'FOR EVERY INPUT', by the rows' own cells (each row's printed sentence says how): WalKnown: laid · WalPlays: laid · WalSpoilt: laid · WalFull: laid · WalKeeps: laid · WalParts: laid.
  DERIVED. THE GIVEN ROWS OF THIS SEAT. 6 by the template 'for every input the law returns true; each argument reads behind the call as it read before'; 0 by the template 'total and deterministic' (their statements: YtnhplbdbgiimkaaGreatDoorTotals.lean).
  GIVEN WITH THE SEED: the statements are not yours to turn. If you find one false, say at which input.
  Laid BY PROGRAM, IN A SANDBOX (cutbox-rows.mjs): the forced cells as the released guide's own fill.sh prints them over the translation 070ae1e1450452b8… (all of the seat's roots in one cut). By AI agents, Wed Nov 11 2026. No macro, syntax, notation, axiom, sorry.
-/
import Derived.Test.YtnhplbdbgiimkaaGreatDoorChecked
import GoSem.Claim
import GoSem.ClaimJoined
import GoSem.ClaimMapViews
import Derived.JoinedTies
import Derived.KernelRfl
namespace Go.Proofs.YtnhplbdbgiimkaaGreatDoor
/- THE CELL 'sum', in the pinned program and in every row, IS THE sha256 OF THE DUMP (.gsa) THAT YtnhplbdbgiimkaaGreatDoorProg.lean LOADS. Nothing in Lean hashes anything: it is a label: what it is worth is what the hold of that sum in a sandbox is worth. -/
noncomputable def Tryz.pinned : Pinned := { name := "ytnhplbdbgiimkaagreatdoor", sum := "070ae1e1450452b8847611610bd17e10f0b6c9585ac8dd92220ebdf8d2b05e1e", checked := Tryz.checked }
namespace Rows
def none {H : Type} : Left H := { results := [], args := [] }

/- WHAT THE LISTED PACKAGE-LEVEL VARIABLES READ AS WHEN THE CALL BEGINS. Each datum BY PROGRAM (the guide's laid-datum.mjs) off the statement by which the dump's own 'gosem.cut.vars' lays the variable. In a bare row this is a premise. The card (YtnhplbdbgiimkaaGreatDoorCards.lean) ties it to the program's text. -/
def laid_rostrum_crc_halves {H : Type} : DataW H := .agg [.lit (.int .u32 0), .lit (.int .u32 498536548), .lit (.int .u32 997073096), .lit (.int .u32 651767980), .lit (.int .u32 1994146192), .lit (.int .u32 1802195444), .lit (.int .u32 1303535960), .lit (.int .u32 1342533948), .lit (.int .u32 3988292384), .lit (.int .u32 4027552580), .lit (.int .u32 3604390888), .lit (.int .u32 3412177804), .lit (.int .u32 2607071920), .lit (.int .u32 2262029012), .lit (.int .u32 2685067896), .lit (.int .u32 3183342108)]

/-- 'rostrumlaw6.WalKnown': WHATEVER THE INPUT: true; the input reads as it did. -/
def walKnownSpec : ChangeSpec := { name := "walKnown", fn := fun _ => fun
  | [] => { results := [.lit (.bool true)], args := [] }
  | _ => none }
def walKnownRow : OpenClaim := { program := "ytnhplbdbgiimkaagreatdoor", sum := "070ae1e1450452b8847611610bd17e10f0b6c9585ac8dd92220ebdf8d2b05e1e", func := "rostrum/rostrumlaw6.WalKnown", spec := "walKnown", unfollowed := true, recurses := true, named := ["rostrum/crc.halves"], apart := false, laid := [("rostrum/crc.halves", laid_rostrum_crc_halves)] }
def WalKnownSaid : Prop := walKnownRow.holds Tryz.pinned (OpenSpec.ofChange walKnownSpec)

/-- ITS FALSE NEIGHBOUR: 'it returns false'. Refute it at one input. -/
def walKnownWrong : ChangeSpec := { name := "walKnown", fn := fun _ => fun
  | [] => { results := [.lit (.bool false)], args := [] }
  | _ => none }
def WalKnownWrongFalsely : Prop := walKnownRow.holds Tryz.pinned (OpenSpec.ofChange walKnownWrong)

/-- 'rostrumlaw6.WalPlays': WHATEVER THE INPUT: true; the input reads as it did. -/
def walPlaysSpec : ChangeSpec := { name := "walPlays", fn := fun _ => fun
  | [d1, d2] => { results := [.lit (.bool true)], args := [d1, d2] }
  | _ => none }
def walPlaysRow : OpenClaim := { program := "ytnhplbdbgiimkaagreatdoor", sum := "070ae1e1450452b8847611610bd17e10f0b6c9585ac8dd92220ebdf8d2b05e1e", func := "rostrum/rostrumlaw6.WalPlays", spec := "walPlays", unfollowed := true, recurses := true, named := ["rostrum/crc.halves"], apart := false, laid := [("rostrum/crc.halves", laid_rostrum_crc_halves)] }
def WalPlaysSaid : Prop := walPlaysRow.holds Tryz.pinned (OpenSpec.ofChange walPlaysSpec)

/-- ITS FALSE NEIGHBOUR: 'it returns false'. Refute it at one input. -/
def walPlaysWrong : ChangeSpec := { name := "walPlays", fn := fun _ => fun
  | [d1, d2] => { results := [.lit (.bool false)], args := [d1, d2] }
  | _ => none }
def WalPlaysWrongFalsely : Prop := walPlaysRow.holds Tryz.pinned (OpenSpec.ofChange walPlaysWrong)

/-- 'rostrumlaw6.WalSpoilt': WHATEVER THE INPUT: true; the input reads as it did. -/
def walSpoiltSpec : ChangeSpec := { name := "walSpoilt", fn := fun _ => fun
  | [d1, d2, d3, d4, d5, d6] => { results := [.lit (.bool true)], args := [d1, d2, d3, d4, d5, d6] }
  | _ => none }
def walSpoiltRow : OpenClaim := { program := "ytnhplbdbgiimkaagreatdoor", sum := "070ae1e1450452b8847611610bd17e10f0b6c9585ac8dd92220ebdf8d2b05e1e", func := "rostrum/rostrumlaw6.WalSpoilt", spec := "walSpoilt", unfollowed := true, recurses := true, named := ["rostrum/crc.halves"], apart := false, laid := [("rostrum/crc.halves", laid_rostrum_crc_halves)] }
def WalSpoiltSaid : Prop := walSpoiltRow.holds Tryz.pinned (OpenSpec.ofChange walSpoiltSpec)

/-- ITS FALSE NEIGHBOUR: 'it returns false'. Refute it at one input. -/
def walSpoiltWrong : ChangeSpec := { name := "walSpoilt", fn := fun _ => fun
  | [d1, d2, d3, d4, d5, d6] => { results := [.lit (.bool false)], args := [d1, d2, d3, d4, d5, d6] }
  | _ => none }
def WalSpoiltWrongFalsely : Prop := walSpoiltRow.holds Tryz.pinned (OpenSpec.ofChange walSpoiltWrong)

/-- 'rostrumlaw6.WalFull': WHATEVER THE INPUT: true; the input reads as it did. -/
def walFullSpec : ChangeSpec := { name := "walFull", fn := fun _ => fun
  | [d1, d2, d3] => { results := [.lit (.bool true)], args := [d1, d2, d3] }
  | _ => none }
def walFullRow : OpenClaim := { program := "ytnhplbdbgiimkaagreatdoor", sum := "070ae1e1450452b8847611610bd17e10f0b6c9585ac8dd92220ebdf8d2b05e1e", func := "rostrum/rostrumlaw6.WalFull", spec := "walFull", unfollowed := true, recurses := true, named := ["rostrum/crc.halves"], apart := false, laid := [("rostrum/crc.halves", laid_rostrum_crc_halves)] }
def WalFullSaid : Prop := walFullRow.holds Tryz.pinned (OpenSpec.ofChange walFullSpec)

/-- ITS FALSE NEIGHBOUR: 'it returns false'. Refute it at one input. -/
def walFullWrong : ChangeSpec := { name := "walFull", fn := fun _ => fun
  | [d1, d2, d3] => { results := [.lit (.bool false)], args := [d1, d2, d3] }
  | _ => none }
def WalFullWrongFalsely : Prop := walFullRow.holds Tryz.pinned (OpenSpec.ofChange walFullWrong)

/-- 'rostrumlaw6.WalKeeps': WHATEVER THE INPUT: true; the input reads as it did. -/
def walKeepsSpec : ChangeSpec := { name := "walKeeps", fn := fun _ => fun
  | [d1, d2, d3, d4, d5, d6] => { results := [.lit (.bool true)], args := [d1, d2, d3, d4, d5, d6] }
  | _ => none }
def walKeepsRow : OpenClaim := { program := "ytnhplbdbgiimkaagreatdoor", sum := "070ae1e1450452b8847611610bd17e10f0b6c9585ac8dd92220ebdf8d2b05e1e", func := "rostrum/rostrumlaw6.WalKeeps", spec := "walKeeps", unfollowed := true, recurses := true, named := ["rostrum/crc.halves"], apart := false, laid := [("rostrum/crc.halves", laid_rostrum_crc_halves)] }
def WalKeepsSaid : Prop := walKeepsRow.holds Tryz.pinned (OpenSpec.ofChange walKeepsSpec)

/-- ITS FALSE NEIGHBOUR: 'it returns false'. Refute it at one input. -/
def walKeepsWrong : ChangeSpec := { name := "walKeeps", fn := fun _ => fun
  | [d1, d2, d3, d4, d5, d6] => { results := [.lit (.bool false)], args := [d1, d2, d3, d4, d5, d6] }
  | _ => none }
def WalKeepsWrongFalsely : Prop := walKeepsRow.holds Tryz.pinned (OpenSpec.ofChange walKeepsWrong)

/-- 'rostrumlaw6.WalParts': WHATEVER THE INPUT: true; the input reads as it did. -/
def walPartsSpec : ChangeSpec := { name := "walParts", fn := fun _ => fun
  | [d1, d2, d3, d4] => { results := [.lit (.bool true)], args := [d1, d2, d3, d4] }
  | _ => none }
def walPartsRow : OpenClaim := { program := "ytnhplbdbgiimkaagreatdoor", sum := "070ae1e1450452b8847611610bd17e10f0b6c9585ac8dd92220ebdf8d2b05e1e", func := "rostrum/rostrumlaw6.WalParts", spec := "walParts", unfollowed := true, recurses := true, named := ["rostrum/crc.halves"], apart := false, laid := [("rostrum/crc.halves", laid_rostrum_crc_halves)] }
def WalPartsSaid : Prop := walPartsRow.holds Tryz.pinned (OpenSpec.ofChange walPartsSpec)

/-- ITS FALSE NEIGHBOUR: 'it returns false'. Refute it at one input. -/
def walPartsWrong : ChangeSpec := { name := "walParts", fn := fun _ => fun
  | [d1, d2, d3, d4] => { results := [.lit (.bool false)], args := [d1, d2, d3, d4] }
  | _ => none }
def WalPartsWrongFalsely : Prop := walPartsRow.holds Tryz.pinned (OpenSpec.ofChange walPartsWrong)

/- THE SECOND FORM. 'bulk': how many values and letters a reading holds, each counted each time it is reached (what is shared counts as often as it is met; a slice's spare places count too). A statement '..UptoSaid' is the law's where the arguments, and the package variables that the reading takes, are together of bulk at most 1048576: NARROWER than '..Said'. Prove '..Said' where nothing that the law and all that it calls make is longer than what came in: it says more and counts as full. Else prove '..UptoSaid'. A law counts once. -/
mutual
def uptoBulk {H : Type} : DataW H → Nat
  | .lit (.string bytes) => bytes.length + 1
  | .lit _ => 1
  | .nil => 1
  | .ptr d => uptoBulk d + 1
  | .slice elems spare => uptoBulkAll elems + uptoBulkAll spare + 1
  | .agg parts => uptoBulkAll parts + 1
  | .iface _ d => uptoBulk d + 1
  | .map entries => uptoBulkEntries entries + 1
  | .held _ => 1
def uptoBulkAll {H : Type} : List (DataW H) → Nat
  | [] => 0
  | d :: r => uptoBulk d + uptoBulkAll r
def uptoBulkEntries {H : Type} : List (Lit × DataW H) → Nat
  | [] => 0
  | x :: r => uptoBulkEntry x + uptoBulkEntries r
def uptoBulkEntry {H : Type} : Lit × DataW H → Nat
  | (.string bytes, d) => bytes.length + uptoBulk d + 1
  | (_, d) => uptoBulk d + 1
 end
def uptoSmall : (H : Type) → List (DataW H) → Bool := fun _ ds => decide (uptoBulkAll ds ≤ 1048576)
def OpenSpec.upto (s : _root_.Go.ChangeSpec) : _root_.Go.OpenSpec := { _root_.Go.OpenSpec.ofChange s with cond := some uptoSmall }

/-- 'rostrumlaw6.WalKnown', WHERE WHAT IT READS IS OF BULK AT MOST 1048576: true; the input reads as it did. -/
def walKnownUptoRow : OpenClaim := { program := "ytnhplbdbgiimkaagreatdoor", sum := "070ae1e1450452b8847611610bd17e10f0b6c9585ac8dd92220ebdf8d2b05e1e", func := "rostrum/rostrumlaw6.WalKnown", spec := "walKnown", unfollowed := true, recurses := true, named := ["rostrum/crc.halves"], apart := false, laid := [("rostrum/crc.halves", laid_rostrum_crc_halves)], narrowed := true }
def WalKnownUptoSaid : Prop := walKnownUptoRow.holds Tryz.pinned (OpenSpec.upto walKnownSpec)

/-- 'rostrumlaw6.WalPlays', WHERE WHAT IT READS IS OF BULK AT MOST 1048576: true; the input reads as it did. -/
def walPlaysUptoRow : OpenClaim := { program := "ytnhplbdbgiimkaagreatdoor", sum := "070ae1e1450452b8847611610bd17e10f0b6c9585ac8dd92220ebdf8d2b05e1e", func := "rostrum/rostrumlaw6.WalPlays", spec := "walPlays", unfollowed := true, recurses := true, named := ["rostrum/crc.halves"], apart := false, laid := [("rostrum/crc.halves", laid_rostrum_crc_halves)], narrowed := true }
def WalPlaysUptoSaid : Prop := walPlaysUptoRow.holds Tryz.pinned (OpenSpec.upto walPlaysSpec)

/-- 'rostrumlaw6.WalSpoilt', WHERE WHAT IT READS IS OF BULK AT MOST 1048576: true; the input reads as it did. -/
def walSpoiltUptoRow : OpenClaim := { program := "ytnhplbdbgiimkaagreatdoor", sum := "070ae1e1450452b8847611610bd17e10f0b6c9585ac8dd92220ebdf8d2b05e1e", func := "rostrum/rostrumlaw6.WalSpoilt", spec := "walSpoilt", unfollowed := true, recurses := true, named := ["rostrum/crc.halves"], apart := false, laid := [("rostrum/crc.halves", laid_rostrum_crc_halves)], narrowed := true }
def WalSpoiltUptoSaid : Prop := walSpoiltUptoRow.holds Tryz.pinned (OpenSpec.upto walSpoiltSpec)

/-- 'rostrumlaw6.WalFull', WHERE WHAT IT READS IS OF BULK AT MOST 1048576: true; the input reads as it did. -/
def walFullUptoRow : OpenClaim := { program := "ytnhplbdbgiimkaagreatdoor", sum := "070ae1e1450452b8847611610bd17e10f0b6c9585ac8dd92220ebdf8d2b05e1e", func := "rostrum/rostrumlaw6.WalFull", spec := "walFull", unfollowed := true, recurses := true, named := ["rostrum/crc.halves"], apart := false, laid := [("rostrum/crc.halves", laid_rostrum_crc_halves)], narrowed := true }
def WalFullUptoSaid : Prop := walFullUptoRow.holds Tryz.pinned (OpenSpec.upto walFullSpec)

/-- 'rostrumlaw6.WalKeeps', WHERE WHAT IT READS IS OF BULK AT MOST 1048576: true; the input reads as it did. -/
def walKeepsUptoRow : OpenClaim := { program := "ytnhplbdbgiimkaagreatdoor", sum := "070ae1e1450452b8847611610bd17e10f0b6c9585ac8dd92220ebdf8d2b05e1e", func := "rostrum/rostrumlaw6.WalKeeps", spec := "walKeeps", unfollowed := true, recurses := true, named := ["rostrum/crc.halves"], apart := false, laid := [("rostrum/crc.halves", laid_rostrum_crc_halves)], narrowed := true }
def WalKeepsUptoSaid : Prop := walKeepsUptoRow.holds Tryz.pinned (OpenSpec.upto walKeepsSpec)

/-- 'rostrumlaw6.WalParts', WHERE WHAT IT READS IS OF BULK AT MOST 1048576: true; the input reads as it did. -/
def walPartsUptoRow : OpenClaim := { program := "ytnhplbdbgiimkaagreatdoor", sum := "070ae1e1450452b8847611610bd17e10f0b6c9585ac8dd92220ebdf8d2b05e1e", func := "rostrum/rostrumlaw6.WalParts", spec := "walParts", unfollowed := true, recurses := true, named := ["rostrum/crc.halves"], apart := false, laid := [("rostrum/crc.halves", laid_rostrum_crc_halves)], narrowed := true }
def WalPartsUptoSaid : Prop := walPartsUptoRow.holds Tryz.pinned (OpenSpec.upto walPartsSpec)

end Rows
end Go.Proofs.YtnhplbdbgiimkaaGreatDoor
