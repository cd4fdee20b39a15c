/-
  NARROWER THAN 'FOR EVERY INPUT', by the rows' own cells (each row's printed sentence says how): CrcSays: laid · CrcBit: laid · CrcXor: laid · CrcNone: laid.
  DERIVED. THE GIVEN ROWS OF THIS SEAT. 4 by the template 'for every input the law returns true; each argument reads behind the call as it read before'; 0 by the template 'total and deterministic' (their statements: YtopiaiemhnbbnaaDoorTotals.lean).
  GIVEN WITH THE SEED: the statements are not yours to turn. If you find one false, say at which input.
  Laid BY PROGRAM, IN A SANDBOX (cutbox-rows.mjs): the forced cells as the released guide's own fill.sh prints them over the translation 822f2cc7aa031e47… (all of the seat's roots in one cut). By AI agents, Wed Nov 11 2026. No macro, syntax, notation, axiom, sorry.
-/
import Derived.Test.YtopiaiemhnbbnaaDoorChecked
import GoSem.Claim
import GoSem.ClaimJoined
import GoSem.ClaimMapViews
import Derived.JoinedTies
import Derived.KernelRfl
namespace Go.Proofs.YtopiaiemhnbbnaaDoor
/- THE CELL 'sum', in the pinned program and in every row, IS THE sha256 OF THE DUMP (.gsa) THAT YtopiaiemhnbbnaaDoorProg.lean LOADS. Nothing in Lean hashes anything: it is a label: what it is worth is what the hold of that sum in a sandbox is worth. -/
noncomputable def Tryd.pinned : Pinned := { name := "ytopiaiemhnbbnaadoor", sum := "822f2cc7aa031e477ad4245116b1f17deef9d9b6f82aed1ba7d378d6e71f746a", checked := Tryd.checked }
namespace Rows
def none {H : Type} : Left H := { results := [], args := [] }

/- WHAT THE LISTED PACKAGE-LEVEL VARIABLES READ AS WHEN THE CALL BEGINS. Each datum BY PROGRAM (the guide's laid-datum.mjs) off the statement by which the dump's own 'gosem.cut.vars' lays the variable. In a bare row this is a premise. The card (YtopiaiemhnbbnaaDoorCards.lean) ties it to the program's text. -/
def laid_rostrum_crc_halves {H : Type} : DataW H := .agg [.lit (.int .u32 0), .lit (.int .u32 498536548), .lit (.int .u32 997073096), .lit (.int .u32 651767980), .lit (.int .u32 1994146192), .lit (.int .u32 1802195444), .lit (.int .u32 1303535960), .lit (.int .u32 1342533948), .lit (.int .u32 3988292384), .lit (.int .u32 4027552580), .lit (.int .u32 3604390888), .lit (.int .u32 3412177804), .lit (.int .u32 2607071920), .lit (.int .u32 2262029012), .lit (.int .u32 2685067896), .lit (.int .u32 3183342108)]

/-- 'rostrumlaw2.CrcSays': WHATEVER THE INPUT: true; the input reads as it did. -/
def crcSaysSpec : ChangeSpec := { name := "crcSays", fn := fun _ => fun
  | [d1, d2, d3] => { results := [.lit (.bool true)], args := [d1, d2, d3] }
  | _ => none }
def crcSaysRow : OpenClaim := { program := "ytopiaiemhnbbnaadoor", sum := "822f2cc7aa031e477ad4245116b1f17deef9d9b6f82aed1ba7d378d6e71f746a", func := "rostrum/rostrumlaw2.CrcSays", spec := "crcSays", named := ["rostrum/crc.halves"], apart := false, laid := [("rostrum/crc.halves", laid_rostrum_crc_halves)] }
def CrcSaysSaid : Prop := crcSaysRow.holds Tryd.pinned (OpenSpec.ofChange crcSaysSpec)

/-- ITS FALSE NEIGHBOUR: 'it returns false'. Refute it at one input. -/
def crcSaysWrong : ChangeSpec := { name := "crcSays", fn := fun _ => fun
  | [d1, d2, d3] => { results := [.lit (.bool false)], args := [d1, d2, d3] }
  | _ => none }
def CrcSaysWrongFalsely : Prop := crcSaysRow.holds Tryd.pinned (OpenSpec.ofChange crcSaysWrong)

/-- 'rostrumlaw2.CrcBit': WHATEVER THE INPUT: true; the input reads as it did. -/
def crcBitSpec : ChangeSpec := { name := "crcBit", fn := fun _ => fun
  | [d1, d2, d3] => { results := [.lit (.bool true)], args := [d1, d2, d3] }
  | _ => none }
def crcBitRow : OpenClaim := { program := "ytopiaiemhnbbnaadoor", sum := "822f2cc7aa031e477ad4245116b1f17deef9d9b6f82aed1ba7d378d6e71f746a", func := "rostrum/rostrumlaw2.CrcBit", spec := "crcBit", named := ["rostrum/crc.halves"], apart := false, laid := [("rostrum/crc.halves", laid_rostrum_crc_halves)] }
def CrcBitSaid : Prop := crcBitRow.holds Tryd.pinned (OpenSpec.ofChange crcBitSpec)

/-- ITS FALSE NEIGHBOUR: 'it returns false'. Refute it at one input. -/
def crcBitWrong : ChangeSpec := { name := "crcBit", fn := fun _ => fun
  | [d1, d2, d3] => { results := [.lit (.bool false)], args := [d1, d2, d3] }
  | _ => none }
def CrcBitWrongFalsely : Prop := crcBitRow.holds Tryd.pinned (OpenSpec.ofChange crcBitWrong)

/-- 'rostrumlaw2.CrcXor': WHATEVER THE INPUT: true; the input reads as it did. -/
def crcXorSpec : ChangeSpec := { name := "crcXor", fn := fun _ => fun
  | [d1, d2, d3] => { results := [.lit (.bool true)], args := [d1, d2, d3] }
  | _ => none }
def crcXorRow : OpenClaim := { program := "ytopiaiemhnbbnaadoor", sum := "822f2cc7aa031e477ad4245116b1f17deef9d9b6f82aed1ba7d378d6e71f746a", func := "rostrum/rostrumlaw2.CrcXor", spec := "crcXor", named := ["rostrum/crc.halves"], apart := false, laid := [("rostrum/crc.halves", laid_rostrum_crc_halves)] }
def CrcXorSaid : Prop := crcXorRow.holds Tryd.pinned (OpenSpec.ofChange crcXorSpec)

/-- ITS FALSE NEIGHBOUR: 'it returns false'. Refute it at one input. -/
def crcXorWrong : ChangeSpec := { name := "crcXor", fn := fun _ => fun
  | [d1, d2, d3] => { results := [.lit (.bool false)], args := [d1, d2, d3] }
  | _ => none }
def CrcXorWrongFalsely : Prop := crcXorRow.holds Tryd.pinned (OpenSpec.ofChange crcXorWrong)

/-- 'rostrumlaw2.CrcNone': WHATEVER THE INPUT: true; the input reads as it did. -/
def crcNoneSpec : ChangeSpec := { name := "crcNone", fn := fun _ => fun
  | [d1, d2] => { results := [.lit (.bool true)], args := [d1, d2] }
  | _ => none }
def crcNoneRow : OpenClaim := { program := "ytopiaiemhnbbnaadoor", sum := "822f2cc7aa031e477ad4245116b1f17deef9d9b6f82aed1ba7d378d6e71f746a", func := "rostrum/rostrumlaw2.CrcNone", spec := "crcNone", named := ["rostrum/crc.halves"], apart := false, laid := [("rostrum/crc.halves", laid_rostrum_crc_halves)] }
def CrcNoneSaid : Prop := crcNoneRow.holds Tryd.pinned (OpenSpec.ofChange crcNoneSpec)

/-- ITS FALSE NEIGHBOUR: 'it returns false'. Refute it at one input. -/
def crcNoneWrong : ChangeSpec := { name := "crcNone", fn := fun _ => fun
  | [d1, d2] => { results := [.lit (.bool false)], args := [d1, d2] }
  | _ => none }
def CrcNoneWrongFalsely : Prop := crcNoneRow.holds Tryd.pinned (OpenSpec.ofChange crcNoneWrong)

/- THE SECOND FORM. 'bulk': how many values and letters a reading holds, each counted each time it is reached (what is shared counts as often as it is met; a slice's spare places count too). A statement '..UptoSaid' is the law's where the arguments, and the package variables that the reading takes, are together of bulk at most 1048576: NARROWER than '..Said'. Prove '..Said' where nothing that the law and all that it calls make is longer than what came in: it says more and counts as full. Else prove '..UptoSaid'. A law counts once. -/
mutual
def uptoBulk {H : Type} : DataW H → Nat
  | .lit (.string bytes) => bytes.length + 1
  | .lit _ => 1
  | .nil => 1
  | .ptr d => uptoBulk d + 1
  | .slice elems spare => uptoBulkAll elems + uptoBulkAll spare + 1
  | .agg parts => uptoBulkAll parts + 1
  | .iface _ d => uptoBulk d + 1
  | .map entries => uptoBulkEntries entries + 1
  | .held _ => 1
def uptoBulkAll {H : Type} : List (DataW H) → Nat
  | [] => 0
  | d :: r => uptoBulk d + uptoBulkAll r
def uptoBulkEntries {H : Type} : List (Lit × DataW H) → Nat
  | [] => 0
  | x :: r => uptoBulkEntry x + uptoBulkEntries r
def uptoBulkEntry {H : Type} : Lit × DataW H → Nat
  | (.string bytes, d) => bytes.length + uptoBulk d + 1
  | (_, d) => uptoBulk d + 1
 end
def uptoSmall : (H : Type) → List (DataW H) → Bool := fun _ ds => decide (uptoBulkAll ds ≤ 1048576)
def OpenSpec.upto (s : _root_.Go.ChangeSpec) : _root_.Go.OpenSpec := { _root_.Go.OpenSpec.ofChange s with cond := some uptoSmall }

/-- 'rostrumlaw2.CrcSays', WHERE WHAT IT READS IS OF BULK AT MOST 1048576: true; the input reads as it did. -/
def crcSaysUptoRow : OpenClaim := { program := "ytopiaiemhnbbnaadoor", sum := "822f2cc7aa031e477ad4245116b1f17deef9d9b6f82aed1ba7d378d6e71f746a", func := "rostrum/rostrumlaw2.CrcSays", spec := "crcSays", named := ["rostrum/crc.halves"], apart := false, laid := [("rostrum/crc.halves", laid_rostrum_crc_halves)], narrowed := true }
def CrcSaysUptoSaid : Prop := crcSaysUptoRow.holds Tryd.pinned (OpenSpec.upto crcSaysSpec)

/-- 'rostrumlaw2.CrcBit', WHERE WHAT IT READS IS OF BULK AT MOST 1048576: true; the input reads as it did. -/
def crcBitUptoRow : OpenClaim := { program := "ytopiaiemhnbbnaadoor", sum := "822f2cc7aa031e477ad4245116b1f17deef9d9b6f82aed1ba7d378d6e71f746a", func := "rostrum/rostrumlaw2.CrcBit", spec := "crcBit", named := ["rostrum/crc.halves"], apart := false, laid := [("rostrum/crc.halves", laid_rostrum_crc_halves)], narrowed := true }
def CrcBitUptoSaid : Prop := crcBitUptoRow.holds Tryd.pinned (OpenSpec.upto crcBitSpec)

/-- 'rostrumlaw2.CrcXor', WHERE WHAT IT READS IS OF BULK AT MOST 1048576: true; the input reads as it did. -/
def crcXorUptoRow : OpenClaim := { program := "ytopiaiemhnbbnaadoor", sum := "822f2cc7aa031e477ad4245116b1f17deef9d9b6f82aed1ba7d378d6e71f746a", func := "rostrum/rostrumlaw2.CrcXor", spec := "crcXor", named := ["rostrum/crc.halves"], apart := false, laid := [("rostrum/crc.halves", laid_rostrum_crc_halves)], narrowed := true }
def CrcXorUptoSaid : Prop := crcXorUptoRow.holds Tryd.pinned (OpenSpec.upto crcXorSpec)

/-- 'rostrumlaw2.CrcNone', WHERE WHAT IT READS IS OF BULK AT MOST 1048576: true; the input reads as it did. -/
def crcNoneUptoRow : OpenClaim := { program := "ytopiaiemhnbbnaadoor", sum := "822f2cc7aa031e477ad4245116b1f17deef9d9b6f82aed1ba7d378d6e71f746a", func := "rostrum/rostrumlaw2.CrcNone", spec := "crcNone", named := ["rostrum/crc.halves"], apart := false, laid := [("rostrum/crc.halves", laid_rostrum_crc_halves)], narrowed := true }
def CrcNoneUptoSaid : Prop := crcNoneUptoRow.holds Tryd.pinned (OpenSpec.upto crcNoneSpec)

end Rows
end Go.Proofs.YtopiaiemhnbbnaaDoor
