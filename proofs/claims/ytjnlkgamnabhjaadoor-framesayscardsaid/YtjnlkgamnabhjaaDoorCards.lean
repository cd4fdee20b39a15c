/-
  DERIVED. GIVEN WITH THE SEED: THE CARDS: each row of YtjnlkgamnabhjaaDoorRows.lean that lists a variable, with what it lists TIED to the program's text (the seventh form; the later family's looks); each row that meets fmt, with fmt's text TOLD by the authors' own Lean function (tested against real Go, not proved from fmt's source: count such statements apart). THE CARD IS WHAT COUNTS. Prove the row's statement (the work); the ties are given (YtjnlkgamnabhjaaDoorTie.lean); close each card by the builder's one call (the guide's Derived/Test/ToyasCard.lean, 'card_holds'). Laid BY PROGRAM, IN A SANDBOX (cutbox-door.mjs). By AI agents, Wed Nov 11 2026. No macro, syntax, notation, axiom, sorry.
-/
import Derived.Test.YtjnlkgamnabhjaaDoorRows
import GoSem.ClaimSeven
namespace Go.Proofs.YtjnlkgamnabhjaaDoor
namespace Rows

/-- THE TIED CARD OF 'rostrumlaw3.FrameKnown'. -/
def frameKnownCard : Claim7 := { stood := { row := frameKnownRow, standIns := [], harness := (true, "a09c5f2f03b1a0091a816d81f6c9a9c48e71a6d2345b0ae602e8e0b42dd12ca7"), looks := false }, kinds := [], alts := [], laidByText := true, laidKinds := [.data], laidTests := true, laidLooks := .later }
def FrameKnownCardSaid : Prop := Claim7.holds Tryd.pinned (.plain (OpenSpec.ofChange frameKnownSpec)) frameKnownCard

/-- THE TIED CARD OF 'rostrumlaw3.FrameSays'. -/
def frameSaysCard : Claim7 := { stood := { row := frameSaysRow, standIns := [], harness := (true, "a09c5f2f03b1a0091a816d81f6c9a9c48e71a6d2345b0ae602e8e0b42dd12ca7"), looks := false }, kinds := [], alts := [], laidByText := true, laidKinds := [.data], laidTests := true, laidLooks := .later }
def FrameSaysCardSaid : Prop := Claim7.holds Tryd.pinned (.plain (OpenSpec.ofChange frameSaysSpec)) frameSaysCard

/-- THE TIED CARD OF 'rostrumlaw3.FrameBack'. -/
def frameBackCard : Claim7 := { stood := { row := frameBackRow, standIns := [], harness := (true, "a09c5f2f03b1a0091a816d81f6c9a9c48e71a6d2345b0ae602e8e0b42dd12ca7"), looks := false }, kinds := [], alts := [], laidByText := true, laidKinds := [.data], laidTests := true, laidLooks := .later }
def FrameBackCardSaid : Prop := Claim7.holds Tryd.pinned (.plain (OpenSpec.ofChange frameBackSpec)) frameBackCard

/-- THE TIED CARD OF 'rostrumlaw3.FrameTorn'. -/
def frameTornCard : Claim7 := { stood := { row := frameTornRow, standIns := [], harness := (true, "a09c5f2f03b1a0091a816d81f6c9a9c48e71a6d2345b0ae602e8e0b42dd12ca7"), looks := false }, kinds := [], alts := [], laidByText := true, laidKinds := [.data], laidTests := true, laidLooks := .later }
def FrameTornCardSaid : Prop := Claim7.holds Tryd.pinned (.plain (OpenSpec.ofChange frameTornSpec)) frameTornCard

/-- THE TIED CARD OF 'rostrumlaw3.FrameRest'. -/
def frameRestCard : Claim7 := { stood := { row := frameRestRow, standIns := [], harness := (true, "a09c5f2f03b1a0091a816d81f6c9a9c48e71a6d2345b0ae602e8e0b42dd12ca7"), looks := false }, kinds := [], alts := [], laidByText := true, laidKinds := [.data], laidTests := true, laidLooks := .later }
def FrameRestCardSaid : Prop := Claim7.holds Tryd.pinned (.plain (OpenSpec.ofChange frameRestSpec)) frameRestCard

/-- THE SECOND FORM's CARD OF 'rostrumlaw3.FrameKnown'. -/
def frameKnownUptoCard : Claim7 := { stood := { row := frameKnownUptoRow, standIns := [], harness := (true, "a09c5f2f03b1a0091a816d81f6c9a9c48e71a6d2345b0ae602e8e0b42dd12ca7"), looks := false }, kinds := [], alts := [], laidByText := true, laidKinds := [.data], laidTests := true, laidLooks := .later }
def FrameKnownUptoCardSaid : Prop := Claim7.holds Tryd.pinned (.plain (OpenSpec.upto frameKnownSpec)) frameKnownUptoCard

/-- THE SECOND FORM's CARD OF 'rostrumlaw3.FrameSays'. -/
def frameSaysUptoCard : Claim7 := { stood := { row := frameSaysUptoRow, standIns := [], harness := (true, "a09c5f2f03b1a0091a816d81f6c9a9c48e71a6d2345b0ae602e8e0b42dd12ca7"), looks := false }, kinds := [], alts := [], laidByText := true, laidKinds := [.data], laidTests := true, laidLooks := .later }
def FrameSaysUptoCardSaid : Prop := Claim7.holds Tryd.pinned (.plain (OpenSpec.upto frameSaysSpec)) frameSaysUptoCard

/-- THE SECOND FORM's CARD OF 'rostrumlaw3.FrameBack'. -/
def frameBackUptoCard : Claim7 := { stood := { row := frameBackUptoRow, standIns := [], harness := (true, "a09c5f2f03b1a0091a816d81f6c9a9c48e71a6d2345b0ae602e8e0b42dd12ca7"), looks := false }, kinds := [], alts := [], laidByText := true, laidKinds := [.data], laidTests := true, laidLooks := .later }
def FrameBackUptoCardSaid : Prop := Claim7.holds Tryd.pinned (.plain (OpenSpec.upto frameBackSpec)) frameBackUptoCard

/-- THE SECOND FORM's CARD OF 'rostrumlaw3.FrameTorn'. -/
def frameTornUptoCard : Claim7 := { stood := { row := frameTornUptoRow, standIns := [], harness := (true, "a09c5f2f03b1a0091a816d81f6c9a9c48e71a6d2345b0ae602e8e0b42dd12ca7"), looks := false }, kinds := [], alts := [], laidByText := true, laidKinds := [.data], laidTests := true, laidLooks := .later }
def FrameTornUptoCardSaid : Prop := Claim7.holds Tryd.pinned (.plain (OpenSpec.upto frameTornSpec)) frameTornUptoCard

/-- THE SECOND FORM's CARD OF 'rostrumlaw3.FrameRest'. -/
def frameRestUptoCard : Claim7 := { stood := { row := frameRestUptoRow, standIns := [], harness := (true, "a09c5f2f03b1a0091a816d81f6c9a9c48e71a6d2345b0ae602e8e0b42dd12ca7"), looks := false }, kinds := [], alts := [], laidByText := true, laidKinds := [.data], laidTests := true, laidLooks := .later }
def FrameRestUptoCardSaid : Prop := Claim7.holds Tryd.pinned (.plain (OpenSpec.upto frameRestSpec)) frameRestUptoCard
end Rows
end Go.Proofs.YtjnlkgamnabhjaaDoor
