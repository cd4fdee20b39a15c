/-
  Go's tables of letters, digits and cases, as the row lists them: where the row's condition holds, they lie in memory, and stay there while the calls only make memory of their own. And the row's frame: one start that fits.
-/
import Derived.Test.YtdkndjenmnojhaaDoorCards
import Derived.Test.YtdkndjenmnojhaaDoorTie
import Derived.Test.YtdkndjenmnojhaaDoorShelf
import Derived.Test.YtdkndjenmnojhaaDoorMath
import Derived.PinnedBridge
import Derived.WalkKit
import Derived.ProofKit
import Derived.OpenShut
import Derived.ShutString
import Derived.LaidMore
import Derived.Lay
import Derived.SevenTiedAt
import Derived.Stop.Joined
import Derived.MakeChecks
namespace Go.Proofs.YtdkndjenmnojhaaDoor
open Go.ChangeShapes Go.WideShapes Go.ChangeAt Go.RowKit Go.Lib
set_option linter.unusedVariables false

theorem own : ownKnob Tryd.prog.godebug = none := by kernel_rfl

/-- The tables lie in memory. -/
structure Tabs (w : World) : Prop where
  props : Lib.TabIs Tryd.prog w "unicode.properties" .u8 Lib.propertiesTab
  letter : RVar 1 letterT w
  digit : RVar 2 digitT w
  cases : CaseVar 3 caseA w

theorem glProps : Tryd.prog.globalNamed "unicode.properties" = some 0 := by kernel_rfl
theorem Tabs.below {w w' : World} (h : Tabs w) (hb : Below w.heap.size w w') : Tabs w' where
  props := TabIs_below glProps h.props hb
  letter := RVar_below h.letter hb
  digit := RVar_below h.digit hb
  cases := by
    obtain ⟨R, oR, cap, h1, h2⟩ := h.cases
    refine ⟨R, oR, cap, cell_below hb h1, fun i hi => ?_⟩
    obtain ⟨a, b, c, d, e⟩ := h2 i hi
    exact ⟨cell_below hb a, cell_below hb b, cell_below hb c, cell_below hb d, cell_below hb e⟩

theorem rextra : RExtra Tryd.prog Tryd.lays261_ren where
  c3 := by kernel_rfl
  c49 := by kernel_rfl
  c51 := by kernel_rfl
  c193 := by kernel_rfl
  c194 := by kernel_rfl
  c196 := by kernel_rfl
  c198 := by kernel_rfl
  c201 := by kernel_rfl
theorem cextra : CaseExtra Tryd.prog Tryd.lays204_ren where
  n13 := by kernel_rfl
  y13 := by kernel_rfl
  c21 := by kernel_rfl
  c51 := by kernel_rfl
  c206 := by kernel_rfl
  c208 := by kernel_rfl
def laidL : List (String × DataW Unit) := [("unicode.properties", Rows.laid_unicode_properties), ("unicode.CaseRanges", Rows.laid_unicode_CaseRanges), ("unicode.Digit", Rows.laid_unicode_Digit), ("unicode.Letter", Rows.laid_unicode_Letter)]

theorem props_eq : (Rows.laid_unicode_properties : DataW Unit) = Lib.tabData .u8 Lib.propertiesTab := by kernel_rfl

theorem plainL : (laidL.all fun x => x.2.handleName?.isNone) = true := by kernel_rfl
theorem tabs_of {W : World} (h : laidMetH Tryd.prog laidL W) : Tabs W := by
  rw [MakeChecks.laidMetH_plain _ _ _ plainL] at h
  have hL : ∀ n d, (n, d) ∈ laidL → VarReads Tryd.prog W n d := fun n d hm => laidMet.reads h hm
  refine ⟨?_, ?_, ?_, ?_⟩
  · unfold laidL at h
    rw [props_eq] at h
    exact Lib.tabIs_of_head glProps (t := 60) (by kernel_rfl) Tryd.underlying60 Tryd.underlying5 (by kernel_rfl) (by kernel_rfl) h
  · have := hL "unicode.Letter" Rows.laid_unicode_Letter (by simp [laidL])
    rw [Rows.laid_unicode_Letter, Go.Pinned.letter_eq] at this
    exact rvar_of_reads Tryd.lays261 rextra (by kernel_rfl) (by kernel_rfl) this
  · have := hL "unicode.Digit" Rows.laid_unicode_Digit (by simp [laidL])
    rw [Rows.laid_unicode_Digit, Go.Pinned.digit_eq] at this
    exact rvar_of_reads Tryd.lays261 rextra (by kernel_rfl) (by kernel_rfl) this
  · have := hL "unicode.CaseRanges" Rows.laid_unicode_CaseRanges (by simp [laidL])
    rw [Rows.laid_unicode_CaseRanges, Go.Pinned.caseRanges_eq] at this
    exact caseVar_of_reads (ρ := Tryd.lays204_ren) { Tryd.lays204 with } Tryd.lays204.t206 cextra this
end Go.Proofs.YtdkndjenmnojhaaDoor
