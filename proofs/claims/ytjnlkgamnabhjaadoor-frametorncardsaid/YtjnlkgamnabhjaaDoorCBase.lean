/-
  The table of half bytes, as the row lists it, and rows of bytes as they lie in memory.
-/
import Derived.Test.YtjnlkgamnabhjaaDoorCards
import Derived.Test.YtjnlkgamnabhjaaDoorTie
import Derived.Test.YtjnlkgamnabhjaaDoorCMath
import Derived.WalkKit
import Derived.ProofKit
import Derived.OpenShut
import Derived.ShutString
import Derived.LaidMore
import Derived.Lay
import Derived.SevenTiedAt
import Derived.Stop.Joined
import Derived.MakeChecks
import Derived.BigCall
import Derived.WalkSmall
import Derived.Deep.DeepMust
import Derived.Lib.LaidTab
import Derived.Laws.BytesArg
import Derived.Lib.SlBytesConst
import Derived.Laws.BitsAll
namespace Go.Proofs.YtjnlkgamnabhjaaDoor
open Go.ChangeShapes Go.WideShapes Go.ChangeAt Go.RowKit Go.Lib
set_option linter.unusedVariables false

theorem own : ownKnob Tryd.prog.godebug = none := by kernel_rfl

def tabI : List Int := C.tab.map fun (n : Nat) => (n : Int)
/-- The table lies in memory. -/
def Tabs (w : World) : Prop := Lib.TabIs Tryd.prog w "rostrum/crc.halves" .u32 tabI
theorem glHalves : Tryd.prog.globalNamed "rostrum/crc.halves" = some 0 := by kernel_rfl
theorem Tabs.below {w w' : World} (h : Tabs w) (hb : Below w.heap.size w w') : Tabs w' := by
  unfold Tabs Lib.TabIs World.var? at *
  rw [glHalves] at *
  rcases Nat.lt_or_ge 0 w.heap.size with h0 | h0
  · simpa [hb.block 0 h0] using h
  · simp [Array.getElem?_eq_none h0] at h
theorem Tabs.cell {w : World} (h : Tabs w) (i : Nat) (hi : i < 16) : w.cell? ⟨0, i, none⟩ = some (.int .u32 (C.tabAt i).toNat) := by
  have := Lib.TabIs.cell h glHalves i (by exact hi)
  rw [this]
  congr 2
  have key : ∀ i, i < 16 → tabI.getD i 0 = ((C.tabAt i).toNat : Int) := by decide
  exact key i hi
def laidL : List (String × DataW Unit) := [("rostrum/crc.halves", Rows.laid_rostrum_crc_halves)]
theorem halves_eq : (Rows.laid_rostrum_crc_halves : DataW Unit) = Lib.tabData .u32 tabI := by kernel_rfl
theorem plainL : (laidL.all fun x => x.2.handleName?.isNone) = true := by kernel_rfl
theorem tabs_of {W : World} (h : laidMetH Tryd.prog laidL W) : Tabs W := by
  rw [MakeChecks.laidMetH_plain _ _ _ plainL] at h
  unfold laidL at h
  rw [halves_eq] at h
  exact Lib.tabIs_of_head glHalves (t := 49) (by kernel_rfl) Tryd.underlying49 Tryd.underlying40 (by kernel_rfl) (by kernel_rfl) h

/-- A row of bytes as it lies: where there is a byte, at an address with its cells; where there is none, whatever the address, nil too. -/
def BAt (w : World) (p : Option Addr) (l : List UInt8) : Prop := 0 < l.length → ∃ b o, p = some ⟨b, o, none⟩ ∧ ∀ i, i < l.length → w.cell? ⟨b, o + i, none⟩ = some (.int .u8 ((l.getD i 0).toNat : Nat))
theorem BAt.nil (w : World) (p : Option Addr) : BAt w p [] := fun h => absurd h (Nat.lt_irrefl 0)
theorem BAt.below {w w' : World} {p : Option Addr} {l : List UInt8} (h : BAt w p l) (hb : Below w.heap.size w w') : BAt w' p l := fun hl => by
  obtain ⟨b, o, hp, hc⟩ := h hl
  refine ⟨b, o, hp, fun i hi => ?_⟩
  have hlt := World.block_lt_of_cell? _ _ (hc i hi)
  rw [hb.cell (p := ⟨b, o + i, none⟩) hlt]; exact hc i hi
theorem byte_of_wf {x : Int} (h : (Lit.int .u8 x).wf = true) : 0 ≤ x ∧ x < 256 := by
  have h1 : IntKind.u8.min = 0 := rfl
  have h2 : IntKind.u8.max = 255 := rfl
  simp only [Lit.wf, Bool.and_eq_true, decide_eq_true_eq] at h
  omega
/-- An argument of type []byte, opened. -/
theorem opened {H : Type} {enc : TypeId × Value → H} {P : Program} {t e : TypeId} (ht : P.underlying t = some (.slice e)) (he : P.underlying e = some (.int .u8)) (hc : P.cellsOf e = 1) {W : World} {a0 : Option Addr} {len cap : Nat} {d0 : DataW H} {p : List MemPlace}
    (h0 : DataW.Trod enc P W 0 (fun _ => true) true t (.slice a0 len cap) d0 p) : ∃ l : List UInt8, l.length = len ∧ len ≤ cap ∧ cap ≤ maxLen ∧ BAt W a0 l := by
  obtain ⟨fuel, hf⟩ := h0
  rcases open_ints ht he hc hf with ⟨hcs, hx⟩ | ⟨a, len', cap', zs, hcs, _, hl, hm, hz, hx, hcell, hwz⟩
  · simp [Value.cells] at hcs
    obtain ⟨rfl, rfl, rfl⟩ := hcs
    exact ⟨[], rfl, Nat.le_refl _, Nat.zero_le _, BAt.nil _ _⟩
  · simp [Value.cells] at hcs
    obtain ⟨rfl, rfl, rfl⟩ := hcs
    simp only [if_true] at hz
    refine ⟨(zs.take len).map fun z => UInt8.ofNat z.toNat, by simp; omega, hl, hm, fun hn => ?_⟩
    have hlen : ((zs.take len).map fun z => UInt8.ofNat z.toNat).length = len := by simp; omega
    rw [hlen] at hn
    obtain ⟨b, o, s⟩ := a
    obtain rfl : s = none := by simpa [Addr.add] using World.cell?_spot (hcell 0 (by omega))
    refine ⟨b, o, rfl, fun i hi => ?_⟩
    rw [hlen] at hi
    have h1 := hcell i (by omega)
    rw [add_plain] at h1
    rw [h1]
    have hzi : zs[i]? = some (zs.getD i 0) := by simp [List.getD, show i < zs.length by omega]
    have hmem : zs.getD i 0 ∈ zs := List.mem_of_getElem? hzi
    have hb := byte_of_wf (hwz _ hmem)
    have e1 : ((zs.take len).map fun z => UInt8.ofNat z.toNat).getD i 0 = UInt8.ofNat (zs.getD i 0).toNat := by
      simp [List.getD, hi, show i < zs.length by omega]
    rw [e1, UInt8.toNat_ofNat']
    congr 2
    omega
end Go.Proofs.YtjnlkgamnabhjaaDoor
