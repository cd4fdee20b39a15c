/-
  An argument of type [][]byte, opened.
-/
import Derived.Test.YtlfcpgncgldieaaBIs
import Derived.Deep.Matrix
namespace Go.Proofs.Ytlfcpgncgldieaa
open Go.ChangeShapes Go.WideShapes Go.ChangeAt Go.RowKit Go.Lib
set_option linter.unusedVariables false

def zBytes (zs : List Int) : List UInt8 := zs.map fun z => UInt8.ofNat z.toNat
theorem zBytes_at {zs : List Int} (hw : ∀ n ∈ zs, (Lit.int .u8 n).wf = true) (i : Nat) (hi : i < zs.length) : (((zBytes zs).getD i 0).toNat : Int) = zs.getD i 0 := by
  have hmem : zs.getD i 0 ∈ zs := by simp [List.getD, hi]
  have hb := byte_of_wf (hw _ hmem)
  have e1 : (zBytes zs).getD i 0 = UInt8.ofNat (zs.getD i 0).toNat := by simp [zBytes, List.getD, hi]
  rw [e1, UInt8.toNat_ofNat']
  omega
theorem openedRows {H : Type} {enc : TypeId × Value → H} {P : Program} {t e q : TypeId} (ht : P.underlying t = some (.slice e)) (he : P.underlying e = some (.slice q)) (hq : P.underlying q = some (.int .u8)) (ce : P.cellsOf e = 1) (cq : P.cellsOf q = 1) {W : World} {a0 : Option Addr} {len cap : Nat} {d0 : DataW H} {p : List MemPlace}
    (h0 : DataW.Trod enc P W 0 (fun _ => true) true t (.slice a0 len cap) d0 p) : ∃ ps : List Part, ps.length = len ∧ len ≤ cap ∧ cap ≤ maxLen ∧ PAt W a0 ps ∧ ∀ x ∈ ps, x.ok W := by
  obtain ⟨fuel, hf⟩ := h0
  rcases Go.Deep.open_int_rows ht he hq ce cq hf with ⟨hcs, hx⟩ | ⟨a, len', cap', A, L, Cc, Z, hcs, _, hl, hm, hx, hr⟩
  · simp [Value.cells] at hcs
    obtain ⟨rfl, rfl, rfl⟩ := hcs
    exact ⟨[], rfl, Nat.le_refl _, Nat.zero_le _, fun h => absurd h (Nat.lt_irrefl 0), fun x hx => by cases hx⟩
  · simp [Value.cells] at hcs
    obtain ⟨rfl, rfl, rfl⟩ := hcs
    have hlz : ∀ r, r < len → (zBytes ((Z r).take (L r))).length = L r := by
      intro r h
      obtain ⟨_, h1, _, h3, _⟩ := hr r (by omega)
      simp [zBytes, h3]; omega
    refine ⟨(List.range len).map fun r => ⟨A r, zBytes ((Z r).take (L r)), Cc r⟩, by simp, hl, hm, fun h => ?_, fun x hx => ?_⟩
    · obtain ⟨b, o, s⟩ := a
      have hlen : 0 < len := by simpa using h
      obtain rfl : s = none := by simpa [Addr.add] using World.cell?_spot (hr 0 (by omega)).1
      refine ⟨b, o, rfl, fun i x hi => ?_⟩
      have hil : i < len := by
        have := (List.getElem?_eq_some_iff.1 hi).1
        simpa using this
      have hx : x = ⟨A i, zBytes ((Z i).take (L i)), Cc i⟩ := by
        rw [List.getElem?_map, List.getElem?_range hil] at hi
        simpa using hi.symm
      subst hx
      have h1 := (hr i (by omega)).1
      rw [add_plain] at h1
      rw [h1, Part.v, hlz i hil]
    · obtain ⟨r, hrm, rfl⟩ := List.mem_map.1 hx
      have hrl : r < len := List.mem_range.1 hrm
      obtain ⟨_, h1, h2, h3, h4, h5, h6⟩ := hr r (by omega)
      refine ⟨by show (zBytes ((Z r).take (L r))).length ≤ maxLen; rw [hlz r hrl]; omega, fun hpos => ?_⟩
      simp only at hpos
      rw [hlz r hrl] at hpos
      cases hA : A r with
      | none => have := h5 hA; omega
      | some a' =>
        obtain ⟨_, hc⟩ := h6 a' hA
        obtain ⟨b, o, s⟩ := a'
        obtain rfl : s = none := by simpa [Addr.add] using World.cell?_spot (hc 0 (by omega))
        refine ⟨b, o, rfl, fun i hi => ?_⟩
        simp only at hi
        rw [hlz r hrl] at hi
        have h7 := hc i (by omega)
        rw [add_plain] at h7
        rw [h7]
        congr 2
        rw [zBytes_at (fun n hn => h4 n (List.mem_of_mem_take hn)) i (by rw [List.length_take]; omega)]
        simp [List.getD, hi]
end Go.Proofs.Ytlfcpgncgldieaa
