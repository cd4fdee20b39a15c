/-
  The laws' own start: awake.
-/
import Derived.Test.YtebfhomopdnkkaaEObjs
namespace Go.Proofs.Ytebfhomopdnkkaa
open Go.RowKit Go.Lib
set_option linter.unusedVariables false

def txA : ByteArray := ⟨#[97]⟩
def txB : ByteArray := ⟨#[98]⟩
def txC : ByteArray := ⟨#[99]⟩
theorem tx_len : txA.size ≤ maxLen ∧ txB.size ≤ maxLen ∧ txC.size ≤ maxLen := ⟨by decide, by decide, by decide⟩
theorem txa_is : (txA.toList == [97]) = true := by rw [ByteArray.toList_eq]; rfl
set_option maxRecDepth 100000 in
set_option maxHeartbeats 4000000 in
theorem awake11_any (w : World) : Calls Try.prog 8 #[] w fun e w' => e = .returned (.bool true) ∧ Below w.heap.size w w' := by
  have HL : Hid _ := tx_len
  go_enter Try.func8, Try.ntmps8
  go_wp2_with fail
  refine (e_new (Els.nil (Below.refl _ w))).mono ?_
  rintro e w1 ⟨g, rfl, h1, -⟩
  have H1 : Hid (Els w w1 ([] ++ ⟨g, C.La.zero, false⟩ :: [])) := h1
  clear h1
  go_wp2_with fail
  refine (e_wr [] [] g C.La.zero ⟨txA, 5, 0, 1⟩ txA 5 0 1 true 0 H1.out HL.out.1 (by decide) (by decide) (by rfl)).mono ?_
  rintro e w2 ⟨rfl, h2, -⟩
  have H2 : Hid (Els w w2 ([] ++ ⟨g, ⟨txA, 5, 0, 1⟩, false⟩ :: [])) := h2
  clear h2 H1
  go_wp2_with fail
  refine (e_wr [] [] g ⟨txA, 5, 0, 1⟩ ⟨txA, 5, 0, 1⟩ txB 3 1 1 false 0 H2.out HL.out.2.1 (by decide) (by decide) (by rfl)).mono ?_
  rintro e w3 ⟨rfl, h3, -⟩
  have H3 : Hid (Els w w3 ([] ++ ⟨g, ⟨txA, 5, 0, 1⟩, false⟩ :: [])) := h3
  clear h3 H2
  go_wp2_with fail
  refine (e_value [] [] g ⟨txA, 5, 0, 1⟩ txA true H3.out rfl rfl).mono ?_
  rintro e w4 ⟨rfl, hb4⟩
  have HB4 : Hid (Below w.heap.size w w4) := bt H3.out.bel hb4
  have ha : (txA.toList == [97]) = true := txa_is
  clear hb4 H3
  go_wp2
  go_ret
  exact ⟨rfl, HB4.out⟩
end Go.Proofs.Ytebfhomopdnkkaa
