/-
  bytes.Clone.
-/
import Derived.Test.YtebfhomopdnkkaaBKit
import Derived.Lib.SliceRun
namespace Go.Proofs.Ytebfhomopdnkkaa
open Go.RowKit Go.Lib
set_option linter.unusedVariables false

set_option maxHeartbeats 1000000 in
theorem clone_any (p : Option Addr) (l : List UInt8) (cap : Nat) (w : World) (hx : (Part.mk p l cap).ok w) (hl : l.length ≤ 100000000) :
    Calls Try.prog 31 #[.slice p l.length cap] w fun e w' => (∃ v, e = .returned v ∧ Own w' w.heap.size v l) ∧ Below w.heap.size w w' := by
  have HX : Hid ((Part.mk p l cap).ok w) := hx
  have kn := fun (w : World) (a : Option Addr) (n c n' c' : Nat) => Lib.run_eql_slice_nil (P := Try.prog) w 32 5 a n c n' c' Try.underlying32
  clear hx
  go_enter Try.func31, Try.ntmps31
  cases p with
  | none =>
    obtain rfl : l = [] := nil_of_none HX.out.2
    go_wp2
    go_ret
    exact ⟨⟨_, rfl, Own.nil _ _⟩, Below.refl _ _⟩
  | some ad =>
    have ho1 := Own.empty w w.heap.size (Nat.le_refl _)
    go_wp2_with (at_builtin; go_must (refine wpList_append_part rfl _ _ rfl w.heap.size _ [] rfl ho1 ⟨some ad, l, cap⟩ rfl (Part.ok.below HX.out (below_new _ _)) (by simp only [List.length_nil]; omega) (by simp) ?_); intro v2 w2 ho2 hg2; have h2 := ho1.grown (below_new w _) (by simp) hg2)
    go_ret
    exact ⟨⟨_, rfl, ho2⟩, h2⟩
end Go.Proofs.Ytebfhomopdnkkaa
