/-
  vec.Put.
-/
import Derived.Test.YtebfhomopdnkkaaZ1
import Derived.Test.YtebfhomopdnkkaaWTake
namespace Go.Proofs.Ytebfhomopdnkkaa
open Go.RowKit Go.Lib
set_option linter.unusedVariables false

theorem num_at (pb : Option Addr) (nb cb : Nat) (lb l' : List UInt8) (v : Int) (w : World) (hb : Is w pb nb cb lb) (hv : C.fits v) (hl : lb.length ≤ 90000) (hl' : l' = lb ++ C.num v) :
    Calls Try.prog 32 #[.slice pb nb cb, .int .i64 v] w fun e w' => (∃ p n c, e = .returned (.slice p n c) ∧ Is w' p n c l') ∧ Below w.heap.size w w' := by
  subst hl'; exact num_any pb nb cb lb v w hb hv hl
end Go.Proofs.Ytebfhomopdnkkaa
