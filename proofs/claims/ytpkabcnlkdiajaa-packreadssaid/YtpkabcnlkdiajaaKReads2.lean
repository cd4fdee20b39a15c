/-
  PackReads, its arguments as they are opened.
-/
import Derived.Test.YtpkabcnlkdiajaaKReads
namespace Go.Proofs.Ytpkabcnlkdiajaa
open Go.RowKit Go.Lib
set_option linter.unusedVariables false

theorem reads_any (pb : Option Addr) (lb : List UInt8) (cb : Nat) (pa : Option Addr) (len ca : Nat) (w : World) (hb : Arg w ⟨pb, lb, cb⟩) (hpa : 0 < cb → ∃ b o, pb = some ⟨b, o, none⟩) (hla : len ≤ ca) (hca : ca ≤ maxLen)
    (V : Nat → Nat → Value) (hV : 0 < len → ∃ b o, pa = some ⟨b, o, none⟩ ∧ ∀ i j, i < len → j < 4 → w.cell? ⟨b, o + i * 4 + j, none⟩ = some (V i j)) (hI : ∀ i j, i < len → j < 4 → ∃ z, V i j = .int .i64 z ∧ (Lit.int .i64 z).wf = true) :
    Calls Try.prog 4 #[.slice pb lb.length cb, .slice pa len ca] w fun e w' => e = .returned (.bool true) ∧ Below w.heap.size w w' := by
  refine reads_walk pb lb cb pa len ca (fun i j => intOf (V i j)) w hb hpa hla hca fun hl => ?_
  obtain ⟨b, o, hp, hc⟩ := hV hl
  refine ⟨b, o, hp, fun i j hi hj => ?_⟩
  obtain ⟨z, hz, _⟩ := hI i j hi hj
  show _ = some (Value.int .i64 (intOf (V i j)))
  rw [hc i j hi hj, hz]
  rfl
end Go.Proofs.Ytpkabcnlkdiajaa
