/-
  Several texts in one: WRef7, WRef7b, WRef7c, WRef7d.
-/
import Derived.Test.YtnkfabonggofgaaWBox
import Derived.Test.YtnkfabonggofgaaZ1
namespace Go.Proofs.Ytnkfabonggofgaa
open Go.RowKit Go.Lib
set_option linter.unusedVariables false

end Go.Proofs.Ytnkfabonggofgaa

namespace Go.Proofs.Ytnkfabonggofgaa
open Go.RowKit Go.Lib
set_option linter.unusedVariables false

namespace C
/-- The first k places merged. -/
def mixM (a b : V7) (k : Nat) : V7 := match k with
  | 0 => ⟨a.x0, a.x1, a.x2, a.x3, a.x4, a.x5, a.x6⟩
  | 1 => ⟨max a.x0 b.x0, a.x1, a.x2, a.x3, a.x4, a.x5, a.x6⟩
  | 2 => ⟨max a.x0 b.x0, max a.x1 b.x1, a.x2, a.x3, a.x4, a.x5, a.x6⟩
  | 3 => ⟨max a.x0 b.x0, max a.x1 b.x1, max a.x2 b.x2, a.x3, a.x4, a.x5, a.x6⟩
  | 4 => ⟨max a.x0 b.x0, max a.x1 b.x1, max a.x2 b.x2, max a.x3 b.x3, a.x4, a.x5, a.x6⟩
  | 5 => ⟨max a.x0 b.x0, max a.x1 b.x1, max a.x2 b.x2, max a.x3 b.x3, max a.x4 b.x4, a.x5, a.x6⟩
  | 6 => ⟨max a.x0 b.x0, max a.x1 b.x1, max a.x2 b.x2, max a.x3 b.x3, max a.x4 b.x4, max a.x5 b.x5, a.x6⟩
  | _ => ⟨max a.x0 b.x0, max a.x1 b.x1, max a.x2 b.x2, max a.x3 b.x3, max a.x4 b.x4, max a.x5 b.x5, max a.x6 b.x6⟩
def mixL (a b : V7) (k : Nat) : V7 := match k with
  | 0 => ⟨a.x0, a.x1, a.x2, a.x3, a.x4, a.x5, a.x6⟩
  | 1 => ⟨min a.x0 b.x0, a.x1, a.x2, a.x3, a.x4, a.x5, a.x6⟩
  | 2 => ⟨min a.x0 b.x0, min a.x1 b.x1, a.x2, a.x3, a.x4, a.x5, a.x6⟩
  | 3 => ⟨min a.x0 b.x0, min a.x1 b.x1, min a.x2 b.x2, a.x3, a.x4, a.x5, a.x6⟩
  | 4 => ⟨min a.x0 b.x0, min a.x1 b.x1, min a.x2 b.x2, min a.x3 b.x3, a.x4, a.x5, a.x6⟩
  | 5 => ⟨min a.x0 b.x0, min a.x1 b.x1, min a.x2 b.x2, min a.x3 b.x3, min a.x4 b.x4, a.x5, a.x6⟩
  | 6 => ⟨min a.x0 b.x0, min a.x1 b.x1, min a.x2 b.x2, min a.x3 b.x3, min a.x4 b.x4, min a.x5 b.x5, a.x6⟩
  | _ => ⟨min a.x0 b.x0, min a.x1 b.x1, min a.x2 b.x2, min a.x3 b.x3, min a.x4 b.x4, min a.x5 b.x5, min a.x6 b.x6⟩
end C
end Go.Proofs.Ytnkfabonggofgaa

namespace Go.Proofs.Ytnkfabonggofgaa
open Go.RowKit Go.Lib
set_option linter.unusedVariables false

end Go.Proofs.Ytnkfabonggofgaa

namespace Go.Proofs.Ytnkfabonggofgaa
open Go.RowKit Go.Lib
set_option linter.unusedVariables false

theorem refnum_at (pb : Option Addr) (nb cb : Nat) (lb l' : List UInt8) (v : Int) (w : World) (hb : Is w pb nb cb lb) (hv : C.fits v) (hl : lb.length ≤ 90000) (e : l' = lb ++ C.num v) :
    Calls Try.prog 32 #[.slice pb nb cb, .int .i64 v] w fun e w' => (∃ p n c, e = .returned (.slice p n c) ∧ Is w' p n c l') ∧ Below w.heap.size w w' := by
  subst e
  refine (refnum_any pb nb cb lb v w hb hv hl).mono ?_
  rintro e w' ⟨⟨x, rfl, ho⟩, hb⟩
  obtain ⟨p, n, c, rfl, hi⟩ := Own.is ho
  exact ⟨⟨p, n, c, rfl, hi⟩, hb⟩
theorem rlen' {s s' : Option (List UInt8)} {a b v : Int} (h : C.rnum s a b = (v, s')) (hl : (s.getD []).length ≤ 100000) : (s'.getD []).length ≤ 100000 := rnum_len' h hl
end Go.Proofs.Ytnkfabonggofgaa
