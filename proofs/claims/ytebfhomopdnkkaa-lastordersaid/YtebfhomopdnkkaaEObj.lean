/-
  last.Last as it lies, the document's own one too: New, written, Value, When.
-/
import Derived.Test.YtebfhomopdnkkaaEMath
import Derived.Test.YtebfhomopdnkkaaWLaw
import Derived.Test.YtebfhomopdnkkaaBRow
import Derived.Test.YtebfhomopdnkkaaWBox
namespace Go.Proofs.Ytebfhomopdnkkaa
open Go.RowKit Go.Lib
set_option linter.unusedVariables false

/-- Its cells; an act's too. -/
def C.La.cells (S : C.La) : List Value := [.string S.x, .int .i64 S.t, .int .i64 S.r, .int .i64 S.n]
/-- If something is there, in one word. -/
def C.isL (S : C.La) : Bool := S.n != 0
/-- Of both kinds: the program's, the document's own. -/
def cellsE (k : Bool) (S : C.La) : List Value := match k with | false => S.cells | true => .bool (C.isL S) :: S.cells
def tyE (k : Bool) : TypeId := match k with | false => 55 | true => 43
def EAt (w : World) (g : Nat) (k : Bool) (S : C.La) : Prop := w.heap[g]? = some (.cells (cellsE k S).toArray (tyE k))
section
variable {w w' : World} {g : Nat} {k : Bool} {S : C.La}
theorem EAt.lt (h : EAt w g k S) : g < w.heap.size := (Array.getElem?_eq_some_iff.1 h).1
theorem EAt.same (h : EAt w g k S) (hs : w'.heap[g]? = w.heap[g]?) : EAt w' g k S := hs.trans h
theorem EAt.below (h : EAt w g k S) (hb : Below w.heap.size w w') : EAt w' g k S := h.same (hb.block g h.lt)
theorem EAt.cell (h : EAt w g k S) (i : Nat) : w.cell? ⟨g, i, none⟩ = (cellsE k S)[i]? := by
  unfold EAt at h; simp [World.cell?, h]
theorem EAt.fz (h : EAt w g k S) (o : Nat) : w.frozen? ⟨g, o, none⟩ = false := by unfold EAt at h; simp [World.frozen?, h]
theorem EAt.ne_rd {q : Nat} {s : Option (List UInt8)} {p : Option Addr} {n c : Nat} (h : EAt w g k S) (hr : Rd w q s p n c) : g ≠ q := by
  rintro rfl
  have h2 := hr.blk
  unfold EAt at h
  rw [h] at h2
  cases k <;> simp [cellsE, C.La.cells] at h2
theorem EAt.nb (h : EAt w g k S) : NB w g := by
  intro o x
  rw [h.cell o]
  cases k
  · rcases o with _ | _ | _ | _ | o <;> simp [cellsE, C.La.cells]
  · rcases o with _ | _ | _ | _ | _ | o <;> simp [cellsE, C.La.cells]
end
theorem cells4_at {w : World} {g : Nat} {x : ByteArray} {t r n : Int} (h : EAt w g false ⟨x, t, r, n⟩) : w.cell? ⟨g, 0, none⟩ = some (.string x) ∧ w.cell? ⟨g, 1, none⟩ = some (.int .i64 t) ∧ w.cell? ⟨g, 2, none⟩ = some (.int .i64 r) ∧ w.cell? ⟨g, 3, none⟩ = some (.int .i64 n) :=
  ⟨h.cell 0, h.cell 1, h.cell 2, h.cell 3⟩
theorem cells5_at {w : World} {g : Nat} {x : ByteArray} {t r n : Int} (h : EAt w g true ⟨x, t, r, n⟩) : w.cell? ⟨g, 0, none⟩ = some (.bool (n != 0)) ∧ w.cell? ⟨g, 1, none⟩ = some (.string x) ∧ w.cell? ⟨g, 2, none⟩ = some (.int .i64 t) ∧ w.cell? ⟨g, 3, none⟩ = some (.int .i64 r) ∧ w.cell? ⟨g, 4, none⟩ = some (.int .i64 n) :=
  ⟨h.cell 0, h.cell 1, h.cell 2, h.cell 3, h.cell 4⟩
/-- Equality of dots. -/
theorem eq_dot (a b c d : Int) (w : World) : (Op.equalIn 10000 31 (.agg #[.int .i64 a, .int .i64 b]) (.agg #[.int .i64 c, .int .i64 d])).run Try.prog w = .ok (a == c && b == d) w := by
  have u3 := Try.underlying2
  have a3' := Try.isAgg2
  have z3 := Try.sizeOf2
  have v3 := Try.underlying3
  have b3' := Try.isAgg3
  have y3 := Try.sizeOf3
  rw [show (10000 : Nat) = 9999 + 1 from rfl, Op.equalIn]
  simp only [Sem.run_bind, run_underlying Try.underlying31, Result.andThen_ok]
  go_simp
  repeat' split
  all_goals simp [*]
theorem enew_any (w : World) : Calls Try.prog 9 #[] w fun e w' => e = .returned (.pointer (some ⟨w.heap.size, 0, none⟩)) ∧ EAt w' w.heap.size false C.La.zero ∧ Below w.heap.size w w' := by
  have HN : Hid _ := heap_alloc_new w (.cells #[.string ByteArray.empty, .int .i64 0, .int .i64 0, .int .i64 0] 55)
  go_enter Try.func9, Try.ntmps9
  go_wp2
  go_ret
  exact ⟨rfl, HN.out, below_new _ _⟩
end Go.Proofs.Ytebfhomopdnkkaa
