/-
  tally.Tally as it lies (the document's own one lies alike): New, count, Add, Value, Up, Down.
-/
import Derived.Test.YtnkfabonggofgaaYMath
import Derived.Test.YtnkfabonggofgaaWLaw
import Derived.Test.YtnkfabonggofgaaBRow
import Derived.Test.YtnkfabonggofgaaWBox
namespace Go.Proofs.Ytnkfabonggofgaa
open Go.RowKit Go.Lib
set_option linter.unusedVariables false

def cells14 (u d : V7) : Array Value := #[.int .i64 u.x0, .int .i64 u.x1, .int .i64 u.x2, .int .i64 u.x3, .int .i64 u.x4, .int .i64 u.x5, .int .i64 u.x6, .int .i64 d.x0, .int .i64 d.x1, .int .i64 d.x2, .int .i64 d.x3, .int .i64 d.x4, .int .i64 d.x5, .int .i64 d.x6]
theorem get_u14 (u d : V7) {k : Nat} (h : k < 7) : (cells14 u d)[k]? = some (.int .i64 (C.at7 u k)) := by
  rcases C.sev h with rfl | rfl | rfl | rfl | rfl | rfl | rfl <;> rfl
theorem get_d14 (u d : V7) {k : Nat} (h : k < 7) : (cells14 u d)[7 + k]? = some (.int .i64 (C.at7 d k)) := by
  rcases C.sev h with rfl | rfl | rfl | rfl | rfl | rfl | rfl <;> rfl
theorem set_u14 (u d : V7) {k : Nat} (h : k < 7) (x : Int) : (cells14 u d).setIfInBounds k (.int .i64 x) = cells14 (C.set7 u k x) d := by
  rcases C.sev h with rfl | rfl | rfl | rfl | rfl | rfl | rfl <;> rfl
theorem set_d14 (u d : V7) {k : Nat} (h : k < 7) (x : Int) : (cells14 u d).setIfInBounds (7 + k) (.int .i64 x) = cells14 u (C.set7 d k x) := by
  rcases C.sev h with rfl | rfl | rfl | rfl | rfl | rfl | rfl <;> rfl
/-- A tally at block g, of type t. -/
def TaAt (w : World) (g : Nat) (t : TypeId) (T : C.Ta) : Prop := w.heap[g]? = some (.cells (cells14 T.u T.d) t)
theorem TaAt.lt {w : World} {g : Nat} {t : TypeId} {T : C.Ta} (h : TaAt w g t T) : g < w.heap.size := (Array.getElem?_eq_some_iff.1 h).1
theorem TaAt.same {w w' : World} {g : Nat} {t : TypeId} {T : C.Ta} (h : TaAt w g t T) (hs : w'.heap[g]? = w.heap[g]?) : TaAt w' g t T := hs.trans h
theorem TaAt.below {w w' : World} {g : Nat} {t : TypeId} {T : C.Ta} (h : TaAt w g t T) (hb : Below w.heap.size w w') : TaAt w' g t T := h.same (hb.block g h.lt)
theorem TaAt.up {w : World} {g : Nat} {t : TypeId} {T : C.Ta} (h : TaAt w g t T) {k : Nat} (hk : k < 7) : w.cell? ⟨g, k, none⟩ = some (.int .i64 (C.at7 T.u k)) := by
  have : w.cell? ⟨g, k, none⟩ = (cells14 T.u T.d)[k]? := by unfold TaAt at h; simp [World.cell?, h]
  rw [this]; exact get_u14 _ _ hk
theorem TaAt.dn {w : World} {g : Nat} {t : TypeId} {T : C.Ta} (h : TaAt w g t T) {k : Nat} (hk : k < 7) : w.cell? ⟨g, 7 + k, none⟩ = some (.int .i64 (C.at7 T.d k)) := by
  have : w.cell? ⟨g, 7 + k, none⟩ = (cells14 T.u T.d)[7 + k]? := by unfold TaAt at h; simp [World.cell?, h]
  rw [this]; exact get_d14 _ _ hk
theorem TaAt.fz {w : World} {g : Nat} {t : TypeId} {T : C.Ta} (h : TaAt w g t T) (o : Nat) : w.frozen? ⟨g, o, none⟩ = false := by unfold TaAt at h; simp [World.frozen?, h]
theorem cells14_at {w : World} {g : Nat} {t : TypeId} {u d : V7} (h : TaAt w g t ⟨u, d⟩) :
    w.cell? ⟨g, 0, none⟩ = some (.int .i64 u.x0) ∧ w.cell? ⟨g, 1, none⟩ = some (.int .i64 u.x1) ∧ w.cell? ⟨g, 2, none⟩ = some (.int .i64 u.x2) ∧ w.cell? ⟨g, 3, none⟩ = some (.int .i64 u.x3) ∧ w.cell? ⟨g, 4, none⟩ = some (.int .i64 u.x4) ∧ w.cell? ⟨g, 5, none⟩ = some (.int .i64 u.x5) ∧ w.cell? ⟨g, 6, none⟩ = some (.int .i64 u.x6) ∧ w.cell? ⟨g, 7, none⟩ = some (.int .i64 d.x0) ∧ w.cell? ⟨g, 8, none⟩ = some (.int .i64 d.x1) ∧ w.cell? ⟨g, 9, none⟩ = some (.int .i64 d.x2) ∧ w.cell? ⟨g, 10, none⟩ = some (.int .i64 d.x3) ∧ w.cell? ⟨g, 11, none⟩ = some (.int .i64 d.x4) ∧ w.cell? ⟨g, 12, none⟩ = some (.int .i64 d.x5) ∧ w.cell? ⟨g, 13, none⟩ = some (.int .i64 d.x6) :=
  ⟨h.up (k := 0) (by decide), h.up (k := 1) (by decide), h.up (k := 2) (by decide), h.up (k := 3) (by decide), h.up (k := 4) (by decide), h.up (k := 5) (by decide), h.up (k := 6) (by decide), h.dn (k := 0) (by decide), h.dn (k := 1) (by decide), h.dn (k := 2) (by decide), h.dn (k := 3) (by decide), h.dn (k := 4) (by decide), h.dn (k := 5) (by decide), h.dn (k := 6) (by decide)⟩
theorem new_any (w : World) : Calls Try.prog 8 #[] w fun e w' => e = .returned (.pointer (some ⟨w.heap.size, 0, none⟩)) ∧ TaAt w' w.heap.size 51 C.zeroT ∧ Below w.heap.size w w' := by
  have HN : Hid _ := heap_alloc_new w (.cells (cells14 C.zero77 C.zero77) 51)
  go_enter Try.func8, Try.ntmps8
  go_wp2
  go_ret
  exact ⟨rfl, HN.out, below_new _ _⟩
theorem count_lim (w : World) (g k : Nat) (x b : Int) (hc : w.cell? ⟨g, k, none⟩ = some (.int .i64 x)) (hx : 0 ≤ x ∧ x ≤ 1125899906842624) (hb : 0 ≤ b ∧ b ≤ 1099511627776) (hl : 1125899906842624 < x + b) :
    Calls Try.prog 24 #[.pointer (some ⟨g, k, none⟩), .int .i64 b] w fun e w' => e = .returned (.int .i64 2) ∧ w' = w := by
  go_enter Try.func24, Try.ntmps24
  go_wp2
  go_ret
  exact ⟨rfl, rfl⟩
theorem count_ok (w : World) (g k : Nat) (x b : Int) (hc : w.cell? ⟨g, k, none⟩ = some (.int .i64 x)) (hf : w.frozen? ⟨g, k, none⟩ = false) (hx : 0 ≤ x ∧ x ≤ 1125899906842624) (hb : 0 ≤ b ∧ b ≤ 1099511627776) (hl : ¬ 1125899906842624 < x + b) :
    Calls Try.prog 24 #[.pointer (some ⟨g, k, none⟩), .int .i64 b] w fun e w' => e = .returned (.int .i64 0) ∧ w' = w.setCell ⟨g, k, none⟩ (.int .i64 (x + b)) := by
  go_enter Try.func24, Try.ntmps24
  go_wp2
  go_ret
  exact ⟨rfl, rfl⟩
end Go.Proofs.Ytnkfabonggofgaa
