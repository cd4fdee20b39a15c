/-
  rostrumlaw9's acts as arguments.
-/
import Derived.Test.YtoglhhoniojbaaaZ3
import Derived.Test.YtoglhhoniojbaaaBVec
import Derived.Test.YtoglhhoniojbaaaBStructs
namespace Go.Proofs.Ytoglhhoniojbaaa
open Go.ChangeShapes Go.WideShapes Go.ChangeAt Go.RowKit Go.Lib Go.Joins Go.Deep
set_option linter.unusedVariables false

/-- An act: Op, D, X, V. -/
structure ActO where
  op : Int
  d : C.Dt
  x : Tx
  v : V7
def ActO.cells (a : ActO) : List Value := [.int .i64 a.op, .int .i64 a.d.1, .int .i64 a.d.2, .string a.x, .int .i64 a.v.x0, .int .i64 a.v.x1, .int .i64 a.v.x2, .int .i64 a.v.x3, .int .i64 a.v.x4, .int .i64 a.v.x5, .int .i64 a.v.x6]
theorem list11 {q : List Value} (h : q.length = 11) : ∃ a b c d e f g i j k l, q = [a, b, c, d, e, f, g, i, j, k, l] := by
  match q, h with
  | [a, b, c, d, e, f, g, i, j, k, l], _ => exact ⟨a, b, c, d, e, f, g, i, j, k, l, rfl⟩
theorem list4 {α : Type} {q : List α} (h : q.length = 4) : ∃ a b c d, q = [a, b, c, d] := by
  match q, h with
  | [a, b, c, d], _ => exact ⟨a, b, c, d, rfl⟩
theorem list2 {α : Type} {q : List α} (h : q.length = 2) : ∃ a b, q = [a, b] := by
  match q, h with
  | [a, b], _ => exact ⟨a, b, rfl⟩
theorem act_cells {H : Type} {enc : TypeId × Value → H} {w : World} {base : Nat} {spare : Nat → Bool} {held : Bool} {fuel : Nat} {q : List Value} {y : DataW H × List MemPlace} (h : DataW.trod enc Try.prog w base spare held fuel 42 q = some y) :
    ∃ a : ActO, q = a.cells ∧ a.x.size ≤ maxLen ∧ y.2 = [] := by
  obtain ⟨xs, n, _, hx, hl, hxl, hff⟩ := DataW.trod_struct Try.underlying42 h
  have c42 : Try.prog.cellsOf 42 = 11 := by kernel_rfl
  have c3 : Try.prog.cellsOf 3 = 1 := by kernel_rfl
  have c2 : Try.prog.cellsOf 2 = 1 := by kernel_rfl
  have c31 : Try.prog.cellsOf 31 = 2 := by kernel_rfl
  have c9 : Try.prog.cellsOf 9 = 1 := by kernel_rfl
  have c28 : Try.prog.cellsOf 28 = 7 := by kernel_rfl
  obtain ⟨k0, k1, k2, k3, k4, k5, k6, k7, k8, k9, k10, rfl⟩ := list11 (hl.trans c42)
  obtain ⟨y0, y1, y2, y3, rfl⟩ := list4 (hxl.trans rfl)
  have g0 : DataW.trod enc Try.prog w base spare held n 3 (([k0, k1, k2, k3, k4, k5, k6, k7, k8, k9, k10].drop 0).take (Try.prog.cellsOf 3)) = some y0 := hff 0 _ rfl
  have g1 : DataW.trod enc Try.prog w base spare held n 31 (([k0, k1, k2, k3, k4, k5, k6, k7, k8, k9, k10].drop 1).take (Try.prog.cellsOf 31)) = some y1 := hff 1 _ rfl
  have g2 : DataW.trod enc Try.prog w base spare held n 9 (([k0, k1, k2, k3, k4, k5, k6, k7, k8, k9, k10].drop 3).take (Try.prog.cellsOf 9)) = some y2 := hff 2 _ rfl
  have g3 : DataW.trod enc Try.prog w base spare held n 28 (([k0, k1, k2, k3, k4, k5, k6, k7, k8, k9, k10].drop 4).take (Try.prog.cellsOf 28)) = some y3 := hff 3 _ rfl
  rw [c3] at g0
  rw [c31] at g1
  rw [c9] at g2
  rw [c28] at g3
  simp only [List.drop, List.take] at g0 g1 g2 g3
  clear hff
  obtain ⟨z0, e0, rfl, w0⟩ := DataW.trod_int Try.underlying3 g0
  obtain ⟨s, e2, rfl, ws⟩ := DataW.trod_string Try.underlying9 g2
  obtain ⟨xs1, n1, _, rfl, _, hxl1, hf1⟩ := DataW.trod_struct Try.underlying31 g1
  obtain ⟨u0, u1, rfl⟩ := list2 (hxl1.trans rfl)
  have m0 : DataW.trod enc Try.prog w base spare held n1 3 (([k1, k2].drop 0).take (Try.prog.cellsOf 3)) = some u0 := hf1 0 _ rfl
  have m1 : DataW.trod enc Try.prog w base spare held n1 2 (([k1, k2].drop 1).take (Try.prog.cellsOf 2)) = some u1 := hf1 1 _ rfl
  rw [c3] at m0
  rw [c2] at m1
  simp only [List.drop, List.take] at m0 m1
  clear hf1
  obtain ⟨d0, f0, rfl, _⟩ := DataW.trod_int Try.underlying3 m0
  obtain ⟨d1, f1, rfl, _⟩ := DataW.trod_int Try.underlying2 m1
  obtain ⟨v0, v1, v2, v3, v4, v5, v6, n3, rfl, h0, h1, h2, h3, h4, h5, h6⟩ := trod_array7 Try.underlying28 c2 g3
  obtain ⟨t0, p0, rfl, _⟩ := DataW.trod_int Try.underlying2 h0
  obtain ⟨t1, p1, rfl, _⟩ := DataW.trod_int Try.underlying2 h1
  obtain ⟨t2, p2, rfl, _⟩ := DataW.trod_int Try.underlying2 h2
  obtain ⟨t3, p3, rfl, _⟩ := DataW.trod_int Try.underlying2 h3
  obtain ⟨t4, p4, rfl, _⟩ := DataW.trod_int Try.underlying2 h4
  obtain ⟨t5, p5, rfl, _⟩ := DataW.trod_int Try.underlying2 h5
  obtain ⟨t6, p6, rfl, _⟩ := DataW.trod_int Try.underlying2 h6
  simp only [List.cons.injEq, and_true] at e0 e2 f0 f1 p0 p1 p2 p3 p4 p5 p6
  subst e0 e2 f0 f1 p0 p1 p2 p3 p4 p5 p6
  refine ⟨⟨z0, (d0, d1), s, ⟨t0, t1, t2, t3, t4, t5, t6⟩⟩, rfl, ws, ?_⟩
  rw [hx]
  rfl
/-- Acts as they came in. -/
def ArgO (w : World) (p : Option Addr) (l : List ActO) : Prop := 0 < l.length → ∃ b o, p = some ⟨b, o, none⟩ ∧ ∀ i a, l[i]? = some a → ∀ j u, a.cells[j]? = some u → w.cell? ⟨b, o + i * 11 + j, none⟩ = some u
theorem ArgO.below {w w' : World} {p : Option Addr} {l : List ActO} (h : ArgO w p l) (hb : Below w.heap.size w w') : ArgO w' p l := fun hl => by
  obtain ⟨b, o, hp, hc⟩ := h hl
  exact ⟨b, o, hp, fun i a ha j u hu => (hb.cell (p := ⟨b, o + i * 11 + j, none⟩) (World.block_lt_of_cell? _ _ (hc i a ha j u hu))).trans (hc i a ha j u hu)⟩
theorem choose_listO {α : Type} {P : Nat → α → Prop} : ∀ n, (∀ i, i < n → ∃ x, P i x) → ∃ l : List α, l.length = n ∧ ∀ i x, l[i]? = some x → P i x
  | 0, _ => ⟨[], rfl, fun i x h => by cases h⟩
  | n + 1, h => by
    obtain ⟨l, hl, hp⟩ := choose_listO n (fun i hi => h i (by omega))
    obtain ⟨x, hx⟩ := h n (by omega)
    refine ⟨l ++ [x], by simp [hl], fun i y hy => ?_⟩
    by_cases hi : i < n
    · rw [List.getElem?_append_left (by omega)] at hy
      exact hp i y hy
    · rw [List.getElem?_append_right (by omega)] at hy
      have : i - l.length = 0 := by
        by_cases h0 : i - l.length = 0
        · exact h0
        · rw [List.getElem?_eq_none (by simp; omega)] at hy; cases hy
      rw [this] at hy
      simp at hy
      subst hy
      have : i = n := by omega
      subst this; exact hx
theorem openedActs {H : Type} {enc : TypeId × Value → H} {W : World} {a0 : Option Addr} {len cap : Nat} {d0 : DataW H} {p : List MemPlace}
    (h0 : DataW.Trod enc Try.prog W 0 (fun _ => true) true 35 (.slice a0 len cap) d0 p) :
    ∃ xs : List ActO, xs.length = len ∧ len ≤ cap ∧ cap ≤ maxLen ∧ ArgO W a0 xs ∧ ∀ x ∈ xs, x.x.size ≤ maxLen := by
  obtain ⟨fuel, hf⟩ := h0
  rcases Go.Deep.open_slice Try.underlying35 hf with ⟨hcs, hx⟩ | ⟨a, len', cap', mm, n, D, Pl, hcs, _, hl, hmx, hmm, hx, hr⟩
  · simp [Value.cells] at hcs
    obtain ⟨rfl, rfl, rfl⟩ := hcs
    exact ⟨[], rfl, Nat.le_refl _, Nat.zero_le _, fun h => absurd h (Nat.lt_irrefl 0), fun x hx => by cases hx⟩
  · simp [Value.cells] at hcs
    obtain ⟨rfl, rfl, rfl⟩ := hcs
    simp only [if_true] at hmm
    subst hmm
    have c42 : Try.prog.cellsOf 42 = 11 := by kernel_rfl
    have each : ∀ i, i < len → ∃ q : ActO, q.x.size ≤ maxLen ∧ ∀ j u, q.cells[j]? = some u → W.cell? (a.add (i * 11 + j)) = some u := by
      intro i hi
      obtain ⟨cs', h1, h2⟩ := hr i (by omega)
      rw [c42] at h1
      obtain ⟨_, hlen, hcell⟩ := World.cells?_some h1
      obtain ⟨q, rfl, hs, _⟩ := act_cells h2
      refine ⟨q, hs, fun j u hj => ?_⟩
      have := hcell j (by have := (List.getElem?_eq_some_iff.1 hj).1; simpa [ActO.cells] using this)
      rw [Go.Deep.add_add] at this
      rw [this, hj]
    obtain ⟨xs, hxl, hp⟩ := choose_listO len each
    refine ⟨xs, hxl, hl, hmx, fun hlen => ?_, fun x hx => ?_⟩
    · obtain ⟨b, o, s⟩ := a
      obtain ⟨x0, hx0⟩ : ∃ x0, xs[0]? = some x0 := ⟨_, List.getElem?_eq_getElem hlen⟩
      have h00 := (hp 0 x0 hx0).2 0 _ rfl
      obtain rfl : s = none := by simpa [Addr.add] using World.cell?_spot h00
      refine ⟨b, o, rfl, fun i x hx j u hu => ?_⟩
      have := (hp i x hx).2 j u hu
      rw [add_plain] at this
      rw [Nat.add_assoc]
      exact this
    · obtain ⟨i, hi⟩ := List.getElem?_of_mem hx
      exact (hp i x hi).1
theorem array11 {xs : Array Value} (h : xs.size = 11) : ∃ a b c d e f g i j k l, xs = #[a, b, c, d, e, f, g, i, j, k, l] := by
  obtain ⟨q⟩ := xs
  obtain ⟨a, b, c, d, e, f, g, i, j, k, l, rfl⟩ := list11 (q := q) h
  exact ⟨a, b, c, d, e, f, g, i, j, k, l, rfl⟩
theorem okWide_at {P : Program} {W : World} {r : Reach} {b0 : Nat} {t : TypeId} {fs : Array Field} {n : Nat} {v : Value} (ht : P.underlying t = some (.struct fs)) (hc : P.cellsOf t = n) (hv : Value.okWide P W r b0 t v) : ∃ cs, v = .agg cs ∧ cs.size = n := by
  obtain ⟨cs, h1, h2⟩ := okWide_struct ht hv
  exact ⟨cs, h1, h2.trans hc⟩
set_option maxRecDepth 100000 in
/-- An act that is handed itself. -/
theorem openedAct {H : Type} {enc : TypeId × Value → H} {W w : World} {base : Nat} {spare : Nat → Bool} {held : Bool} {r : Reach} {b0 : Nat} {v : Value} {d : DataW H} {p : List MemPlace}
    (hv : Value.okWide Try.prog W r b0 42 v) (h : DataW.Trod enc Try.prog w base spare held 42 v d p) : ∃ a : ActO, v = .agg a.cells.toArray ∧ p = [] ∧ a.x.size ≤ maxLen := by
  obtain ⟨cs, rfl, hsz⟩ := okWide_at Try.underlying42 (n := 11) (by kernel_rfl) hv
  obtain ⟨a, b, c, d, e, f, g, i, j, k, l, rfl⟩ := array11 hsz
  obtain ⟨fuel, hf⟩ := h
  obtain ⟨q, hq, hs, hp⟩ := act_cells hf
  refine ⟨q, ?_, hp, hs⟩
  rw [← hq]
  rfl
end Go.Proofs.Ytoglhhoniojbaaa
