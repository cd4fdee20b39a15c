/-
  rostrumlaw11's acts as arguments.
-/
import Derived.Test.YtebfhomopdnkkaaEObj
import Derived.Test.YtebfhomopdnkkaaBStructs
import Derived.Test.YtebfhomopdnkkaaZ2
namespace Go.Proofs.Ytebfhomopdnkkaa
open Go.ChangeShapes Go.WideShapes Go.ChangeAt Go.RowKit Go.Lib Go.Deep
set_option linter.unusedVariables false

theorem list4 {α : Type} {q : List α} (h : q.length = 4) : ∃ a b c d, q = [a, b, c, d] := by
  match q, h with
  | [a, b, c, d], _ => exact ⟨a, b, c, d, rfl⟩
theorem list3 {α : Type} {q : List α} (h : q.length = 3) : ∃ a b c, q = [a, b, c] := by
  match q, h with
  | [a, b, c], _ => exact ⟨a, b, c, rfl⟩
theorem list2 {α : Type} {q : List α} (h : q.length = 2) : ∃ a b, q = [a, b] := by
  match q, h with
  | [a, b], _ => exact ⟨a, b, rfl⟩
/-- An act is a text, a time, a dot: so it is what a write makes. -/
theorem act_cells {H : Type} {enc : TypeId × Value → H} {w : World} {base : Nat} {spare : Nat → Bool} {held : Bool} {fuel : Nat} {q : List Value} {y : DataW H × List MemPlace} (h : DataW.trod enc Try.prog w base spare held fuel 45 q = some y) :
    ∃ a : C.La, q = a.cells ∧ a.x.size ≤ maxLen ∧ y.2 = [] := by
  obtain ⟨xs, n, _, hx, hl, hxl, hff⟩ := DataW.trod_struct Try.underlying45 h
  have c42 : Try.prog.cellsOf 45 = 4 := by kernel_rfl
  have c3 : Try.prog.cellsOf 3 = 1 := by kernel_rfl
  have c2 : Try.prog.cellsOf 2 = 1 := by kernel_rfl
  have c31 : Try.prog.cellsOf 31 = 2 := by kernel_rfl
  have c9 : Try.prog.cellsOf 9 = 1 := by kernel_rfl
  obtain ⟨k0, k1, k2, k3, rfl⟩ := list4 (hl.trans c42)
  obtain ⟨y0, y1, y2, rfl⟩ := list3 (hxl.trans rfl)
  have g0 : DataW.trod enc Try.prog w base spare held n 9 (([k0, k1, k2, k3].drop 0).take (Try.prog.cellsOf 9)) = some y0 := hff 0 _ rfl
  have g1 : DataW.trod enc Try.prog w base spare held n 2 (([k0, k1, k2, k3].drop 1).take (Try.prog.cellsOf 2)) = some y1 := hff 1 _ rfl
  have g2 : DataW.trod enc Try.prog w base spare held n 31 (([k0, k1, k2, k3].drop 2).take (Try.prog.cellsOf 31)) = some y2 := hff 2 _ rfl
  rw [c9] at g0
  rw [c2] at g1
  rw [c31] at g2
  simp only [List.drop, List.take] at g0 g1 g2
  clear hff
  obtain ⟨s, e0, rfl, ws⟩ := DataW.trod_string Try.underlying9 g0
  obtain ⟨z1, e1, rfl, w1⟩ := DataW.trod_int Try.underlying2 g1
  obtain ⟨xs1, n1, _, rfl, _, hxl1, hf1⟩ := DataW.trod_struct Try.underlying31 g2
  obtain ⟨u0, u1, rfl⟩ := list2 (hxl1.trans rfl)
  have m0 : DataW.trod enc Try.prog w base spare held n1 3 (([k2, k3].drop 0).take (Try.prog.cellsOf 3)) = some u0 := hf1 0 _ rfl
  have m1 : DataW.trod enc Try.prog w base spare held n1 2 (([k2, k3].drop 1).take (Try.prog.cellsOf 2)) = some u1 := hf1 1 _ rfl
  rw [c3] at m0
  rw [c2] at m1
  simp only [List.drop, List.take] at m0 m1
  clear hf1
  obtain ⟨d0, f0, rfl, _⟩ := DataW.trod_int Try.underlying3 m0
  obtain ⟨d1, f1, rfl, _⟩ := DataW.trod_int Try.underlying2 m1
  simp only [List.cons.injEq, and_true] at e0 e1 f0 f1
  subst e0 e1 f0 f1
  refine ⟨⟨s, z1, d0, d1⟩, rfl, ws, ?_⟩
  rw [hx]
  rfl
/-- Acts as they came in. -/
def ArgL (w : World) (p : Option Addr) (l : List C.La) : Prop := 0 < l.length → ∃ b o, p = some ⟨b, o, none⟩ ∧ ∀ i a, l[i]? = some a → ∀ j u, a.cells[j]? = some u → w.cell? ⟨b, o + i * 4 + j, none⟩ = some u
theorem ArgL.below {w w' : World} {p : Option Addr} {l : List C.La} (h : ArgL w p l) (hb : Below w.heap.size w w') : ArgL w' p l := fun hl => by
  obtain ⟨b, o, hp, hc⟩ := h hl
  exact ⟨b, o, hp, fun i a ha j u hu => (hb.cell (p := ⟨b, o + i * 4 + j, none⟩) (World.block_lt_of_cell? _ _ (hc i a ha j u hu))).trans (hc i a ha j u hu)⟩
theorem choose_listL {α : Type} {P : Nat → α → Prop} : ∀ n, (∀ i, i < n → ∃ x, P i x) → ∃ l : List α, l.length = n ∧ ∀ i x, l[i]? = some x → P i x
  | 0, _ => ⟨[], rfl, fun i x h => by cases h⟩
  | n + 1, h => by
    obtain ⟨l, hl, hp⟩ := choose_listL n (fun i hi => h i (by omega))
    obtain ⟨x, hx⟩ := h n (by omega)
    refine ⟨l ++ [x], by simp [hl], fun i y hy => ?_⟩
    by_cases hi : i < n
    · rw [List.getElem?_append_left (by omega)] at hy
      exact hp i y hy
    · rw [List.getElem?_append_right (by omega)] at hy
      have : i - l.length = 0 := by
        by_cases h0 : i - l.length = 0
        · exact h0
        · rw [List.getElem?_eq_none (by simp; omega)] at hy; cases hy
      rw [this] at hy
      simp at hy
      subst hy
      have : i = n := by omega
      subst this; exact hx
theorem openedActs {H : Type} {enc : TypeId × Value → H} {W : World} {a0 : Option Addr} {len cap : Nat} {d0 : DataW H} {p : List MemPlace}
    (h0 : DataW.Trod enc Try.prog W 0 (fun _ => true) true 40 (.slice a0 len cap) d0 p) :
    ∃ xs : List C.La, xs.length = len ∧ len ≤ cap ∧ cap ≤ maxLen ∧ ArgL W a0 xs ∧ ∀ x ∈ xs, x.x.size ≤ maxLen := by
  obtain ⟨fuel, hf⟩ := h0
  rcases Go.Deep.open_slice Try.underlying40 hf with ⟨hcs, hx⟩ | ⟨a, len', cap', mm, n, D, Pl, hcs, _, hl, hmx, hmm, hx, hr⟩
  · simp [Value.cells] at hcs
    obtain ⟨rfl, rfl, rfl⟩ := hcs
    exact ⟨[], rfl, Nat.le_refl _, Nat.zero_le _, fun h => absurd h (Nat.lt_irrefl 0), fun x hx => by cases hx⟩
  · simp [Value.cells] at hcs
    obtain ⟨rfl, rfl, rfl⟩ := hcs
    simp only [if_true] at hmm
    subst hmm
    have c42 : Try.prog.cellsOf 45 = 4 := by kernel_rfl
    have each : ∀ i, i < len → ∃ q : C.La, q.x.size ≤ maxLen ∧ ∀ j u, q.cells[j]? = some u → W.cell? (a.add (i * 4 + j)) = some u := by
      intro i hi
      obtain ⟨cs', h1, h2⟩ := hr i (by omega)
      rw [c42] at h1
      obtain ⟨_, hlen, hcell⟩ := World.cells?_some h1
      obtain ⟨q, rfl, hs, _⟩ := act_cells h2
      refine ⟨q, hs, fun j u hj => ?_⟩
      have := hcell j (by have := (List.getElem?_eq_some_iff.1 hj).1; simpa [C.La.cells] using this)
      rw [Go.Deep.add_add] at this
      rw [this, hj]
    obtain ⟨xs, hxl, hp⟩ := choose_listL len each
    refine ⟨xs, hxl, hl, hmx, fun hlen => ?_, fun x hx => ?_⟩
    · obtain ⟨b, o, s⟩ := a
      obtain ⟨x0, hx0⟩ : ∃ x0, xs[0]? = some x0 := ⟨_, List.getElem?_eq_getElem hlen⟩
      have h00 := (hp 0 x0 hx0).2 0 _ rfl
      obtain rfl : s = none := by simpa [Addr.add] using World.cell?_spot h00
      refine ⟨b, o, rfl, fun i x hx j u hu => ?_⟩
      have := (hp i x hx).2 j u hu
      rw [add_plain] at this
      rw [Nat.add_assoc]
      exact this
    · obtain ⟨i, hi⟩ := List.getElem?_of_mem hx
      exact (hp i x hi).1
theorem array4 {xs : Array Value} (h : xs.size = 4) : ∃ a b c d, xs = #[a, b, c, d] := by
  obtain ⟨q⟩ := xs
  obtain ⟨a, b, c, d, rfl⟩ := list4 (q := q) h
  exact ⟨a, b, c, d, rfl⟩
theorem okWide_at {P : Program} {W : World} {r : Reach} {b0 : Nat} {t : TypeId} {fs : Array Field} {n : Nat} {v : Value} (ht : P.underlying t = some (.struct fs)) (hc : P.cellsOf t = n) (hv : Value.okWide P W r b0 t v) : ∃ cs, v = .agg cs ∧ cs.size = n := by
  obtain ⟨cs, h1, h2⟩ := okWide_struct ht hv
  exact ⟨cs, h1, h2.trans hc⟩
set_option maxRecDepth 100000 in
/-- An act that is handed itself. -/
theorem openedAct {H : Type} {enc : TypeId × Value → H} {W w : World} {base : Nat} {spare : Nat → Bool} {held : Bool} {r : Reach} {b0 : Nat} {v : Value} {d : DataW H} {p : List MemPlace}
    (hv : Value.okWide Try.prog W r b0 45 v) (h : DataW.Trod enc Try.prog w base spare held 45 v d p) : ∃ a : C.La, v = .agg a.cells.toArray ∧ p = [] ∧ a.x.size ≤ maxLen := by
  obtain ⟨cs, rfl, hsz⟩ := okWide_at Try.underlying45 (n := 4) (by kernel_rfl) hv
  obtain ⟨a, b, c, d, rfl⟩ := array4 hsz
  obtain ⟨fuel, hf⟩ := h
  obtain ⟨q, hq, hs, hp⟩ := act_cells hf
  refine ⟨q, ?_, hp, hs⟩
  rw [← hq]
  rfl
/-- An act as it lies at place o of block b. -/
def AtL (a : C.La) (b o : Nat) (W : World) : Prop := ∀ j u, a.cells[j]? = some u → W.cell? ⟨b, o + j, none⟩ = some u
theorem AtL.below {a : C.La} {b o : Nat} {w w' : World} (h : AtL a b o w) (hb : Below w.heap.size w w') : AtL a b o w' := fun j u hu => (hb.cell (p := ⟨b, o + j, none⟩) (World.block_lt_of_cell? _ _ (h j u hu))).trans (h j u hu)
theorem AtL.boxed {a : C.La} {b : Nat} {w : World} {t : TypeId} (h : w.heap[b]? = some (.cells a.cells.toArray t)) : AtL a b 0 w := fun j u hu => by
  rw [Nat.zero_add]
  simp [World.cell?, h, hu]
theorem AtL.cells {x : ByteArray} {t r n : Int} {b o : Nat} {W : World} (h : AtL ⟨x, t, r, n⟩ b o W) :
    W.cell? ⟨b, o, none⟩ = some (.string x) ∧ W.cell? ⟨b, o + 1, none⟩ = some (.int .i64 t) ∧ W.cell? ⟨b, o + 2, none⟩ = some (.int .i64 r) ∧ W.cell? ⟨b, o + 3, none⟩ = some (.int .i64 n) :=
  ⟨h 0 _ rfl, h 1 _ rfl, h 2 _ rfl, h 3 _ rfl⟩
theorem ArgL.at {w : World} {p : Option Addr} {l : List C.La} (h : ArgL w p l) {k : Nat} {a : C.La} (ha : l[k]? = some a) : ∃ b o, p = some ⟨b, o, none⟩ ∧ AtL a b (o + k * 4) w := by
  obtain ⟨b, o, hp, hc⟩ := h (by have := (List.getElem?_eq_some_iff.1 ha).1; omega)
  exact ⟨b, o, hp, fun j u hu => hc k a ha j u hu⟩
/-- A world of which something holds. -/
structure HeldL (R : World → Prop) where
  v : World
  h : R v
theorem AtL.drew {a : C.La} {b o : Nat} {w : World} (h : AtL a b o w) : AtL a b o w.drew := fun j u hu => h j u hu
/-- An act's cells in all worlds of the class. -/
theorem AtL.all {x : ByteArray} {t r n : Int} {b o : Nat} :
    (∀ T : HeldL (AtL ⟨x, t, r, n⟩ b o), T.v.cell? ⟨b, o, none⟩ = some (.string x)) ∧ (∀ T : HeldL (AtL ⟨x, t, r, n⟩ b o), T.v.cell? ⟨b, o + 1, none⟩ = some (.int .i64 t)) ∧ (∀ T : HeldL (AtL ⟨x, t, r, n⟩ b o), T.v.cell? ⟨b, o + 2, none⟩ = some (.int .i64 r)) ∧ (∀ T : HeldL (AtL ⟨x, t, r, n⟩ b o), T.v.cell? ⟨b, o + 3, none⟩ = some (.int .i64 n)) :=
  ⟨fun T => T.h.cells.1, fun T => T.h.cells.2.1, fun T => T.h.cells.2.2.1, fun T => T.h.cells.2.2.2⟩
end Go.Proofs.Ytebfhomopdnkkaa
