/-
  One cell that holds a slice of bytes, opened; a slice of rostrumlaw5's acts, opened.
-/
import Derived.Test.YtlfcpgncgldieaaBStructs
namespace Go.Proofs.Ytlfcpgncgldieaa
open Go.ChangeShapes Go.WideShapes Go.ChangeAt Go.RowKit Go.Lib
set_option linter.unusedVariables false

theorem opened_cell {H : Type} {enc : TypeId × Value → H} {P : Program} {t e : TypeId} (ht : P.underlying t = some (.slice e)) (he : P.underlying e = some (.int .u8)) (hc : P.cellsOf e = 1) {W : World} {v : Value} {fuel : Nat} {y : DataW H × List MemPlace}
    (hf : DataW.trod enc P W 0 (fun _ => true) true fuel t [v] = some y) : ∃ a l cap, v = .slice a (l : List UInt8).length cap ∧ l.length ≤ cap ∧ cap ≤ maxLen ∧ BAt W a l := by
  rcases open_ints ht he hc hf with ⟨hcs, hx⟩ | ⟨a, len', cap', zs, hcs, _, hl, hm, hz, hx, hcell, hwz⟩
  · simp only [List.cons.injEq, and_true] at hcs
    exact ⟨none, [], 0, hcs, Nat.le_refl _, Nat.zero_le _, BAt.nil _ _⟩
  · simp only [List.cons.injEq, and_true] at hcs
    subst hcs
    have h0 : DataW.Trod enc P W 0 (fun _ => true) true t (.slice (some a) len' cap') y.1 y.2 := ⟨fuel, by simpa [Value.cells] using hf⟩
    obtain ⟨l, rfl, h1, h2, h3⟩ := opened ht he hc h0
    exact ⟨some a, l, cap', rfl, h1, h2, h3⟩
/-- An act: Op, F, N, M, By, B. -/
structure ActL where
  op : Int
  f : Int
  n : Int
  m : Int
  by' : Int
  b : Part
def ActL.cell (x : ActL) : Nat → Value
  | 0 => .int .i64 x.op
  | 1 => .int .i64 x.f
  | 2 => .int .i64 x.n
  | 3 => .int .i64 x.m
  | 4 => .int .u8 x.by'
  | _ => x.b.v
def ActL.ok (w : World) (x : ActL) : Prop := (Lit.int .i64 x.op).wf = true ∧ (Lit.int .i64 x.f).wf = true ∧ (Lit.int .i64 x.n).wf = true ∧ (Lit.int .i64 x.m).wf = true ∧ (Lit.int .u8 x.by').wf = true ∧ x.b.ok w ∧ x.b.l.length ≤ x.b.cap ∧ x.b.cap ≤ maxLen
def AAt (w : World) (p : Option Addr) (xs : List ActL) : Prop := 0 < xs.length → ∃ b o, p = some ⟨b, o, none⟩ ∧ ∀ i x, xs[i]? = some x → ∀ j, j < 6 → w.cell? ⟨b, o + i * 6 + j, none⟩ = some (x.cell j)
theorem choose_list {α : Type} {P : Nat → α → Prop} : ∀ n, (∀ i, i < n → ∃ x, P i x) → ∃ l : List α, l.length = n ∧ ∀ i x, l[i]? = some x → P i x
  | 0, _ => ⟨[], rfl, fun i x h => by cases h⟩
  | n + 1, h => by
    obtain ⟨l, hl, hp⟩ := choose_list n (fun i hi => h i (by omega))
    obtain ⟨x, hx⟩ := h n (by omega)
    refine ⟨l ++ [x], by simp [hl], fun i y hy => ?_⟩
    by_cases hi : i < n
    · rw [List.getElem?_append_left (by omega)] at hy
      exact hp i y hy
    · rw [List.getElem?_append_right (by omega)] at hy
      have : i - l.length = 0 := by
        by_cases h0 : i - l.length = 0
        · exact h0
        · rw [List.getElem?_eq_none (by simp; omega)] at hy; cases hy
      rw [this] at hy
      simp at hy
      subst hy
      have : i = n := by omega
      subst this; exact hx
theorem openedActs {H : Type} {enc : TypeId × Value → H} {W : World} {a0 : Option Addr} {len cap : Nat} {d0 : DataW H} {p : List MemPlace}
    (h0 : DataW.Trod enc Try.prog W 0 (fun _ => true) true 37 (.slice a0 len cap) d0 p) :
    ∃ xs : List ActL, xs.length = len ∧ len ≤ cap ∧ cap ≤ maxLen ∧ AAt W a0 xs ∧ ∀ x ∈ xs, x.ok W := by
  obtain ⟨hlc, hcm, V, hV, hT⟩ := openedStructs 6 (by decide) Try.underlying37 Try.underlying44 (by kernel_rfl) (fun j f hj => by rcases j with _ | _ | _ | _ | _ | _ | j <;> simp at hj <;> subst hj <;> exact ⟨rfl, by kernel_rfl⟩) rfl h0
  have each : ∀ i, i < len → ∃ x : ActL, x.ok W ∧ ∀ j, j < 6 → V i j = x.cell j := by
    intro i hi
    obtain ⟨_, _, h0⟩ := hT i 0 _ hi rfl
    obtain ⟨z0, e0, _, w0⟩ := DataW.trod_int Try.underlying3 h0
    obtain ⟨_, _, h1⟩ := hT i 1 _ hi rfl
    obtain ⟨z1, e1, _, w1⟩ := DataW.trod_int Try.underlying3 h1
    obtain ⟨_, _, h2⟩ := hT i 2 _ hi rfl
    obtain ⟨z2, e2, _, w2⟩ := DataW.trod_int Try.underlying3 h2
    obtain ⟨_, _, h3⟩ := hT i 3 _ hi rfl
    obtain ⟨z3, e3, _, w3⟩ := DataW.trod_int Try.underlying3 h3
    obtain ⟨_, _, h4⟩ := hT i 4 _ hi rfl
    obtain ⟨z4, e4, _, w4⟩ := DataW.trod_int Try.underlying5 h4
    obtain ⟨_, _, h5⟩ := hT i 5 _ hi rfl
    obtain ⟨a, l, c, e5, k1, k2, k3⟩ := opened_cell Try.underlying28 Try.underlying5 (by kernel_rfl) h5
    refine ⟨⟨z0, z1, z2, z3, z4, ⟨a, l, c⟩⟩, ⟨w0, w1, w2, w3, w4, ⟨Nat.le_trans k1 k2, k3⟩, k1, k2⟩, fun j hj => ?_⟩
    rcases j with _ | _ | _ | _ | _ | _ | j
    · have h : V i 0 = .int .i64 z0 := by simpa using e0
      exact h
    · have h : V i 1 = .int .i64 z1 := by simpa using e1
      exact h
    · have h : V i 2 = .int .i64 z2 := by simpa using e2
      exact h
    · have h : V i 3 = .int .i64 z3 := by simpa using e3
      exact h
    · have h : V i 4 = .int .u8 z4 := by simpa using e4
      exact h
    · exact e5
    · omega
  obtain ⟨xs, hl, hp⟩ := choose_list len each
  refine ⟨xs, hl, hlc, hcm, fun h => ?_, fun x hx => ?_⟩
  · obtain ⟨b, o, hp0, hc⟩ := hV (by omega)
    refine ⟨b, o, hp0, fun i x hx j hj => ?_⟩
    have hi : i < len := by rw [← hl]; exact (List.getElem?_eq_some_iff.1 hx).1
    rw [hc i j hi hj, (hp i x hx).2 j hj]
  · obtain ⟨i, hi⟩ := List.getElem?_of_mem hx
    exact (hp i x hi).1
end Go.Proofs.Ytlfcpgncgldieaa
