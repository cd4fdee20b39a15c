/-
  rostrumlaw6's acts, opened; light.
-/
import Derived.Test.YtnhplbdbgiimkaaGreatDoorZ32
import Derived.Test.YtnhplbdbgiimkaaGreatDoorBStructs
import Derived.Test.YtnhplbdbgiimkaaGreatDoorZ31
namespace Go.Proofs.YtnhplbdbgiimkaaGreatDoor
open Go.ChangeShapes Go.WideShapes Go.ChangeAt Go.RowKit Go.Lib
set_option linter.unusedVariables false

theorem opened_cell {H : Type} {enc : TypeId × Value → H} {P : Program} {t e : TypeId} (ht : P.underlying t = some (.slice e)) (he : P.underlying e = some (.int .u8)) (hc : P.cellsOf e = 1) {W : World} {v : Value} {fuel : Nat} {y : DataW H × List MemPlace}
    (hf : DataW.trod enc P W 0 (fun _ => true) true fuel t [v] = some y) : ∃ a l cap, v = .slice a (l : List UInt8).length cap ∧ l.length ≤ cap ∧ cap ≤ maxLen ∧ BAt W a l := by
  rcases open_ints ht he hc hf with ⟨hcs, hx⟩ | ⟨a, len', cap', zs, hcs, _, hl, hm, hz, hx, hcell, hwz⟩
  · simp only [List.cons.injEq, and_true] at hcs
    exact ⟨none, [], 0, hcs, Nat.le_refl _, Nat.zero_le _, BAt.nil _ _⟩
  · simp only [List.cons.injEq, and_true] at hcs
    subst hcs
    have h0 : DataW.Trod enc P W 0 (fun _ => true) true t (.slice (some a) len' cap') y.1 y.2 := ⟨fuel, by simpa [Value.cells] using hf⟩
    obtain ⟨l, rfl, h1, h2, h3⟩ := opened ht he hc h0
    exact ⟨some a, l, cap', rfl, h1, h2, h3⟩
theorem opened_rows {H : Type} {enc : TypeId × Value → H} {P : Program} {t e q : TypeId} (ht : P.underlying t = some (.slice e)) (he : P.underlying e = some (.slice q)) (hq : P.underlying q = some (.int .u8)) (ce : P.cellsOf e = 1) (cq : P.cellsOf q = 1) {W : World} {v : Value} {fuel : Nat} {y : DataW H × List MemPlace}
    (hf : DataW.trod enc P W 0 (fun _ => true) true fuel t [v] = some y) : ∃ a ps cap, v = .slice a (ps : List Part).length cap ∧ ps.length ≤ cap ∧ cap ≤ maxLen ∧ PAt W a ps ∧ ∀ x ∈ ps, x.ok W := by
  rcases Go.Deep.open_int_rows ht he hq ce cq hf with ⟨hcs, hx⟩ | ⟨a, len', cap', A, L, Cc, Z, hcs, _, hl, hm, hx, hr⟩
  · simp only [List.cons.injEq, and_true] at hcs
    exact ⟨none, [], 0, hcs, Nat.le_refl _, Nat.zero_le _, fun h => absurd h (Nat.lt_irrefl 0), fun x hx => by cases hx⟩
  · simp only [List.cons.injEq, and_true] at hcs
    subst hcs
    have h0 : DataW.Trod enc P W 0 (fun _ => true) true t (.slice (some a) len' cap') y.1 y.2 := ⟨fuel, by simpa [Value.cells] using hf⟩
    obtain ⟨ps, rfl, h1, h2, h3, h4⟩ := openedRows ht he hq ce cq h0
    exact ⟨some a, ps, cap', rfl, h1, h2, h3, h4⟩
/-- An act: Op, N, M, B, L. -/
structure ActW where
  op : Int
  n : Int
  m : Int
  b : Part
  lp : Option Addr
  ls : List Part
  lc : Nat
def ActW.cell (x : ActW) : Nat → Value
  | 0 => .int .i64 x.op
  | 1 => .int .i64 x.n
  | 2 => .int .i64 x.m
  | 3 => x.b.v
  | _ => .slice x.lp x.ls.length x.lc
structure ActW.ok (w : World) (x : ActW) : Prop where
  op : (Lit.int .i64 x.op).wf = true
  n : (Lit.int .i64 x.n).wf = true
  m : (Lit.int .i64 x.m).wf = true
  b : x.b.ok w
  row : PAt w x.lp x.ls
  parts : ∀ y ∈ x.ls, y.ok w
  lc : x.ls.length ≤ x.lc
  lm : x.lc ≤ maxLen
def AAt (w : World) (p : Option Addr) (xs : List ActW) : Prop := 0 < xs.length → ∃ b o, p = some ⟨b, o, none⟩ ∧ ∀ i x, xs[i]? = some x → ∀ j, j < 5 → w.cell? ⟨b, o + i * 5 + j, none⟩ = some (x.cell j)
theorem choose_list {α : Type} {P : Nat → α → Prop} : ∀ n, (∀ i, i < n → ∃ x, P i x) → ∃ l : List α, l.length = n ∧ ∀ i x, l[i]? = some x → P i x
  | 0, _ => ⟨[], rfl, fun i x h => by cases h⟩
  | n + 1, h => by
    obtain ⟨l, hl, hp⟩ := choose_list n (fun i hi => h i (by omega))
    obtain ⟨x, hx⟩ := h n (by omega)
    refine ⟨l ++ [x], by simp [hl], fun i y hy => ?_⟩
    by_cases hi : i < n
    · rw [List.getElem?_append_left (by omega)] at hy
      exact hp i y hy
    · rw [List.getElem?_append_right (by omega)] at hy
      have : i - l.length = 0 := by
        by_cases h0 : i - l.length = 0
        · exact h0
        · rw [List.getElem?_eq_none (by simp; omega)] at hy; cases hy
      rw [this] at hy
      simp at hy
      subst hy
      have : i = n := by omega
      subst this; exact hx
theorem openedActs {H : Type} {enc : TypeId × Value → H} {W : World} {a0 : Option Addr} {len cap : Nat} {d0 : DataW H} {p : List MemPlace}
    (h0 : DataW.Trod enc Tryz.prog W 0 (fun _ => true) true 39 (.slice a0 len cap) d0 p) :
    ∃ xs : List ActW, xs.length = len ∧ len ≤ cap ∧ cap ≤ maxLen ∧ AAt W a0 xs ∧ ∀ x ∈ xs, x.ok W := by
  obtain ⟨hlc, hcm, V, hV, hT⟩ := openedStructs 5 (by decide) Tryz.underlying39 Tryz.underlying42 (by kernel_rfl) (fun j f hj => by rcases j with _ | _ | _ | _ | _ | j <;> simp at hj <;> subst hj <;> exact ⟨rfl, by kernel_rfl⟩) rfl h0
  have each : ∀ i, i < len → ∃ x : ActW, x.ok W ∧ ∀ j, j < 5 → V i j = x.cell j := by
    intro i hi
    obtain ⟨_, _, h0⟩ := hT i 0 _ hi rfl
    obtain ⟨z0, e0, _, w0⟩ := DataW.trod_int Tryz.underlying3 h0
    obtain ⟨_, _, h1⟩ := hT i 1 _ hi rfl
    obtain ⟨z1, e1, _, w1⟩ := DataW.trod_int Tryz.underlying3 h1
    obtain ⟨_, _, h2⟩ := hT i 2 _ hi rfl
    obtain ⟨z2, e2, _, w2⟩ := DataW.trod_int Tryz.underlying3 h2
    obtain ⟨_, _, h3⟩ := hT i 3 _ hi rfl
    obtain ⟨a, l, c, e3, k1, k2, k3⟩ := opened_cell Tryz.underlying31 Tryz.underlying5 (by kernel_rfl) h3
    obtain ⟨_, _, h4⟩ := hT i 4 _ hi rfl
    obtain ⟨ra, rs, rc, e4, r1, r2, r3, r4⟩ := opened_rows Tryz.underlying32 Tryz.underlying31 Tryz.underlying5 (by kernel_rfl) (by kernel_rfl) h4
    refine ⟨⟨z0, z1, z2, ⟨a, l, c⟩, ra, rs, rc⟩, ⟨w0, w1, w2, ⟨Nat.le_trans k1 k2, k3⟩, r3, r4, r1, r2⟩, fun j hj => ?_⟩
    rcases j with _ | _ | _ | _ | _ | j
    · have h : V i 0 = .int .i64 z0 := by simpa using e0
      exact h
    · have h : V i 1 = .int .i64 z1 := by simpa using e1
      exact h
    · have h : V i 2 = .int .i64 z2 := by simpa using e2
      exact h
    · exact e3
    · exact e4
    · omega
  obtain ⟨xs, hl, hp⟩ := choose_list len each
  refine ⟨xs, hl, hlc, hcm, fun h => ?_, fun x hx => ?_⟩
  · obtain ⟨b, o, hp0, hc⟩ := hV (by omega)
    refine ⟨b, o, hp0, fun i x hx j hj => ?_⟩
    have hi : i < len := by rw [← hl]; exact (List.getElem?_eq_some_iff.1 hx).1
    rw [hc i j hi hj, (hp i x hx).2 j hj]
  · obtain ⟨i, hi⟩ := List.getElem?_of_mem hx
    exact (hp i x hi).1
/-- Acts as are asked of here. -/
def LightA (x : ActW) : Prop := x.b.l.length ≤ 300 ∧ x.ls.length ≤ 6 ∧ ∀ y ∈ x.ls, y.l.length ≤ 200
set_option maxRecDepth 100000 in
set_option maxHeartbeats 8000000 in
theorem light_any (p : Option Addr) (xs : List ActW) (cap : Nat) (w : World) (hP : AAt w p xs) (hA : ∀ x ∈ xs, x.ok w) (hcap : xs.length ≤ cap) (hcm : cap ≤ maxLen) :
    Calls Tryz.prog 21 #[.slice p xs.length cap] w fun e w' => ((e = .returned (.bool true) ∧ xs.length ≤ 40 ∧ ∀ x ∈ xs, LightA x) ∨ e = .returned (.bool false)) ∧ w' = w := by
  have HP : Hid (AAt w p xs) := hP
  have HA : Hid (∀ x ∈ xs, x.ok w) := hA
  have hcm' : cap ≤ 9223372036854775807 := Nat.le_trans hcm (by decide)
  obtain ⟨m, hm⟩ : ∃ m, m = xs.length := ⟨_, rfl⟩
  have HM : Hid (m = xs.length) := hm
  rw [← hm] at hcap ⊢
  clear hP hA hcm hm
  go_enter Tryz.func21, Tryz.ntmps21
  by_cases g1 : (40 : Int) < (m : Int)
  · go_wp2
    go_ret
    exact ⟨Or.inr rfl, rfl⟩
  go_wp2_with fail
  go_loopw [3] (fun s3 wr => ∃ (k : Nat), s3 = .int .i64 k ∧ k ≤ m ∧ Hid (wr = w) ∧ Hid (∀ x ∈ xs.take k, LightA x)) (fun s3 _ => m - (intOf s3).toNat)
  case atStart => exact ⟨0, rfl, Nat.zero_le _, rfl, fun x hx => by cases hx⟩
  case round =>
    obtain ⟨k, rfl, hkm, hwr, HLE⟩ := hrel
    obtain rfl : wr = w := hwr
    by_cases hlt : k < m
    · obtain ⟨b, o, rfl, hc⟩ := HP.out (by have := HM.out; omega)
      obtain ⟨x, hx⟩ : ∃ x, xs[k]? = some x := ⟨_, List.getElem?_eq_getElem (by have := HM.out; omega)⟩
      have c3 := hc k x hx 3 (by decide)
      have c4 := hc k x hx 4 (by decide)
      have HX : Hid (x.ok wr) := HA.out x (List.mem_of_getElem? hx)
      have HXG := hidOf hx
      have hxl : x.b.l.length ≤ 9223372036854775807 := Nat.le_trans HX.out.b.1 (by decide)
      have hxr : x.ls.length ≤ x.lc := HX.out.lc
      have hxm : x.lc ≤ 9223372036854775807 := Nat.le_trans HX.out.lm (by decide)
      simp only [ActW.cell, Part.v] at c3 c4
      clear hc hx
      have hkz : (k : Int) < (m : Int) := by omega
      by_cases hb1 : (300 : Int) < x.b.l.length
      · go_wp2
        go_ret
        exact ⟨Or.inr rfl, rfl⟩
      by_cases hb2 : (6 : Int) < x.ls.length
      · go_wp2
        go_ret
        exact ⟨Or.inr rfl, rfl⟩
      obtain ⟨r, hr⟩ : ∃ r, r = x.ls.length := ⟨_, rfl⟩
      have HR := hidOf hr
      rw [← hr] at c4 hxr hb2
      clear hr
      have HCC : Hid (wr.cell? ⟨b, o + k * 5 + 4, none⟩ = some (.slice x.lp r x.lc)) := c4
      go_wp2_with fail
      go_loopw [4] (fun s4 wq => ∃ (j : Nat), s4 = .int .i64 j ∧ j ≤ r ∧ Hid (wq = wr) ∧ Hid (∀ y ∈ x.ls.take j, y.l.length ≤ 200)) (fun s4 _ => r - (intOf s4).toNat)
      case atStart => exact ⟨0, rfl, Nat.zero_le _, rfl, fun y hy => by cases hy⟩
      case round =>
        obtain ⟨j, rfl, hjr, hwq, HLY⟩ := hrel
        obtain rfl : _ = _ := hwq
        by_cases hjl : j < r
        · obtain ⟨y, hy⟩ : ∃ y, x.ls[j]? = some y := ⟨_, List.getElem?_eq_getElem (by have := HR.out; omega)⟩
          obtain ⟨b2, o2, hlp, hc2⟩ := HX.out.row (by have := HR.out; omega)
          have cy := hc2 j y hy
          have HYO : Hid (y.ok _) := HX.out.parts y (List.mem_of_getElem? hy)
          have HYG := hidOf hy
          have hyl : y.l.length ≤ 9223372036854775807 := Nat.le_trans HYO.out.1 (by decide)
          simp only [Part.v] at cy
          rw [hlp] at c4
          clear hc2 hy hlp
          have hjz : (j : Int) < (r : Int) := by omega
          by_cases hb3 : (200 : Int) < y.l.length
          · go_wp2
            go_ret
            exact ⟨Or.inr rfl, rfl⟩
          go_wp2
          go_roundw
          case rel => exact ⟨j + 1, by go_num, by omega, (by first | exact trivial | rfl), fun z hz => by
              rw [List.take_add_one, HYG.out] at hz
              rcases List.mem_append.1 hz with hz | hz
              · exact HLY.out z hz
              · obtain rfl : z = y := by simpa using hz
                omega⟩
          case measure => simp [intOf]; omega
        · obtain rfl : j = r := by omega
          go_wp2
          go_roundw
          case rel => exact ⟨k + 1, by go_num, by omega, (by first | exact trivial | rfl), fun z hz => by
              rw [List.take_add_one, HXG.out] at hz
              rcases List.mem_append.1 hz with hz | hz
              · exact HLE.out z hz
              · obtain rfl : z = x := by simpa using hz
                refine ⟨by omega, by have := HR.out; omega, fun y hy => HLY.out y ?_⟩
                rw [List.take_of_length_le (by have := HR.out; omega)]
                exact hy⟩
          case measure => simp [intOf]; omega
    · obtain rfl : k = m := by omega
      go_wp2
      go_ret
      exact ⟨Or.inl ⟨rfl, by have := HM.out; omega, fun x hx => HLE.out x (by rw [List.take_of_length_le (by have := HM.out; omega)]; exact hx)⟩, rfl⟩
end Go.Proofs.YtnhplbdbgiimkaaGreatDoor
