/-
  Several texts in one: BKit, FTab, BClone.
-/
import Derived.Test.YtnhplbdbgiimkaaGreatDoorRows
import Derived.WalkKit
import Derived.ProofKit
import Derived.OpenShut
import Derived.ShutString
import Derived.LaidMore
import Derived.MakeChecks
import Derived.BigCall
import Derived.WalkSmall
import Derived.Deep.DeepMust
import Derived.Laws.BytesArg
import Derived.Lib.SlBytesConst
import Derived.Laws.BitsAll
import Derived.OwnWalk
import Derived.Deep.OwnRows
import Derived.Deep.RegionHeld3
import Derived.Test.YtnhplbdbgiimkaaGreatDoorZ1
import Derived.Lib.LaidTab
import Derived.Lib.SliceRun
namespace Go.Proofs.YtnhplbdbgiimkaaGreatDoor
open Go.ChangeShapes Go.WideShapes Go.ChangeAt Go.RowKit Go.Lib
set_option linter.unusedVariables false

theorem own : ownKnob Tryz.prog.godebug = none := by kernel_rfl
theorem ret_int {k : IntKind} {a b : Int} (h : a = b) : Ending.returned (.int k a) = .returned (.int k b) := by rw [h]
theorem ret_bool {a b : Bool} (h : a = b) : Ending.returned (.bool a) = .returned (.bool b) := by rw [h]
/-- A row of bytes as it lies: where there is a byte, at an address with its cells; where there is none, whatever the address, nil too. -/
def BAt (w : World) (p : Option Addr) (l : List UInt8) : Prop := 0 < l.length → ∃ b o, p = some ⟨b, o, none⟩ ∧ ∀ i, i < l.length → w.cell? ⟨b, o + i, none⟩ = some (.int .u8 ((l.getD i 0).toNat : Nat))
theorem BAt.nil (w : World) (p : Option Addr) : BAt w p [] := fun h => absurd h (Nat.lt_irrefl 0)
theorem BAt.below {w w' : World} {p : Option Addr} {l : List UInt8} (h : BAt w p l) (hb : Below w.heap.size w w') : BAt w' p l := fun hl => by
  obtain ⟨b, o, hp, hc⟩ := h hl
  refine ⟨b, o, hp, fun i hi => ?_⟩
  have hlt := World.block_lt_of_cell? _ _ (hc i hi)
  rw [hb.cell (p := ⟨b, o + i, none⟩) hlt]; exact hc i hi
theorem byte_of_wf {x : Int} (h : (Lit.int .u8 x).wf = true) : 0 ≤ x ∧ x < 256 := by
  have h1 : IntKind.u8.min = 0 := rfl
  have h2 : IntKind.u8.max = 255 := rfl
  simp only [Lit.wf, Bool.and_eq_true, decide_eq_true_eq] at h
  omega
/-- An argument of type []byte, opened. -/
theorem opened {H : Type} {enc : TypeId × Value → H} {P : Program} {t e : TypeId} (ht : P.underlying t = some (.slice e)) (he : P.underlying e = some (.int .u8)) (hc : P.cellsOf e = 1) {W : World} {a0 : Option Addr} {len cap : Nat} {d0 : DataW H} {p : List MemPlace}
    (h0 : DataW.Trod enc P W 0 (fun _ => true) true t (.slice a0 len cap) d0 p) : ∃ l : List UInt8, l.length = len ∧ len ≤ cap ∧ cap ≤ maxLen ∧ BAt W a0 l := by
  obtain ⟨fuel, hf⟩ := h0
  rcases open_ints ht he hc hf with ⟨hcs, hx⟩ | ⟨a, len', cap', zs, hcs, _, hl, hm, hz, hx, hcell, hwz⟩
  · simp [Value.cells] at hcs
    obtain ⟨rfl, rfl, rfl⟩ := hcs
    exact ⟨[], rfl, Nat.le_refl _, Nat.zero_le _, BAt.nil _ _⟩
  · simp [Value.cells] at hcs
    obtain ⟨rfl, rfl, rfl⟩ := hcs
    simp only [if_true] at hz
    refine ⟨(zs.take len).map fun z => UInt8.ofNat z.toNat, by simp; omega, hl, hm, fun hn => ?_⟩
    have hlen : ((zs.take len).map fun z => UInt8.ofNat z.toNat).length = len := by simp; omega
    rw [hlen] at hn
    obtain ⟨b, o, s⟩ := a
    obtain rfl : s = none := by simpa [Addr.add] using World.cell?_spot (hcell 0 (by omega))
    refine ⟨b, o, rfl, fun i hi => ?_⟩
    rw [hlen] at hi
    have h1 := hcell i (by omega)
    rw [add_plain] at h1
    rw [h1]
    have hzi : zs[i]? = some (zs.getD i 0) := by simp [List.getD, show i < zs.length by omega]
    have hmem : zs.getD i 0 ∈ zs := List.mem_of_getElem? hzi
    have hb := byte_of_wf (hwz _ hmem)
    have e1 : ((zs.take len).map fun z => UInt8.ofNat z.toNat).getD i 0 = UInt8.ofNat (zs.getD i 0).toNat := by
      simp [List.getD, hi, show i < zs.length by omega]
    rw [e1, UInt8.toNat_ofNat']
    congr 2
    omega
/-- A part: where it lies, its bytes, its capacity. -/
structure Part where
  p : Option Addr
  l : List UInt8
  cap : Nat
def Part.v (x : Part) : Value := .slice x.p x.l.length x.cap
def Part.ok (w : World) (x : Part) : Prop := x.l.length ≤ maxLen ∧ BAt w x.p x.l
/-- A row of parts as it lies. -/
def PAt (w : World) (p : Option Addr) (ps : List Part) : Prop := 0 < ps.length → ∃ b o, p = some ⟨b, o, none⟩ ∧ ∀ i x, ps[i]? = some x → w.cell? ⟨b, o + i, none⟩ = some x.v
def joined (ps : List Part) : List UInt8 := (ps.map Part.l).flatten
theorem bt {A B C : World} (h : Below A.heap.size A B) (k : Below B.heap.size B C) : Below A.heap.size A C := h.trans (k.mono h.size)
/-- Parts in a new block. -/
theorem pat_new (w : World) (ps : List Part) (t : TypeId) (m : Nat × Nat) : PAt (w.alloc (.cells (ps.map Part.v).toArray t m)) (some ⟨w.heap.size, 0, none⟩) ps := fun hl => by
  refine ⟨_, 0, rfl, fun i x hx => ?_⟩
  rw [World.cell?_alloc_mark]
  simp [hx]
theorem bat_new (w : World) (l : List UInt8) (t : TypeId) (m : Nat × Nat) : BAt (w.alloc (.cells (l.map fun b => Value.int .u8 (b.toNat : Nat)).toArray t m)) (some ⟨w.heap.size, 0, none⟩) l := fun hl => by
  refine ⟨_, 0, rfl, fun i hi => ?_⟩
  rw [World.cell?_alloc_mark]
  simp [hi]
theorem below_new (w : World) (o : Obj) : Below w.heap.size w (w.alloc o) := (Below.refl _ _).alloc (Nat.le_refl _) _

theorem Part.ok.below {w w' : World} {x : Part} (h : x.ok w) (hb : Below w.heap.size w w') : x.ok w' := ⟨h.1, h.2.below hb⟩
theorem ok_one {w : World} {x : Part} (h : x.ok w) : ∀ y ∈ [x], y.ok w := fun y hy => by
  simp only [List.mem_singleton] at hy; subst hy; exact h
theorem ok_cons {w : World} {x : Part} {ps : List Part} (h : x.ok w) (hp : ∀ y ∈ ps, y.ok w) : ∀ y ∈ x :: ps, y.ok w := fun y hy => by
  rcases List.mem_cons.1 hy with rfl | hy
  · exact h
  · exact hp y hy
theorem ok_nil (w : World) (p : Option Addr) (c : Nat) : (Part.mk p [] c).ok w := ⟨Nat.zero_le _, BAt.nil _ _⟩
theorem info_u8 : (Tryz.prog.info? 5).map (fun i => (i.zero, i.size, i.bytes)) = some (some (.int .u8 0), 1, 1) := by kernel_rfl
def byteV (b : UInt8) : Value := .int .u8 (b.toNat : Nat)
def bytesV (l : List UInt8) : List Value := l.map byteV
theorem bytesV_length (l : List UInt8) : (bytesV l).length = l.length := by simp [bytesV]
theorem bytesV_append (a b : List UInt8) : bytesV a ++ bytesV b = bytesV (a ++ b) := by simp [bytesV]
/-- A row of bytes of the call's own. -/
def Own (w : World) (base : Nat) (v : Value) (l : List UInt8) : Prop := w.ownsRow base 5 1 v l.length (bytesV l)
theorem Own.empty (w : World) (base : Nat) (hb : base ≤ w.heap.size) : Own (w.alloc (.cells #[] 5)) base (.slice (some ⟨w.heap.size, 0, none⟩) 0 0) [] :=
  World.ownsRow_lit w #[] 0 hb (Nat.zero_le _) rfl
theorem Own.part {w : World} {base : Nat} {v : Value} {l : List UInt8} (h : Own w base v l) : ∃ p cap, v = .slice p l.length cap ∧ Part.ok w ⟨p, l, cap⟩ := by
  obtain ⟨h1, h2⟩ := h
  rcases h2 with ⟨rfl, h0⟩ | ⟨g, cap, cur, rfl, hb, hg, hn, hm, hs, ht⟩
  · have : l = [] := List.eq_nil_of_length_eq_zero h0
    subst this
    exact ⟨none, 0, rfl, ok_nil _ _ _⟩
  · refine ⟨some ⟨g, 0, none⟩, cap, rfl, Nat.le_trans hn hm, fun hl => ⟨g, 0, rfl, fun i hi => ?_⟩⟩
    rw [cell_of_row w g (0 + i) cur 5 (0, 0) hg]
    have hh := congrArg (fun q => q[i]?) ht
    simp only [List.getElem?_take, Nat.mul_one, Nat.zero_add] at hh ⊢
    rw [if_pos hi] at hh
    rw [← Array.getElem?_toList, hh]
    simp [bytesV, byteV, List.getD, hi]
theorem Own.keep {w w' : World} {base : Nat} {v : Value} {l : List UInt8} (h : Own w base v l) (hk : ∀ k, k < w.heap.size → w'.heap[k]? = w.heap[k]?) : Own w' base v l := by
  obtain ⟨h1, h2⟩ := h
  refine ⟨h1, ?_⟩
  rcases h2 with h2 | ⟨g, cap, cur, a, b, c, d⟩
  · exact Or.inl h2
  · exact Or.inr ⟨g, cap, cur, a, b, by rw [hk g (Array.getElem?_eq_some_iff.1 c).1]; exact c, d⟩
theorem Own.below {w w' : World} {base : Nat} {v : Value} {l : List UInt8} (h : Own w base v l) (hb : Below w.heap.size w w') : Own w' base v l := h.keep hb.block
theorem Own.ge {w : World} {base : Nat} {v : Value} {l : List UInt8} (h : Own w base v l) : ∀ k, v.ownBlock = some k → base ≤ k := fun k hk => (World.ownsRow.lt h k hk).1
theorem Own.grown {w w' w0 : World} {base : Nat} {v : Value} {l : List UInt8} (h : Own w base v l) (hb : Below base w0 w) (hB : base ≤ w.heap.size) (hg : w.grownBy w' v.ownBlock) : Below base w0 w' := hb.grown hg hB h.ge
/-- Nothing, whatever its capacity, appended. -/
theorem run_append_none {w : World} {base : Nat} {v : Value} {l : List UInt8} (hown : Own w base v l) (ty : TypeId) (c : Nat) :
    (Builtin.append_ #[31, 31] ty #[v, .slice none 0 c]).run Tryz.prog w = .ok v w := by
  obtain ⟨i, hi, hz, hs, hb⟩ := info_parts info_u8
  rcases hown.2 with ⟨rfl, h0⟩ | ⟨g, cap, cur, rfl, _, _, hnc, _⟩
  · simp [Builtin.append_, run_underlying Tryz.underlying31, sizeOf, typeInfo, hi, Builtin.lenOf, Builtin.firstCells]
  · simp [Builtin.append_, run_underlying Tryz.underlying31, sizeOf, typeInfo, hi, Builtin.lenOf, Builtin.firstCells, hnc, storeCells]
theorem one_bytes (l : List UInt8) : ∀ u ∈ bytesV l, u.oneCell' = true := by
  intro u hu
  obtain ⟨b, _, rfl⟩ := List.mem_map.1 hu
  rfl
/-- A part appended to a row of the call's own. -/
theorem run_append_part {w : World} {base : Nat} {v : Value} {l : List UInt8} (hown : Own w base v l) (ty : TypeId) (x : Part) (hx : x.ok w) (hn : l.length + x.l.length ≤ 100000000) (hB : base ≤ w.heap.size) :
    ∃ v' w', (Builtin.append_ #[31, 31] ty #[v, x.v]).run Tryz.prog w = .ok v' w' ∧ Own w' base v' (l ++ x.l) ∧ w.grownBy w' v.ownBlock := by
  obtain ⟨i, hi, hz, hs, hb⟩ := info_parts info_u8
  obtain ⟨p, m, c⟩ := x
  simp only [Part.v] at *
  cases p with
  | none =>
    have : m = [] := by
      rcases Nat.eq_zero_or_pos m.length with h | h
      · exact List.eq_nil_of_length_eq_zero h
      · obtain ⟨_, _, h', _⟩ := hx.2 h; cases h'
    subst this
    exact ⟨v, w, run_append_none hown ty c, by simpa using hown, ⟨rfl, rfl, rfl, Nat.le_refl _, fun _ _ _ => rfl⟩⟩
  | some ad =>
    have hc : ∀ j u, (bytesV m)[j]? = some u → w.cell? (ad.add j) = some u := by
      intro j u hj
      have hjl : j < m.length := by have := (List.getElem?_eq_some_iff.1 hj).1; simpa [bytesV_length] using this
      obtain ⟨b, o, h1, h2⟩ := hx.2 (show 0 < m.length by omega)
      cases h1
      rw [WideShapes.add_plain, h2 j hjl]
      simp only [bytesV, List.getElem?_map, List.getElem?_eq_getElem hjl, Option.map_some, Option.some.injEq] at hj
      simp [← hj, byteV, List.getD, hjl]
    obtain ⟨v', w', hr, ho, hg, _⟩ := run_append_own (P := Tryz.prog) w base 31 ty 5 i (.int .u8 0) 1 1 Tryz.underlying31 hi hz hs hb rfl (by decide) v l.length (bytesV l) hown ad m.length c (bytesV m) (by simp [bytesV_length]) hc (one_bytes m) (Nat.le_trans hn (by decide)) (by omega) hB
    refine ⟨v', w', hr, ?_, hg⟩
    unfold Own
    rw [List.length_append, ← bytesV_append]
    exact ho
theorem wpList_append_part {w : World} {ops : Array Oper} {rest : List Oper} {o : Oper} {a : Act} {Q : Exit → Act → World → Prop} (hw : Region.wanted o (yielded ops a.tmps) = true) (s x : Operand)
    (ho : o.op = .call { callee := .builtin .append, args := #[s, x], argTypes := #[31, 31] })
    (base : Nat) (v : Value) (l : List UInt8) (hs : a.eval s = v) (hown : Own w base v l) (y : Part) (hx : a.eval x = y.v) (hy : y.ok w) (hn : l.length + y.l.length ≤ 100000000) (hB : base ≤ w.heap.size)
    (h : ∀ v' w', Own w' base v' (l ++ y.l) → w.grownBy w' v.ownBlock → wpList Tryz.prog ops Q rest (a.put o.dst v') w') : wpList Tryz.prog ops Q (o :: rest) a w := by
  obtain ⟨v', w', hr, h2, h3⟩ := run_append_part hown o.type y hy hn hB
  refine wpList_step fun K hK => ?_
  rw [if_pos hw]
  unfold Oper.wp execOp
  simp only [ho, resolve, invoke, builtin, Sem.run_bind, Sem.run_pure, Result.andThen_ok, List.map_toArray, List.map_cons, List.map_nil, hs, hx, hr]
  exact hK _ _ (h v' w' h2 h3)
theorem Own.made (w : World) (base n : Nat) (hb : base ≤ w.heap.size) (hn : n ≤ maxLen) : Own (w.alloc (.cells (madeCells #[.int .u8 0] n) 5)) base (.slice (some ⟨w.heap.size, 0, none⟩) (List.replicate n (0 : UInt8)).length n) (List.replicate n 0) := by
  unfold Own
  have := World.ownsRow_lit (base := base) (e := 5) (size := 1) w (madeCells #[.int .u8 0] n) n hb hn (by simp [size_madeCells])
  rw [toList_madeCells_one] at this
  simpa [bytesV, byteV] using this
theorem Own.set {w : World} {base g n cap : Nat} {l : List UInt8} (h : Own w base (.slice (some ⟨g, 0, none⟩) n cap) l) (hn : n = l.length) (j : Nat) (b : UInt8) :
    Own (w.setCell ⟨g, j, none⟩ (.int .u8 (b.toNat : Nat))) base (.slice (some ⟨g, 0, none⟩) n cap) (l.set j b) := by
  subst hn
  have := (World.ownsRow.stored h j (byteV b)).1
  unfold Own
  rw [List.length_set, show bytesV (l.set j b) = (bytesV l).set j (byteV b) by simp [bytesV]]
  exact this
theorem Own.cell {w : World} {base g n cap : Nat} {l : List UInt8} (h : Own w base (.slice (some ⟨g, 0, none⟩) n cap) l) (hn : n = l.length) (j : Nat) (hj : j < l.length) :
    w.cell? ⟨g, j, none⟩ = some (.int .u8 ((l.getD j 0).toNat : Nat)) ∧ w.frozen? ⟨g, j, none⟩ = false := by
  subst hn
  refine ⟨?_, World.ownsRow.frozenAt h j⟩
  rw [World.ownsRow.cellAt h j (by simpa using hj)]
  simp [bytesV, byteV, hj]
theorem Own.drew {w : World} {base : Nat} {v : Value} {l : List UInt8} (h : Own w base v l) : Own w.drew base v l := h

theorem Own.shape {w : World} {base : Nat} {v : Value} {l : List UInt8} (h : Own w base v l) (hl : 0 < l.length) : ∃ g cap, v = .slice (some ⟨g, 0, none⟩) l.length cap ∧ base ≤ g := by
  rcases h.2 with ⟨_, h0⟩ | ⟨g, cap, cur, rfl, hb, _⟩
  · omega
  · exact ⟨g, cap, rfl, hb⟩
/-- string(x). -/
theorem conv_str {w : World} {x : Part} (hx : x.ok w) : (convert 31 9 x.v).run Tryz.prog w = .ok (.string ⟨x.l.toArray⟩) w := by
  obtain ⟨p, l, c⟩ := x
  simp only [Part.v]
  rcases Nat.eq_zero_or_pos l.length with h | h
  · obtain rfl : l = [] := List.eq_nil_of_length_eq_zero h
    show (convert 31 9 (.slice p 0 c)).run Tryz.prog w = _
    rw [run_convert_bytes_string w 31 9 5 p 0 c Tryz.underlying31 Tryz.underlying5 Tryz.underlying9]
    cases p <;> simp [Conv.bytesToString, loadCells, loadCellsFrom] <;> rfl
  · obtain ⟨b, o, h1, h2⟩ := hx.2 h
    simp only at h1 h2
    subst h1
    have := run_convert_bytes_arg (P := Tryz.prog) w 31 5 Tryz.underlying31 Tryz.underlying5 b o l.length c (l.map fun z => (z.toNat : Int)) (by simp) (fun i hi => by rw [h2 i hi]; simp [List.getD, hi]) 9 Tryz.underlying9
    rw [this]
    have e : strOfNums (l.map fun z => (z.toNat : Int)) = ⟨l.toArray⟩ := by
      have h3 := strOfNums_data (l.map fun z => (z.toNat : Int))
      have h4 : (l.map fun z => (z.toNat : Int)).map (fun n => UInt8.ofNat n.toNat) = l := by
        rw [List.map_map]; conv => rhs; rw [← List.map_id l]
        apply List.map_congr_left; intro a _; simp
      rw [h4] at h3
      cases hh : strOfNums (l.map fun z => (z.toNat : Int)) with
      | mk d => rw [hh] at h3; simp only at h3; rw [← h3]
    rw [e]
theorem Own.lower {w : World} {base base' : Nat} {v : Value} {l : List UInt8} (h : Own w base v l) (hb : base' ≤ base) : Own w base' v l := by
  obtain ⟨h1, h2⟩ := h
  refine ⟨h1, ?_⟩
  rcases h2 with h2 | ⟨g, cap, cur, a, b, c⟩
  · exact Or.inl h2
  · exact Or.inr ⟨g, cap, cur, a, Nat.le_trans hb b, c⟩
/-- A row of the call's own, its place known, as a part. -/
theorem Own.okAt {w : World} {base n cap : Nat} {p : Option Addr} {l : List UInt8} (h : Own w base (.slice p n cap) l) (hn : n = l.length) : Part.ok w ⟨p, l, cap⟩ := by
  subst hn
  obtain ⟨p', c', hv, hok⟩ := Own.part h
  simp only [Value.slice.injEq] at hv
  obtain ⟨rfl, _, rfl⟩ := hv
  exact hok
theorem Own.nil (w : World) (base : Nat) : Own w base (.slice none 0 0) [] := World.ownsRow_nil _ _ _ _
theorem nil_of_none {w : World} {l : List UInt8} (h : BAt w none l) : l = [] := by
  rcases Nat.eq_zero_or_pos l.length with k | k
  · exact List.eq_nil_of_length_eq_zero k
  · obtain ⟨_, _, h', _⟩ := h k; cases h'
end Go.Proofs.YtnhplbdbgiimkaaGreatDoor

namespace Go.Proofs.YtnhplbdbgiimkaaGreatDoor
open Go.ChangeShapes Go.WideShapes Go.ChangeAt Go.RowKit Go.Lib
set_option linter.unusedVariables false

def tabI : List Int := C.tab.map fun (n : Nat) => (n : Int)
/-- The table lies in memory. -/
def Tabs (w : World) : Prop := Lib.TabIs Tryz.prog w "rostrum/crc.halves" .u32 tabI
theorem glHalves : Tryz.prog.globalNamed "rostrum/crc.halves" = some 0 := by kernel_rfl
theorem Tabs.below {w w' : World} (h : Tabs w) (hb : Below w.heap.size w w') : Tabs w' := by
  unfold Tabs Lib.TabIs World.var? at *
  rw [glHalves] at *
  rcases Nat.lt_or_ge 0 w.heap.size with h0 | h0
  · simpa [hb.block 0 h0] using h
  · simp [Array.getElem?_eq_none h0] at h
theorem Tabs.cell {w : World} (h : Tabs w) (i : Nat) (hi : i < 16) : w.cell? ⟨0, i, none⟩ = some (.int .u32 (C.tabAt i).toNat) := by
  have := Lib.TabIs.cell h glHalves i (by exact hi)
  rw [this]
  congr 2
  have key : ∀ i, i < 16 → tabI.getD i 0 = ((C.tabAt i).toNat : Int) := by decide
  exact key i hi
theorem xor32 (a b : BitVec 32) : bits .xor .u32 (a.toNat : Int) (b.toNat : Int) = ((a ^^^ b).toNat : Nat) := by
  rw [u32_xor_nat _ _ a.isLt b.isLt, BitVec.toNat_xor]
theorem ext_toNat (x : UInt8) : (C.ext x).toNat = x.toNat := by
  unfold C.ext
  have := x.toNat_lt
  rw [BitVec.toNat_ofNat, Nat.mod_eq_of_lt (by omega)]
/-- One byte's two half steps, number by number. -/
theorem add_step (r : BitVec 32) (x : UInt8) : ∃ (y z t y2 z2 t2 : BitVec 32) (n n2 : Nat),
    bits .xor .u32 (r.toNat : Int) (x.toNat : Int) = (y.toNat : Nat) ∧ ((y.toNat : Nat) : Int) / 16 = (z.toNat : Nat) ∧ bits .and .u32 (y.toNat : Int) 15 = (n : Nat) ∧ n < 16 ∧ t = C.tabAt n ∧
    bits .xor .u32 (z.toNat : Int) (t.toNat : Int) = (y2.toNat : Nat) ∧ ((y2.toNat : Nat) : Int) / 16 = (z2.toNat : Nat) ∧ bits .and .u32 (y2.toNat : Int) 15 = (n2 : Nat) ∧ n2 < 16 ∧ t2 = C.tabAt n2 ∧
    bits .xor .u32 (z2.toNat : Int) (t2.toNat : Int) = ((C.updC r x).toNat : Nat) := by
  have hs (y : BitVec 32) : ((y.toNat : Nat) : Int) / 16 = ((y >>> 4).toNat : Nat) := by
    rw [BitVec.toNat_ushiftRight, Nat.shiftRight_eq_div_pow]; omega
  have hn (y : BitVec 32) : bits .and .u32 (y.toNat : Int) 15 = ((y &&& 15#32).toNat : Nat) := by
    have := u32_and_nat y.toNat 15 y.isLt (by decide)
    rw [show ((15 : Nat) : Int) = 15 from rfl] at this
    rw [this, BitVec.toNat_and]; rfl
  have hl (y : BitVec 32) : (y &&& 15#32).toNat < 16 := by
    rw [BitVec.toNat_and]
    exact Nat.and_lt_two_pow (n := 4) _ (by decide)
  refine ⟨r ^^^ C.ext x, _, _, _, _, _, _, _, ?_, hs _, hn _, hl _, rfl, xor32 _ _, hs _, hn _, hl _, rfl, ?_⟩
  · rw [← ext_toNat x, xor32]
  · rw [xor32, C.updC_halves]

set_option maxHeartbeats 1000000 in
theorem add_any (c : BitVec 32) (p : Option Addr) (l : List UInt8) (cap : Nat) (w : World) (hT : Tabs w) (hl : l.length ≤ maxLen) (hA : BAt w p l) :
    Calls Tryz.prog 91 #[.int .u32 c.toNat, .slice p l.length cap] w fun e w' => e = .returned (.int .u32 (C.F c l).toNat) ∧ w' = w := by
  unfold maxLen at hl
  go_enter Tryz.func91, Tryz.ntmps91
  go_wp2
  go_loop [0, 9] (fun s i => ∃ k : Nat, k ≤ l.length ∧ i = .int .i64 k ∧ s = .int .u32 (C.F c (l.take k)).toNat) (fun _ i => l.length - (intOf i).toNat)
  case atStart => exact ⟨0, Nat.zero_le _, rfl, by simp [C.F_nil]⟩
  case round =>
    obtain ⟨k, hk, rfl, rfl⟩ := hrel
    by_cases hlt : k < l.length
    · obtain ⟨b, o, rfl, hc⟩ := hA (by omega)
      have hck := hc k hlt
      generalize hr : C.F c (l.take k) = r
      generalize hx : l.getD k 0 = x at hck
      have hr0 := r.isLt
      have hx0 := x.toNat_lt
      obtain ⟨y, z, t, y2, z2, t2, n, n2, e1, e2, e3, hn, ht, e4, e5, e6, hn2, ht2, e7⟩ := add_step r x
      have hc1 := hT.cell n hn
      have hc2 := hT.cell n2 hn2
      rw [← ht] at hc1
      rw [← ht2] at hc2
      have HX : Hid (C.F c (l.take (k + 1)) = C.updC r x) := by
        show _ = _
        rw [List.take_succ_eq_append_getElem hlt, C.F_snoc, hr, ← hx]; simp [List.getD, hlt]
      generalize C.updC r x = q at e7 HX
      clear hc ht ht2 hr hx
      go_wp2
      go_round
      case rel => exact ⟨k + 1, by omega, by go_num, by rw [HX.out]⟩
      case measure => simp [intOf]; omega
    · go_wp2
      go_ret
      exact ⟨ret_int (by rw [List.take_of_length_le (by omega)]), rfl⟩
theorem ones_toNat : C.ones.toNat = 4294967295 := by decide
theorem xor_ones (a : BitVec 32) : bits .xor .u32 (a.toNat : Int) 4294967295 = ((a ^^^ C.ones).toNat : Nat) := by
  have := xor32 a C.ones
  rw [ones_toNat] at this
  exact this

set_option maxHeartbeats 1000000 in
theorem of_any (p : Option Addr) (ps : List Part) (cap : Nat) (w : World) (hT : Tabs w) (hl : ps.length ≤ maxLen) (hP : PAt w p ps) (hA : ∀ x ∈ ps, x.ok w) :
    Calls Tryz.prog 74 #[.slice p ps.length cap] w fun e w' => e = .returned (.int .u32 (C.crc (joined ps)).toNat) ∧ w' = w := by
  unfold maxLen at hl
  go_enter Tryz.func74, Tryz.ntmps74
  go_wp2
  go_loop [3, 8] (fun s i => ∃ k : Nat, k ≤ ps.length ∧ i = .int .i64 k ∧ s = .int .u32 (C.F C.ones (joined (ps.take k))).toNat) (fun _ i => ps.length - (intOf i).toNat)
  case atStart => exact ⟨0, Nat.zero_le _, rfl, by simp [joined, C.F_nil, ones_toNat]⟩
  case round =>
    obtain ⟨k, hk, rfl, rfl⟩ := hrel
    by_cases hlt : k < ps.length
    · obtain ⟨b, o, rfl, hc⟩ := hP (by omega)
      obtain ⟨x, hx⟩ : ∃ x, ps[k]? = some x := ⟨ps[k], by simp [hlt]⟩
      have hck := hc k x hx
      obtain ⟨xp, xl, xc⟩ := x
      have hxa := hA _ (List.mem_of_getElem? hx)
      obtain ⟨hxl, hxb⟩ := hxa
      simp only [Part.v] at hck
      have HX : Hid (C.F C.ones (joined (ps.take (k + 1))) = C.F (C.F C.ones (joined (ps.take k))) xl) := by
        show _ = _
        have : ps.take (k + 1) = ps.take k ++ [⟨xp, xl, xc⟩] := by
          rw [List.take_add_one, hx]; rfl
        rw [this, ← C.F_append]; simp [joined]
      generalize C.F C.ones (joined (ps.take k)) = r at HX
      have HL : Hid (xl.length ≤ maxLen) := hxl
      simp only at hxl
      clear hc hx hA hP hxl
      go_wp2_with (go_at_call 91; go_must (refine (add_any r xp xl xc _ hT HL.out hxb).mono ?_); rintro e w' ⟨rfl, rfl⟩)
      go_round
      case rel => exact ⟨k + 1, by omega, by go_num, by rw [HX.out]⟩
      case measure => simp [intOf]; omega
    · have hx := xor_ones (C.F C.ones (joined (ps.take k)))
      go_wp2
      go_ret
      exact ⟨ret_int (by rw [List.take_of_length_le (by omega)]; rfl), rfl⟩
theorem of_at (p : Option Addr) (ps : List Part) (cap : Nat) (n : Int) (w : World) (hT : Tabs w) (hl : ps.length ≤ maxLen) (hP : PAt w p ps) (hA : ∀ x ∈ ps, x.ok w) (h : ((C.crc (joined ps)).toNat : Int) = n) :
    Calls Tryz.prog 74 #[.slice p ps.length cap] w fun e w' => e = .returned (.int .u32 n) ∧ w' = w :=
  (of_any p ps cap w hT hl hP hA).mono fun e w' ⟨he, hb⟩ => ⟨by rw [he, h], hb⟩
/-- The sum of parts that have just been laid in a row. -/
theorem of_new (w1 : World) (ps : List Part) (r : Int) (n B cap : Nat) (vs : Array Value) (hB : B = w1.heap.size) (hv : vs = (ps.map Part.v).toArray) (hn : n = ps.length) (hT : Tabs w1) (hl : ps.length ≤ maxLen) (hA : ∀ x ∈ ps, x.ok w1) (hr : ((C.crc (joined ps)).toNat : Int) = r) :
    Calls Tryz.prog 74 #[.slice (some ⟨B, 0, none⟩) n cap] (w1.alloc (.cells vs 31)) fun e w' => e = .returned (.int .u32 r) ∧ w' = w1.alloc (.cells vs 31) := by
  subst hB hv hn
  exact of_at _ ps cap r _ (hT.below (below_new _ _)) hl (pat_new _ _ _ _) (fun x hx => (hA x hx).below (below_new _ _)) hr

theorem of_newB (w1 : World) (ps : List Part) (r : Int) (n B cap : Nat) (vs : Array Value) (hB : B = w1.heap.size) (hv : vs = (ps.map Part.v).toArray) (hn : n = ps.length) (hT : Tabs w1) (hl : ps.length ≤ 9) (hA : ∀ x ∈ ps, x.ok w1) (hr : ((C.crc (joined ps)).toNat : Int) = r) :
    Calls Tryz.prog 74 #[.slice (some ⟨B, 0, none⟩) n cap] (w1.alloc (.cells vs 31)) fun e w' => e = .returned (.int .u32 r) ∧ Below w1.heap.size w1 w' :=
  (of_new w1 ps r n B cap vs hB hv hn hT (Nat.le_trans hl (by decide)) hA hr).mono fun _ _ ⟨he, hw⟩ => ⟨he, by rw [hw]; exact below_new _ _⟩
end Go.Proofs.YtnhplbdbgiimkaaGreatDoor

namespace Go.Proofs.YtnhplbdbgiimkaaGreatDoor
open Go.RowKit Go.Lib
set_option linter.unusedVariables false

set_option maxHeartbeats 1000000 in
theorem clone_any (p : Option Addr) (l : List UInt8) (cap : Nat) (w : World) (hx : (Part.mk p l cap).ok w) (hl : l.length ≤ 100000000) :
    Calls Tryz.prog 37 #[.slice p l.length cap] w fun e w' => (∃ v, e = .returned v ∧ Own w' w.heap.size v l) ∧ Below w.heap.size w w' := by
  have HX : Hid ((Part.mk p l cap).ok w) := hx
  have kn := fun (w : World) (a : Option Addr) (n c n' c' : Nat) => Lib.run_eql_slice_nil (P := Tryz.prog) w 31 5 a n c n' c' Tryz.underlying31
  clear hx
  go_enter Tryz.func37, Tryz.ntmps37
  cases p with
  | none =>
    obtain rfl : l = [] := nil_of_none HX.out.2
    go_wp2
    go_ret
    exact ⟨⟨_, rfl, Own.nil _ _⟩, Below.refl _ _⟩
  | some ad =>
    have ho1 := Own.empty w w.heap.size (Nat.le_refl _)
    go_wp2_with (at_builtin; go_must (refine wpList_append_part rfl _ _ rfl w.heap.size _ [] rfl ho1 ⟨some ad, l, cap⟩ rfl (Part.ok.below HX.out (below_new _ _)) (by simp only [List.length_nil]; omega) (by simp) ?_); intro v2 w2 ho2 hg2; have h2 := ho1.grown (below_new w _) (by simp) hg2)
    go_ret
    exact ⟨⟨_, rfl, ho2⟩, h2⟩
end Go.Proofs.YtnhplbdbgiimkaaGreatDoor
