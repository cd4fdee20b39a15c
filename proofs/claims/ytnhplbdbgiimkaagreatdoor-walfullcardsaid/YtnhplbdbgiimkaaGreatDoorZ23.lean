/-
  Several texts in one: WTakeL, WTakeM, WTakeN.
-/
import Derived.Test.YtnhplbdbgiimkaaGreatDoorZ22
import Derived.Deep.RegionLaw
import Derived.BigRegion
import Derived.Test.YtnhplbdbgiimkaaGreatDoorZ18
namespace Go.Proofs.YtnhplbdbgiimkaaGreatDoor
open Go.RowKit Go.Lib
set_option linter.unusedVariables false

/-- A log that has taken a piece. -/
def LgC.take (c : LgC) (P : C.Pc) (bv rv : Value) (n : Nat) : LgC := { c with age := P.age, base := bv, recs := rv, tf := P.file, tc := n, te := P.fin, tt := P.torn }
theorem LgAt.set {w : World} {g : Nat} {c c' : LgC} (h : LgAt w g c) (i : Nat) (v : Value) (he : c'.cells = c.cells.set i v) : LgAt (w.setCell ⟨g, i, none⟩ v) g c' := by
  have h1 := set_block (o := i) (v := v) h
  unfold LgAt
  rw [h1, he]
  simp
/-- A part of a row of rows, as a source. -/
theorem recs_src {w : World} {p : Option Addr} {n cap : Nat} {ps : List Part} (h : OwnP w 0 (.slice p n cap) ps) (b o : Nat) (hp : p = some ⟨b, 0, none⟩) (k : Nat) (hk : o + k = ps.length) (cap' : Nat) : SrcAt w 1 (.slice (some ⟨b, o, none⟩) k cap') k ((ps.drop o).map Part.v) := by
  subst hp
  refine ⟨_, _, rfl, by simp; omega, (fun e => by cases e), fun a ha j u hj => ?_⟩
  cases ha
  have hjl : j < k := by have := (List.getElem?_eq_some_iff.1 hj).1; simp at this; omega
  have h1 := World.ownsRow.cells h rfl (o + j) u (by
    rw [List.getElem?_map] at hj ⊢
    rw [List.getElem?_drop] at hj
    exact hj)
  rw [WideShapes.add_plain] at h1 ⊢
  simpa using h1
/-- No part at all, whatever its address. -/
theorem none_src (w : World) (p : Option Addr) (cap : Nat) : SrcAt w 1 (.slice p 0 cap) 0 [] := ⟨p, cap, rfl, rfl, fun _ => rfl, fun a _ j u hj => by simp at hj⟩
theorem parts_one (ps : List Part) : ∀ u ∈ ps.map Part.v, u.oneCell' = true := fun u hu => by
  obtain ⟨x, _, rfl⟩ := List.mem_map.1 hu
  rfl
end Go.Proofs.YtnhplbdbgiimkaaGreatDoor

namespace Go.Proofs.YtnhplbdbgiimkaaGreatDoor
open Go.RowKit Go.Lib
set_option linter.unusedVariables false

def C.Pc.rest (P : C.Pc) : List (List UInt8) := if P.first = 0 then P.recs.tail else P.recs
def C.Pc.bas (P : C.Pc) (base : List UInt8) : List UInt8 := if P.first = 0 then P.recs.headD [] else base
/-- What take leaves. -/
def TakeRet (w : World) (g : Nat) (c : LgC) (Sl Sp : Nat → Prop) (base : List UInt8) (recs : List (List UInt8)) (dl : List Nat) (P : C.Pc) (w' : World) : Prop :=
  ∃ bv rv', LMem w' g (c.take P bv rv' P.rest.length) (fun b => Sl b ∨ Sp b ∨ (w.heap.size ≤ b ∧ b < w'.heap.size)) (P.bas base) (recs ++ P.rest) dl ∧ (∀ b, rv'.ownBlock = some b → c.recs.ownBlock = some b ∨ w.heap.size ≤ b) ∧ Turn w w' (fun x => x = g ∨ c.recs.ownBlock = some x)
/-- The last stores. -/
theorem take_end {w w4 : World} {g : Nat} {c : LgC} {Sl Sp : Nat → Prop} {base base' : List UInt8} {recs : List (List UInt8)} {dl : List Nat} {P : C.Pc} {bv rv' : Value} {ps qs : List Part} {n : Nat}
    (h : LMem w g c Sl base recs dl) (hps : ps.map Part.l = recs) (hpo : OwnP w 0 c.recs ps) (hpi : ∀ x ∈ ps, Own w 0 x.v x.l ∧ ∀ b, x.v.ownBlock = some b → Sl b)
    (hq : ∀ x ∈ qs, Own w 0 x.v x.l ∧ ∀ b, x.v.ownBlock = some b → Sp b) (hql : qs.map Part.l = P.rest) (hn : n = P.rest.length)
    (hbv : Own w 0 bv base') (hbs : ∀ b, bv.ownBlock = some b → Sl b ∨ Sp b) (hbe : base' = P.bas base)
    (hd : Turn w w4 (fun x => x = g ∨ c.recs.ownBlock = some x)) (hsl : ∀ b, Sp b → b < w.heap.size)
    (ho4 : w4.ownsRow 0 31 1 rv' (recs.length + P.rest.length) (ps.map Part.v ++ qs.map Part.v)) (hr4 : ∀ b, rv'.ownBlock = some b → c.recs.ownBlock = some b ∨ w.heap.size ≤ b) (ha4 : LgAt w4 g (c.take P bv rv' n)) :
    TakeRet w g c Sl Sp base recs dl P w4 := by
  subst hn hbe
  have u8 : ∀ {v : Value} {l : List UInt8}, Own w 0 v l → Own w4 0 v l := fun {v l} ho => ho.same fun b hb => by
    obtain ⟨cur, hc⟩ := row_type ho hb
    refine hd.block b (row_lt ho hb) ?_
    rintro (rfl | e)
    · exact cells_ne hc h.at_ (by decide) rfl
    · obtain ⟨cur2, hc2⟩ := row_type hpo e
      exact cells_ne hc hc2 (by decide) rfl
  refine ⟨bv, rv', ⟨ha4, Or.inl h.mem, u8 hbv, fun b hb => (hbs b hb).imp id Or.inl, ⟨ps ++ qs, ?_, fun b hb => ?_, fun x hx => ?_, ?_⟩, ?_, fun b hb => Or.inl (h.dirtyS b hb), fun b hb => ?_⟩, hr4, hd⟩
  · unfold OwnP
    rw [List.map_append, List.length_append]
    have e1 : ps.length = recs.length := by rw [← hps, List.length_map]
    have e2 : qs.length = P.rest.length := by rw [← hql, List.length_map]
    rw [e1, e2]
    exact ho4
  · have hlt := row_lt ho4 hb
    rcases hr4 b hb with h1 | h1
    · obtain ⟨_, _, h2, _⟩ := h.recs
      exact Or.inl (h2 b h1)
    · exact Or.inr (Or.inr ⟨h1, hlt⟩)
  · rcases List.mem_append.1 hx with hx | hx
    · exact ⟨u8 (hpi x hx).1, fun b hb => Or.inl ((hpi x hx).2 b hb)⟩
    · exact ⟨u8 (hq x hx).1, fun b hb => Or.inr (Or.inl ((hq x hx).2 b hb))⟩
  · rw [List.map_append, hps, hql]
  · refine row_same h.dirty fun b hb => ?_
    obtain ⟨cur, hc⟩ := row_type h.dirty hb
    refine hd.block b (row_lt h.dirty hb) ?_
    rintro (rfl | e)
    · exact cells_ne hc h.at_ (by decide) rfl
    · exact h.dirty_recs hb e
  · rcases hb with hb | hb | hb
    · exact Nat.lt_of_lt_of_le (h.lt b hb) hd.size
    · exact Nat.lt_of_lt_of_le (hsl b hb) hd.size
    · exact hb.2
end Go.Proofs.YtnhplbdbgiimkaaGreatDoor

namespace Go.Proofs.YtnhplbdbgiimkaaGreatDoor
open Go.RowKit Go.Lib
set_option linter.unusedVariables false

theorem size_setC (w : World) (a : Addr) (v : Value) : (w.setCell a v).heap.size = w.heap.size := by simp [World.setCell]
theorem own_slice {w : World} {e n : Nat} {v : Value} {xs : List Value} (h : w.ownsRow 0 e 1 v n xs) : ∃ p k, v = .slice p n k := by
  rcases h.2 with ⟨rfl, h0⟩ | ⟨b, cap, cur, rfl, _⟩
  · exact ⟨none, 0, by rw [h0]⟩
  · exact ⟨_, _, rfl⟩
theorem box_three {w : World} {b : Nat} {x0 x1 x2 x3 x4 x5 : Value} {t : TypeId} (h : w.heap[b]? = some (.cells #[x0, x1, x2, x3, x4, x5] t)) : w.cell? ⟨b, 0, none⟩ = some x0 ∧ w.cell? ⟨b, 4, none⟩ = some x4 ∧ w.cell? ⟨b, 5, none⟩ = some x5 := ⟨(blk_cell h 0).trans rfl, (blk_cell h 4).trans rfl, (blk_cell h 5).trans rfl⟩
theorem take_stores {w4 : World} {g : Nat} {cc : LgC} (h : LgAt w4 g cc) (v4 : Value) (P : C.Pc) (n : Nat) : LgAt (((((w4.setCell ⟨g, 6, none⟩ v4).setCell ⟨g, 7, none⟩ (.int .i64 (P.file : Nat))).setCell ⟨g, 8, none⟩ (.int .i64 (n : Nat))).setCell ⟨g, 9, none⟩ (.int .i64 (P.fin : Nat))).setCell ⟨g, 10, none⟩ (.bool P.torn)) g { cc with recs := v4, tf := P.file, tc := n, te := P.fin, tt := P.torn } :=
  ((((h.set 6 v4 (c' := { cc with recs := v4 }) rfl).set 7 _ (c' := { cc with recs := v4, tf := P.file }) rfl).set 8 _ (c' := { cc with recs := v4, tf := P.file, tc := n }) rfl).set 9 _ (c' := { cc with recs := v4, tf := P.file, tc := n, te := P.fin }) rfl).set 10 _ rfl
theorem sets5_turn {w w4 : World} {g : Nat} {S : Nat → Prop} (h : Turn w w4 S) (hg : S g) (a b c d e : Nat) (v1 v2 v3 v4 v5 : Value) : Turn w (((((w4.setCell ⟨g, a, none⟩ v1).setCell ⟨g, b, none⟩ v2).setCell ⟨g, c, none⟩ v3).setCell ⟨g, d, none⟩ v4).setCell ⟨g, e, none⟩ v5) S :=
  ((((h.setCell hg v1).setCell hg v2).setCell hg v3).setCell hg v4).setCell hg v5
theorem sets5_other {w4 : World} {g x : Nat} (hx : x ≠ g) (a b c d e : Nat) (v1 v2 v3 v4 v5 : Value) : (((((w4.setCell ⟨g, a, none⟩ v1).setCell ⟨g, b, none⟩ v2).setCell ⟨g, c, none⟩ v3).setCell ⟨g, d, none⟩ v4).setCell ⟨g, e, none⟩ v5).heap[x]? = w4.heap[x]? := by
  rw [set_other hx, set_other hx, set_other hx, set_other hx, set_other hx]
theorem log_cells {w : World} {g : Nat} {c : LgC} (h : LgAt w g c) : w.cell? ⟨g, 6, none⟩ = some c.recs ∧ w.cell? ⟨g, 7, none⟩ = some (.int .i64 (c.tf : Nat)) ∧ w.cell? ⟨g, 8, none⟩ = some (.int .i64 (c.tc : Nat)) ∧ w.cell? ⟨g, 9, none⟩ = some (.int .i64 (c.te : Nat)) ∧ w.cell? ⟨g, 10, none⟩ = some (.bool c.tt) :=
  ⟨(h.cell 6).trans rfl, (h.cell 7).trans rfl, (h.cell 8).trans rfl, (h.cell 9).trans rfl, (h.cell 10).trans rfl⟩

set_option maxRecDepth 100000 in
set_option maxHeartbeats 8000000 in
/-- A piece that begins behind others. -/
theorem take_more (w : World) (g : Nat) (c : LgC) (Sl Sp : Nat → Prop) (base : List UInt8) (recs : List (List UInt8)) (dl : List Nat) (P : C.Pc) (rv : Value) (h : LMem w g c Sl base recs dl) (hp : RecsIn w Sp rv P.recs) (hsl : ∀ b, Sp b → b < w.heap.size) (hn : recs.length + P.recs.length ≤ 100000000) (hne : ∀ b, c.recs.ownBlock = some b → ¬ Sp b) (hf : P.first ≠ 0) :
    Calls Tryz.prog 29 #[.pointer (some ⟨g, 0, none⟩), .agg (encP ⟨P, rv⟩).toArray] w fun e w' => e = .returned (.tuple #[]) ∧ TakeRet w g c Sl Sp base recs dl P w' := by
  obtain ⟨ps, hpo, hps, hpi, hpl⟩ := h.recs
  obtain ⟨lp, lc, hlv, hlc1, hlc2⟩ : ∃ p k, c.recs = .slice p recs.length k ∧ recs.length ≤ k ∧ k ≤ maxLen := h.recs.len
  obtain ⟨qp, qc, hqv, hqc1, hqc2⟩ : ∃ p k, rv = .slice p P.recs.length k ∧ P.recs.length ≤ k ∧ k ≤ maxLen := hp.len
  obtain ⟨qs, hqo, hqs, hqi, hql⟩ := hp
  subst hqv
  obtain ⟨nq, hnq⟩ : ∃ nq, nq = P.recs.length := ⟨_, rfl⟩
  obtain ⟨nl, hnl⟩ : ∃ nl, nl = recs.length := ⟨_, rfl⟩
  rw [← hnq] at hqo hqs hqc1 ⊢
  rw [← hnl] at hlv hlc1
  simp only [encP]
  have HL : Hid (LMem w g c Sl base recs dl) := h
  have HB1 : Hid (Below w.heap.size w (w.alloc (.cells #[.int .i64 (P.file : Nat), .int .i64 (P.age : Nat), .int .i64 (P.first : Nat), .slice qp nq qc, .int .i64 (P.fin : Nat), .bool P.torn] 66))) := below_new _ _
  have HQ1 : Hid ((w.alloc (.cells #[.int .i64 (P.file : Nat), .int .i64 (P.age : Nat), .int .i64 (P.first : Nat), .slice qp nq qc, .int .i64 (P.fin : Nat), .bool P.torn] 66)).heap[w.heap.size]? = some (.cells #[.int .i64 (P.file : Nat), .int .i64 (P.age : Nat), .int .i64 (P.first : Nat), .slice qp nq qc, .int .i64 (P.fin : Nat), .bool P.torn] 66)) := heap_alloc_new _ _
  have HA1 : Hid (LgAt (w.alloc (.cells #[.int .i64 (P.file : Nat), .int .i64 (P.age : Nat), .int .i64 (P.first : Nat), .slice qp nq qc, .int .i64 (P.fin : Nat), .bool P.torn] 66)) g c) := h.at_.below (below_new _ _)
  have HGL : Hid (g < w.heap.size) := (Array.getElem?_eq_some_iff.1 h.at_).1
  have HPO : Hid (OwnP w 0 c.recs ps) := hpo
  have HPI : Hid (∀ x ∈ ps, Own w 0 x.v x.l ∧ ∀ b, x.v.ownBlock = some b → Sl b) := hpi
  have HPL : Hid (ps.map Part.l = recs) := hpl
  have HQI : Hid (∀ x ∈ qs, Own w 0 x.v x.l ∧ ∀ b, x.v.ownBlock = some b → Sp b) := hqi
  have HQL : Hid (qs.map Part.l = P.recs) := hql
  have HSL : Hid (∀ b, Sp b → b < w.heap.size) := hsl
  have HNR : Hid (c.recs.ownBlock ≠ some g) := h.ne_recs
  have HNN : Hid (nl + nq ≤ maxLen ∧ (nl + nq) * 24 ≤ 140737488355328) := by have := hn; rw [← hnl, ← hnq] at this; unfold maxLen; constructor <;> omega
  have HNL : Hid (nl = recs.length) := hnl
  have HNQ : Hid (nq = P.recs.length) := hnq
  have HLV : Hid (c.recs = .slice lp nl lc) := hlv
  have hlen : ps.length = nl := by rw [hnl, ← hpl, List.length_map]
  have hqlen : qs.length = nq := by rw [hnq, ← hql, List.length_map]
  have HQN : Hid (qs.length = nq) := hqlen
  have HRow : Hid (∀ X, (w.alloc (.cells #[.int .i64 (P.file : Nat), .int .i64 (P.age : Nat), .int .i64 (P.first : Nat), .slice qp nq qc, .int .i64 (P.fin : Nat), .bool P.torn] 66)).grownBy X (some g) → X.ownsRow 0 31 1 (.slice lp nl lc) nl (ps.map Part.v) ∧ OwnP X 0 (.slice qp nq qc) qs) := fun X hX => by
    have k1 : OwnP X 0 c.recs ps := hpo.same fun b hb => by
      have hlt := row_lt hpo hb
      rw [hX.block b (Nat.lt_of_lt_of_le hlt HB1.out.size) (fun e => HNR.out (by rw [hb]; exact e)), HB1.out.block b hlt]
    have k2 : OwnP X 0 (.slice qp nq qc) qs := hqo.same fun b hb => by
      have hlt := row_lt hqo hb
      obtain ⟨cur, hc⟩ := row_type hqo hb
      have hbg : b ≠ g := cells_ne hc h.at_ (by decide)
      rw [hX.block b (Nat.lt_of_lt_of_le hlt HB1.out.size) (fun e => hbg (Option.some.inj e)), HB1.out.block b hlt]
    refine ⟨?_, k2⟩
    have := k1
    unfold OwnP at this
    rw [hlv, hlen] at this
    exact this

  clear h hpo hqo hpi hqi hps hqs hsl hne hn hlen hqlen hpl hql hnq hnl hlv hlc1 hlc2 hqc1 hqc2
  have hfb : (((P.first : Nat) : Int) == 0) = false := by simpa using hf
  have hb := blk_cell HQ1.out
  have b0 : (w.alloc (.cells #[.int .i64 (P.file : Nat), .int .i64 (P.age : Nat), .int .i64 (P.first : Nat), .slice qp nq qc, .int .i64 (P.fin : Nat), .bool P.torn] 66)).cell? ⟨w.heap.size, 0, none⟩ = some (.int .i64 (P.file : Nat)) := (hb 0).trans rfl
  have b1 : (w.alloc (.cells #[.int .i64 (P.file : Nat), .int .i64 (P.age : Nat), .int .i64 (P.first : Nat), .slice qp nq qc, .int .i64 (P.fin : Nat), .bool P.torn] 66)).cell? ⟨w.heap.size, 1, none⟩ = some (.int .i64 (P.age : Nat)) := (hb 1).trans rfl
  have b2 : (w.alloc (.cells #[.int .i64 (P.file : Nat), .int .i64 (P.age : Nat), .int .i64 (P.first : Nat), .slice qp nq qc, .int .i64 (P.fin : Nat), .bool P.torn] 66)).cell? ⟨w.heap.size, 2, none⟩ = some (.int .i64 (P.first : Nat)) := (hb 2).trans rfl
  have b3 : (w.alloc (.cells #[.int .i64 (P.file : Nat), .int .i64 (P.age : Nat), .int .i64 (P.first : Nat), .slice qp nq qc, .int .i64 (P.fin : Nat), .bool P.torn] 66)).cell? ⟨w.heap.size, 3, none⟩ = some (.slice qp nq qc) := (hb 3).trans rfl
  have b4 : (w.alloc (.cells #[.int .i64 (P.file : Nat), .int .i64 (P.age : Nat), .int .i64 (P.first : Nat), .slice qp nq qc, .int .i64 (P.fin : Nat), .bool P.torn] 66)).cell? ⟨w.heap.size, 4, none⟩ = some (.int .i64 (P.fin : Nat)) := (hb 4).trans rfl
  have b5 : (w.alloc (.cells #[.int .i64 (P.file : Nat), .int .i64 (P.age : Nat), .int .i64 (P.first : Nat), .slice qp nq qc, .int .i64 (P.fin : Nat), .bool P.torn] 66)).cell? ⟨w.heap.size, 5, none⟩ = some (.bool P.torn) := (hb 5).trans rfl
  have c4 : (w.alloc (.cells #[.int .i64 (P.file : Nat), .int .i64 (P.age : Nat), .int .i64 (P.first : Nat), .slice qp nq qc, .int .i64 (P.fin : Nat), .bool P.torn] 66)).cell? ⟨g, 4, none⟩ = some (.int .i64 (c.age : Nat)) := (HA1.out.cell 4).trans rfl
  have c6 : (w.alloc (.cells #[.int .i64 (P.file : Nat), .int .i64 (P.age : Nat), .int .i64 (P.first : Nat), .slice qp nq qc, .int .i64 (P.fin : Nat), .bool P.torn] 66)).cell? ⟨g, 6, none⟩ = some (.slice lp nl lc) := (HA1.out.cell 6).trans (by rw [← HLV.out]; rfl)
  have f4 : (w.alloc (.cells #[.int .i64 (P.file : Nat), .int .i64 (P.age : Nat), .int .i64 (P.first : Nat), .slice qp nq qc, .int .i64 (P.fin : Nat), .bool P.torn] 66)).frozen? ⟨g, 4, none⟩ = false := HA1.out.fz 4
  have hgne : g ≠ w.heap.size := by have := HGL.out; omega
  clear hb
  have HGR : Hid ((w.alloc (.cells #[.int .i64 (P.file : Nat), .int .i64 (P.age : Nat), .int .i64 (P.first : Nat), .slice qp nq qc, .int .i64 (P.fin : Nat), .bool P.torn] 66)).grownBy ((w.alloc (.cells #[.int .i64 (P.file : Nat), .int .i64 (P.age : Nat), .int .i64 (P.first : Nat), .slice qp nq qc, .int .i64 (P.fin : Nat), .bool P.torn] 66)).setCell ⟨g, 4, none⟩ (.int .i64 (P.age : Nat))) (some g)) := set_grown _ _ _ _
  have HA4 : Hid (LgAt ((w.alloc (.cells #[.int .i64 (P.file : Nat), .int .i64 (P.age : Nat), .int .i64 (P.first : Nat), .slice qp nq qc, .int .i64 (P.fin : Nat), .bool P.torn] 66)).setCell ⟨g, 4, none⟩ (.int .i64 (P.age : Nat))) g { c with age := P.age }) := HA1.out.set 4 _ (by simp [LgC.cells])
  have HAFT : Hid (∀ w4, ((w.alloc (.cells #[.int .i64 (P.file : Nat), .int .i64 (P.age : Nat), .int .i64 (P.first : Nat), .slice qp nq qc, .int .i64 (P.fin : Nat), .bool P.torn] 66)).setCell ⟨g, 4, none⟩ (.int .i64 (P.age : Nat))).grownBy w4 (Value.slice lp nl lc).ownBlock → LgAt w4 g { c with age := P.age } ∧ w4.heap[w.heap.size]? = some (.cells #[.int .i64 (P.file : Nat), .int .i64 (P.age : Nat), .int .i64 (P.first : Nat), .slice qp nq qc, .int .i64 (P.fin : Nat), .bool P.torn] 66) ∧ Turn w w4 (fun x => x = g ∨ c.recs.ownBlock = some x)) := fun w4 hg4 => by
    refine ⟨?_, ?_, ?_⟩
    · show w4.heap[g]? = _
      rw [hg4.block g (by rw [size_setC]; exact Nat.lt_of_lt_of_le HGL.out HB1.out.size) (fun e => HNR.out (by rw [HLV.out]; exact e.symm))]
      exact HA4.out
    · rw [hg4.block _ (by rw [size_setC]; simp) (fun e => by have := row_lt HPO.out (by rw [HLV.out]; exact e.symm); omega), set_other (by omega)]
      exact HQ1.out
    · have h1 : Turn w ((w.alloc (.cells #[.int .i64 (P.file : Nat), .int .i64 (P.age : Nat), .int .i64 (P.first : Nat), .slice qp nq qc, .int .i64 (P.fin : Nat), .bool P.torn] 66)).setCell ⟨g, 4, none⟩ (.int .i64 (P.age : Nat))) (fun x => x = g ∨ c.recs.ownBlock = some x) := Turn.setCell (S := fun x => x = g ∨ c.recs.ownBlock = some x) (Turn.of_below HB1.out) (Or.inl rfl) _
      exact h1.trans (Turn.of_grown (S := fun x => c.recs.ownBlock = some x) hg4 fun b hb => by rw [HLV.out]; exact hb) fun x hx => Or.inl (Or.inr hx)
  go_enter Tryz.func29, Tryz.ntmps29
  go_wp2_with (at_builtin; go_must ((refine wpList_append_src Tryz.underlying32 info_bytes rfl (by decide) rfl _ _ rfl rfl (HRow.out _ HGR.out).1 rfl (by have := row_src (HRow.out _ HGR.out).2; rw [HQN.out] at this; exact this) (parts_one _) HNN.out.1 HNN.out.2 ?_; intro v4 w4 hr4 hg4 hb4; obtain ⟨p4, k4, hv4⟩ := own_slice hr4; subst hv4; have HR4 : Hid _ := hr4; have HT4 : Hid _ := hg4; have HB4 : Hid _ := hb4; clear hr4 hg4 hb4; obtain ⟨ha4, hq4, -⟩ := HAFT.out w4 HT4.out; obtain ⟨d0, d4, d5⟩ := box_three hq4; obtain ⟨e6, e7, e8, e9, e10⟩ := log_cells ha4; have f6 := ha4.fz 6; have f7 := ha4.fz 7; have f8 := ha4.fz 8; have f9 := ha4.fz 9; have f10 := ha4.fz 10; clear ha4 hq4)))
  have HNB : Hid (∀ b, (Value.slice p4 (nl + nq) k4).ownBlock = some b → (c.recs.ownBlock = some b ∨ w.heap.size ≤ b) ∧ b ≠ g) := fun b hb => by
    rcases HB4.out with e | e
    · have e2 : c.recs.ownBlock = some b := by rw [HLV.out]; exact e.symm.trans hb
      exact ⟨Or.inl e2, fun e3 => HNR.out (by rw [e2, e3])⟩
    · have e2 := Option.some.inj (e.symm.trans hb)
      have e3 : w.heap.size ≤ b := by rw [← e2, size_setC]; simp
      exact ⟨Or.inr e3, fun e4 => by have := HGL.out; omega⟩
  obtain ⟨ha4, -, ht4⟩ := HAFT.out w4 HT4.out
  have HFIN : Hid (TakeRet w g c Sl Sp base recs dl P (((((w4.setCell ⟨g, 6, none⟩ (.slice p4 (nl + nq) k4)).setCell ⟨g, 7, none⟩ (.int .i64 (P.file : Nat))).setCell ⟨g, 8, none⟩ (.int .i64 (nq : Nat))).setCell ⟨g, 9, none⟩ (.int .i64 (P.fin : Nat))).setCell ⟨g, 10, none⟩ (.bool P.torn))) :=
    take_end (bv := c.base) (base' := base) (ps := ps) (qs := qs) (n := nq) HL.out HPL.out HPO.out HPI.out HQI.out (by rw [HQL.out]; exact (if_neg hf).symm) (by rw [HNQ.out]; exact congrArg List.length (if_neg hf).symm) HL.out.base (fun b hb => Or.inl (HL.out.baseS b hb)) (if_neg hf).symm (sets5_turn ht4 (Or.inl rfl) _ _ _ _ _ _ _ _ _ _) HSL.out
      (by
        have h1 : w4.ownsRow 0 31 1 (.slice p4 (nl + nq) k4) (nl + nq) (ps.map Part.v ++ qs.map Part.v) := HR4.out
        have h2 := row_same h1 fun b hb => sets5_other (HNB.out b hb).2 6 7 8 9 10 (.slice p4 (nl + nq) k4) (.int .i64 (P.file : Nat)) (.int .i64 (nq : Nat)) (.int .i64 (P.fin : Nat)) (.bool P.torn)
        rw [show recs.length + P.rest.length = nl + nq from by rw [HNL.out, HNQ.out]; exact congrArg (recs.length + ·) (congrArg List.length (if_neg hf))]
        exact h2) (fun b hb => (HNB.out b hb).1) (take_stores ha4 _ P nq)
  exact bodyPost_end (results_none rfl _ _ _) rfl ⟨rfl, HFIN.out⟩
end Go.Proofs.YtnhplbdbgiimkaaGreatDoor
