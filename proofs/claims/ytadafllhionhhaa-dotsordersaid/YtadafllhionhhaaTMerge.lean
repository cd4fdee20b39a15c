/-
  dots.Dots.Merge.
-/
import Derived.Test.YtadafllhionhhaaTSettle
import Derived.Test.YtadafllhionhhaaBTake2
import Derived.Deep.RegionHeldLaw
namespace Go.Proofs.Ytadafllhionhhaa
open Go.RowKit Go.Lib
set_option linter.unusedVariables false

theorem compactV (v : Value) (l : List C.Dt) (w : World) (h : OwnD w v l) (hl : l.length ≤ 1000000) :
    Calls Try.prog 53 #[v] w fun e w' => ∃ q m c, e = .returned (.slice q m c) ∧ OwnD w' (.slice q m c) (C.dd l) ∧ (Value.slice q m c).ownBlock = v.ownBlock ∧ Turn w w' (fun b => v.ownBlock = some b) := by
  refine (compact_any v l w h hl).mono ?_
  rintro e w' ⟨v', rfl, h1, h2, h3⟩
  obtain ⟨q, m, c, rfl⟩ := h1.slice
  exact ⟨q, m, c, rfl, h1, h2, h3⟩
theorem zfacts {w : World} {b : Nat} {x0 x1 x2 x3 x4 x5 x6 : Int} {t : TypeId} (h : w.heap[b]? = some (.cells #[.int .i64 x0, .int .i64 x1, .int .i64 x2, .int .i64 x3, .int .i64 x4, .int .i64 x5, .int .i64 x6] t)) :
    (w.cell? ⟨b, 0, none⟩ = some (.int .i64 x0) ∧ w.cell? ⟨b, 1, none⟩ = some (.int .i64 x1) ∧ w.cell? ⟨b, 2, none⟩ = some (.int .i64 x2) ∧ w.cell? ⟨b, 3, none⟩ = some (.int .i64 x3) ∧ w.cell? ⟨b, 4, none⟩ = some (.int .i64 x4) ∧ w.cell? ⟨b, 5, none⟩ = some (.int .i64 x5) ∧ w.cell? ⟨b, 6, none⟩ = some (.int .i64 x6)) ∧
    (w.frozen? ⟨b, 0, none⟩ = false ∧ w.frozen? ⟨b, 1, none⟩ = false ∧ w.frozen? ⟨b, 2, none⟩ = false ∧ w.frozen? ⟨b, 3, none⟩ = false ∧ w.frozen? ⟨b, 4, none⟩ = false ∧ w.frozen? ⟨b, 5, none⟩ = false ∧ w.frozen? ⟨b, 6, none⟩ = false) := by
  refine ⟨box7 h, ?_⟩
  simp [World.frozen?, h]
theorem new_drew (w : World) (o : Obj) : (w.alloc o).drew.heap[w.heap.size]? = some o := heap_alloc_new w o
theorem bnew_drew (w : World) (o : Obj) : Below w.heap.size w (w.alloc o).drew := (below_new w o).drew
theorem bref_drew (w : World) : Below w.heap.size w w.drew := (Below.refl _ w).drew
/-- Blocks of S were turned, and such as are newer than n. -/
def ST (v : Value) (n : Nat) : Nat → Prop := fun b => v.ownBlock = some b ∨ n ≤ b
/-- A world in which blocks of S and new ones alone were turned. -/
structure TurnW (w : World) (v : Value) where
  W : World
  h : Turn w W (ST v w.heap.size)
theorem compactW {w2 W : World} {v : Value} {l : List C.Dt} (h : OwnD w2 v l) (hl : l.length ≤ 1000000) (hb : Below w2.heap.size w2 W) (ht : Turn w2 W (ST v w2.heap.size)) :
    Calls Try.prog 53 #[v] W fun e w' => ∃ q m c, e = .returned (.slice q m c) ∧ OwnD w' (.slice q m c) (C.dd l) ∧ Turn w2 w' (ST v w2.heap.size) ∧ W.heap.size ≤ w'.heap.size ∧ ∀ (b : Nat) (cs : Array Value) (m : Nat × Nat), W.heap[b]? = some (Obj.cells cs 43 m) → w'.heap[b]? = some (Obj.cells cs 43 m) := by
  refine (compactV v l W (h.below hb) hl).mono ?_
  rintro e w' ⟨q, m, c, rfl, h1, h2, h3⟩
  refine ⟨q, m, c, rfl, h1, ht.trans h3 fun x hx => Or.inl (Or.inl hx), h3.size, fun b cs mk hq => ?_⟩
  rw [h3.block b (Array.getElem?_eq_some_iff.1 hq).1 fun e => ?_]
  · exact hq
  · obtain ⟨cur, hc⟩ := row_type (h.below hb) e
    rw [hq] at hc
    simp at hc
theorem merge_fin {w w2 WF : World} {g : Nat} {c r : V7} {v vb vz : Value} {l lr : List C.Dt} (hD : DotsAt w g c v l) (hB : Below w.heap.size w w2) (hFb : Fresh w vb) (hT : Turn w2 WF (ST vb w2.heap.size)) (hG : DotsAt WF g c v l) (hO : OwnD WF vz lr) (hf : Fresh w2 vz) :
    AddRet w g v ⟨r, lr⟩ ((((((((WF.setCell ⟨g, 0, none⟩ (.int .i64 r.x0)).setCell ⟨g, 1, none⟩ (.int .i64 r.x1)).setCell ⟨g, 2, none⟩ (.int .i64 r.x2)).setCell ⟨g, 3, none⟩ (.int .i64 r.x3)).setCell ⟨g, 4, none⟩ (.int .i64 r.x4)).setCell ⟨g, 5, none⟩ (.int .i64 r.x5)).setCell ⟨g, 6, none⟩ (.int .i64 r.x6)).setCell ⟨g, 7, none⟩ vz) := by
  have hgl : g < w.heap.size := (Array.getElem?_eq_some_iff.1 hD.blk).1
  have hs := hB.size
  have hne : ∀ b, vz.ownBlock = some b → b ≠ g := fun b hb e => by have := hf b hb; omega
  refine ⟨⟨vz, ⟨?_, hO.same fun b hb => ?_⟩, Or.inr fun b hb => Nat.le_trans hs (hf b hb)⟩, ?_⟩
  · have h := set_block (o := 7) (v := vz) (set_block (o := 6) (v := .int .i64 r.x6) (set_block (o := 5) (v := .int .i64 r.x5) (set_block (o := 4) (v := .int .i64 r.x4) (set_block (o := 3) (v := .int .i64 r.x3) (set_block (o := 2) (v := .int .i64 r.x2) (set_block (o := 1) (v := .int .i64 r.x1) (set_block (o := 0) (v := .int .i64 r.x0) hG.blk)))))))
    simpa [cells8] using h
  · have hn := hne b hb
    rw [set_other hn, set_other hn, set_other hn, set_other hn, set_other hn, set_other hn, set_other hn, set_other hn]
  · have h1 : Turn w WF (foot g v) := (Turn.of_below hB).trans hT fun x hx => by
      rcases hx with hx | hx
      · exact Or.inr (hFb x hx)
      · exact Or.inr (Nat.le_trans hs hx)
    exact (((((((h1.setCell (Or.inl rfl) _).setCell (Or.inl rfl) _).setCell (Or.inl rfl) _).setCell (Or.inl rfl) _).setCell (Or.inl rfl) _).setCell (Or.inl rfl) _).setCell (Or.inl rfl) _).setCell (Or.inl rfl) _
set_option maxRecDepth 100000 in
set_option maxHeartbeats 0 in
theorem merge_any8 (w : World) (g1 g2 : Nat) (s1 s2 : C.Ds) (v1 v2 : Value) (h1 : DotsAt w g1 s1.c v1 s1.l) (h2 : DotsAt w g2 s2.c v2 s2.l) (hs1 : s1.Ok) (hs2 : s2.Ok) (hl : s1.l.length + s2.l.length ≤ 1000) :
    Calls Try.prog 24 #[.pointer (some ⟨g1, 0, none⟩), .pointer (some ⟨g2, 0, none⟩)] w fun e w' => e = .returned (.int .i64 0) ∧ AddRet w g1 v1 (C.mergeS s1 s2) w' := by
  have HD1 : Hid (DotsAt w g1 s1.c v1 s1.l) := h1
  have HD2 : Hid (DotsAt w g2 s2.c v2 s2.l) := h2
  have HS1 : Hid s1.Ok := hs1
  have HS2 : Hid s2.Ok := hs2
  have HL : Hid (s1.l.length + s2.l.length ≤ 1000) := hl
  obtain ⟨qa, ka, e1⟩ := h1.row.len
  obtain ⟨qb, kb, e2⟩ := h2.row.len
  generalize hna : s1.l.length = na at e1
  generalize hnb : s2.l.length = nb at e2
  subst e1 e2
  have x1 : w.drew.cell? ⟨g1, 7, none⟩ = some (.slice qa na ka) := (cells8_at h1.blk).2.2.2.2.2.2.2
  have x2 : w.drew.cell? ⟨g2, 7, none⟩ = some (.slice qb nb kb) := (cells8_at h2.blk).2.2.2.2.2.2.2
  have HX : Hid (Below w.heap.size w ((w.alloc (.cells #[.slice qa na ka, .slice qb nb kb] 37)).drew)) := (below_new w _).drew
  have C0 : Hid ((w.alloc (.cells #[.slice qa na ka, .slice qb nb kb] 37)).drew.cell? ⟨w.heap.size, 0, none⟩ = some (.slice qa na ka)) := (new_cell w #[.slice qa na ka, .slice qb nb kb] 37 _ 0 rfl).trans rfl
  have C1 : Hid ((w.alloc (.cells #[.slice qa na ka, .slice qb nb kb] 37)).drew.cell? ⟨w.heap.size, 1, none⟩ = some (.slice qb nb kb)) := (new_cell w #[.slice qa na ka, .slice qb nb kb] 37 _ 1 rfl).trans rfl
  clear h1 h2 hs1 hs2 hl hna hnb
  go_enter Try.func24, Try.ntmps24
  go_wp2_with fail
  have HSW : Hid (∀ w', Below w.heap.size w w' → w'.cell? ⟨g1, 7, none⟩ = some (.slice qa na ka) ∧ w'.cell? ⟨g2, 7, none⟩ = some (.slice qb nb kb)) := fun w' hb => ⟨(cells8_at (HD1.out.below hb).blk).2.2.2.2.2.2.2, (cells8_at (HD2.out.below hb).blk).2.2.2.2.2.2.2⟩
  clear x1 x2
  go_region_held_law (fun w' => w'.cell? ⟨g1, 7, none⟩ = some (.slice qa na ka) ∧ w'.cell? ⟨g2, 7, none⟩ = some (.slice qb nb kb))
    ((refine HSW.out _ ?_; repeat (first | exact Below.refl _ _ | exact HBH.out | refine Below.drew ?_ | refine Below.alloc ?_ (by simp) _)))
    ((go_at_call 48; refine (concatD_any w.heap.size _ _ s1.l s2.l (w.alloc (.cells #[.slice qa na ka, .slice qb nb kb] 37)).drew C0.out C1.out (HD1.out.below HX.out).row (HD2.out.below HX.out).row (by have := HL.out; omega) (by have := HL.out; omega)).mono ?_; rintro e w1 ⟨⟨vb, rfl, hb1, hb2⟩, hb3⟩; have HO1 : Hid (OwnD w1 vb (s1.l ++ s2.l)) := hb1; have HF1 : Hid (Fresh w vb) := fun b hb => Nat.le_trans HX.out.size (hb2 b hb); have HBH : Hid (Below w.heap.size w w1) := bt HX.out hb3; clear hb1 hb2 hb3))
  obtain ⟨qv, mv, cv, hvb⟩ := HO1.out.slice
  subst hvb
  clear HSW HX C0 C1
  go_wp2_with fail
  refine (sortD_any _ _ w1 HO1.out (by have := HL.out; rw [List.length_append]; omega)).mono ?_
  rintro e w2 ⟨rfl, ⟨l', hp1, hp2, hp3⟩, hgr⟩
  have HO2 : Hid (OwnD w2 (.slice qv mv cv) l') := hp1
  have HDD : Hid (C.dd l' = C.joinL s1.l s2.l) := C.dd_join HS1.out.up hp2 hp3
  have HLL : Hid (l'.length ≤ 1000) := by show _ ≤ _; rw [hp2.length_eq, List.length_append]; exact HL.out
  have HB2 : Hid (Below w.heap.size w w2) := bel_grown HBH.out hgr HF1.out
  clear hp1 hp2 hp3 hgr HO1 HBH
  obtain ⟨⟨x0, x1, x2, x3, x4, x5, x6⟩, l1⟩ := s1
  obtain ⟨⟨y0, y1, y2, y3, y4, y5, y6⟩, l2⟩ := s2
  have HDa : Hid (∀ W, Turn w2 W (ST (.slice qv mv cv) w2.heap.size) → DotsAt W g1 ⟨x0, x1, x2, x3, x4, x5, x6⟩ (.slice qa na ka) l1) := fun W hW => (HD1.out.below HB2.out).same fun b hb => hW.block b ((HD1.out.below HB2.out).lt hb) fun e => by
    have h2 := HD1.out.lt hb
    have h3 := HB2.out.size
    rcases e with e | e
    · have h1 := HF1.out b e; omega
    · omega
  have HDb : Hid (∀ W, Turn w2 W (ST (.slice qv mv cv) w2.heap.size) → DotsAt W g2 ⟨y0, y1, y2, y3, y4, y5, y6⟩ (.slice qb nb kb) l2) := fun W hW => (HD2.out.below HB2.out).same fun b hb => hW.block b ((HD2.out.below HB2.out).lt hb) fun e => by
    have h2 := HD2.out.lt hb
    have h3 := HB2.out.size
    rcases e with e | e
    · have h1 := HF1.out b e; omega
    · omega
  obtain ⟨R, hR⟩ : ∃ R, R = C.settleL (C.mrg ⟨x0, x1, x2, x3, x4, x5, x6⟩ ⟨y0, y1, y2, y3, y4, y5, y6⟩) (C.dd l') := ⟨_, rfl⟩
  have HR : Hid (R = C.settleL (C.mrg ⟨x0, x1, x2, x3, x4, x5, x6⟩ ⟨y0, y1, y2, y3, y4, y5, y6⟩) (C.dd l')) := hR
  have HMS : Hid (C.mergeS ⟨⟨x0, x1, x2, x3, x4, x5, x6⟩, l1⟩ ⟨⟨y0, y1, y2, y3, y4, y5, y6⟩, l2⟩ = ⟨R.1, R.2⟩) := by show _ = _; rw [hR, HDD.out]; rfl
  have HRL : Hid (R.2.length ≤ 1000) := by
    have h1 := C.merge_len ⟨⟨x0, x1, x2, x3, x4, x5, x6⟩, l1⟩ ⟨⟨y0, y1, y2, y3, y4, y5, y6⟩, l2⟩
    rw [HMS.out] at h1
    exact Nat.le_trans h1 HL.out
  obtain ⟨M, hM⟩ : ∃ M, M = C.mrg ⟨x0, x1, x2, x3, x4, x5, x6⟩ ⟨y0, y1, y2, y3, y4, y5, y6⟩ := ⟨_, rfl⟩
  have HVM : Hid (∀ W, Calls Try.prog 52 #[.agg #[.int .i64 x0, .int .i64 x1, .int .i64 x2, .int .i64 x3, .int .i64 x4, .int .i64 x5, .int .i64 x6], .agg #[.int .i64 y0, .int .i64 y1, .int .i64 y2, .int .i64 y3, .int .i64 y4, .int .i64 y5, .int .i64 y6]] W fun e w' => e = .returned M.v ∧ Below W.heap.size W w') := fun W => merge_at hM.symm W
  have HSE : Hid (∀ (v : Value) W, OwnD W v (C.dd l') → Calls Try.prog 51 #[M.v, v] W fun e w' => (∃ q m c, e = .returned (.tuple #[R.1.v, .slice q m c]) ∧ m = R.2.length ∧ OwnD w' (.slice q m c) R.2 ∧ Fresh W (.slice q m c)) ∧ Below W.heap.size W w') := fun v W hW => by
    refine (settle_any M v (C.dd l') W hW ?_ ?_ ?_).mono ?_
    · rw [HDD.out]
      have h1 := C.join_len l2 l1
      have h2 := HL.out
      simp only at h2 ⊢
      omega
    · rw [hM]; exact C.good_mrg HS1.out.good HS2.out.good
    · rw [HDD.out]; exact C.merge_may HS1.out HS2.out
    · rintro e w' ⟨⟨v', rfl, h1, h2⟩, h3⟩
      rw [← hM] at hR
      rw [← hR] at h1 ⊢
      obtain ⟨q, c, rfl⟩ := h1.len
      exact ⟨⟨q, _, c, rfl, rfl, h1, h2⟩, h3⟩
  clear hR hM
  obtain ⟨m0, m1, m2, m3, m4, m5, m6⟩ := M
  simp only [V7.v] at HVM HSE
  obtain ⟨⟨r0, r1, r2, r3, r4, r5, r6⟩, lr⟩ := R
  simp only at HSE HMS HRL
  have HSW2 : Hid (∀ w', Turn w2 w' (ST (.slice qv mv cv) w2.heap.size) → w'.cell? ⟨g1, 0, none⟩ = some (.int .i64 x0) ∧ w'.cell? ⟨g1, 1, none⟩ = some (.int .i64 x1) ∧ w'.cell? ⟨g1, 2, none⟩ = some (.int .i64 x2) ∧ w'.cell? ⟨g1, 3, none⟩ = some (.int .i64 x3) ∧ w'.cell? ⟨g1, 4, none⟩ = some (.int .i64 x4) ∧ w'.cell? ⟨g1, 5, none⟩ = some (.int .i64 x5) ∧ w'.cell? ⟨g1, 6, none⟩ = some (.int .i64 x6) ∧ w'.cell? ⟨g2, 0, none⟩ = some (.int .i64 y0) ∧ w'.cell? ⟨g2, 1, none⟩ = some (.int .i64 y1) ∧ w'.cell? ⟨g2, 2, none⟩ = some (.int .i64 y2) ∧ w'.cell? ⟨g2, 3, none⟩ = some (.int .i64 y3) ∧ w'.cell? ⟨g2, 4, none⟩ = some (.int .i64 y4) ∧ w'.cell? ⟨g2, 5, none⟩ = some (.int .i64 y5) ∧ w'.cell? ⟨g2, 6, none⟩ = some (.int .i64 y6)) := fun w' hT => by
    obtain ⟨a0, a1, a2, a3, a4, a5, a6, -⟩ := cells8_at (HDa.out w' hT).blk
    obtain ⟨b0, b1, b2, b3, b4, b5, b6, -⟩ := cells8_at (HDb.out w' hT).blk
    exact ⟨a0, a1, a2, a3, a4, a5, a6, b0, b1, b2, b3, b4, b5, b6⟩
  go_wp2_with fail
  have hC : ∃ n : TurnW w2 (.slice qv mv cv), w2.drew = n.W := ⟨⟨w2.drew, (Turn.refl _ _).drew⟩, rfl⟩
  have z0 : ∀ n : TurnW w2 (.slice qv mv cv), n.W.cell? ⟨g1, 0, none⟩ = some (.int .i64 x0) := fun n => (HSW2.out n.W n.h).1
  have z1 : ∀ n : TurnW w2 (.slice qv mv cv), n.W.cell? ⟨g1, 1, none⟩ = some (.int .i64 x1) := fun n => (HSW2.out n.W n.h).2.1
  have z2 : ∀ n : TurnW w2 (.slice qv mv cv), n.W.cell? ⟨g1, 2, none⟩ = some (.int .i64 x2) := fun n => (HSW2.out n.W n.h).2.2.1
  have z3 : ∀ n : TurnW w2 (.slice qv mv cv), n.W.cell? ⟨g1, 3, none⟩ = some (.int .i64 x3) := fun n => (HSW2.out n.W n.h).2.2.2.1
  have z4 : ∀ n : TurnW w2 (.slice qv mv cv), n.W.cell? ⟨g1, 4, none⟩ = some (.int .i64 x4) := fun n => (HSW2.out n.W n.h).2.2.2.2.1
  have z5 : ∀ n : TurnW w2 (.slice qv mv cv), n.W.cell? ⟨g1, 5, none⟩ = some (.int .i64 x5) := fun n => (HSW2.out n.W n.h).2.2.2.2.2.1
  have z6 : ∀ n : TurnW w2 (.slice qv mv cv), n.W.cell? ⟨g1, 6, none⟩ = some (.int .i64 x6) := fun n => (HSW2.out n.W n.h).2.2.2.2.2.2.1
  have z7 : ∀ n : TurnW w2 (.slice qv mv cv), n.W.cell? ⟨g2, 0, none⟩ = some (.int .i64 y0) := fun n => (HSW2.out n.W n.h).2.2.2.2.2.2.2.1
  have z8 : ∀ n : TurnW w2 (.slice qv mv cv), n.W.cell? ⟨g2, 1, none⟩ = some (.int .i64 y1) := fun n => (HSW2.out n.W n.h).2.2.2.2.2.2.2.2.1
  have z9 : ∀ n : TurnW w2 (.slice qv mv cv), n.W.cell? ⟨g2, 2, none⟩ = some (.int .i64 y2) := fun n => (HSW2.out n.W n.h).2.2.2.2.2.2.2.2.2.1
  have z10 : ∀ n : TurnW w2 (.slice qv mv cv), n.W.cell? ⟨g2, 3, none⟩ = some (.int .i64 y3) := fun n => (HSW2.out n.W n.h).2.2.2.2.2.2.2.2.2.2.1
  have z11 : ∀ n : TurnW w2 (.slice qv mv cv), n.W.cell? ⟨g2, 4, none⟩ = some (.int .i64 y4) := fun n => (HSW2.out n.W n.h).2.2.2.2.2.2.2.2.2.2.2.1
  have z12 : ∀ n : TurnW w2 (.slice qv mv cv), n.W.cell? ⟨g2, 5, none⟩ = some (.int .i64 y5) := fun n => (HSW2.out n.W n.h).2.2.2.2.2.2.2.2.2.2.2.2.1
  have z13 : ∀ n : TurnW w2 (.slice qv mv cv), n.W.cell? ⟨g2, 6, none⟩ = some (.int .i64 y6) := fun n => (HSW2.out n.W n.h).2.2.2.2.2.2.2.2.2.2.2.2.2
  have hno : Nonempty (TurnW w2 (.slice qv mv cv)) := ⟨⟨w2.drew, (Turn.refl _ _).drew⟩⟩
  refine wp_region_held_drew (S := fun w' => ∃ n : TurnW w2 (.slice qv mv cv), w' = n.W) (by kernel_rfl) hC (fun _ => ?_)
  refine takeList (i := 0) rfl (by kernel_rfl) (by kernel_rfl) (by kernel_rfl) (fun _ _ _ _ h => h) rfl rfl hC (fun K hK => ?_)
  go_big_quiet_op
  refine hK _ ?_
  clear hK K
  refine takeNil (i := 1) rfl rfl rfl (by kernel_rfl) (by kernel_rfl) (by kernel_rfl) (fun _ _ _ _ h => h) rfl hC ?_
  go_simp
  refine takeList (i := 2) rfl (by kernel_rfl) (by kernel_rfl) (by kernel_rfl) (fun _ _ _ _ h => h) rfl rfl hC (fun K hK => ?_)
  go_big_quiet_op
  refine hK _ ?_
  clear hK K
  refine takeList (i := 3) rfl (by kernel_rfl) (by kernel_rfl) (by kernel_rfl) (fun _ _ _ _ h => h) rfl rfl hC (fun K hK => ?_)
  go_big_quiet_op
  refine hK _ ?_
  clear hK K
  refine takeList (i := 4) rfl (by kernel_rfl) (by kernel_rfl) (by kernel_rfl) (fun _ _ _ _ h => h) rfl rfl hC (fun K hK => ?_)
  go_big_quiet_op
  refine hK _ ?_
  clear hK K
  refine takeNil (i := 5) rfl rfl rfl (by kernel_rfl) (by kernel_rfl) (by kernel_rfl) (fun _ _ _ _ h => h) rfl hC ?_
  go_simp
  refine takeList (i := 6) rfl (by kernel_rfl) (by kernel_rfl) (by kernel_rfl) (fun _ _ _ _ h => h) rfl rfl hC (fun K hK => ?_)
  go_big_quiet_op
  refine hK _ ?_
  clear hK K
  refine takeList (i := 7) rfl (by kernel_rfl) (by kernel_rfl) (by kernel_rfl) (fun _ _ _ _ h => h) rfl rfl hC (fun K hK => ?_)
  go_big_quiet_op
  refine hK _ ?_
  clear hK K
  refine takeList (i := 9) rfl (by kernel_rfl) (by kernel_rfl) (by kernel_rfl) (fun _ _ _ _ h => h) rfl rfl hC (fun K hK => ?_)
  go_big_quiet_op
  refine hK _ ?_
  clear hK K
  clear z0 z1 z2 z3 z4 z5 z6 z7 z8 z9 z10 z11 z12 z13
  have hT : Turn w2 w2.drew (ST (.slice qv mv cv) w2.heap.size) := (Turn.refl _ _).drew
  have hB : Below w2.heap.size w2 w2.drew := bref_drew w2
  refine wpAnyH_ready (rs := [8, 15]) (by kernel_rfl) (by simp) (AllReadyH.cons (at_of_drop (i := 8) rfl) (fun K hK => ?_) (AllReadyH.cons (at_of_drop (i := 15) rfl) (fun K hK => ?_) AllReadyH.nil))
  · rw [if_pos (by rfl)]
    go_simp
    refine (HVM.out _).mono ?_
    rintro e w3 ⟨rfl, h3⟩
    replace hT := Turn.trans (T := ST (.slice qv mv cv) w2.heap.size) hT (Turn.of_below h3) (fun x hx => Or.inl hx)
    replace hB := bt hB h3
    refine hK.out _ _ ⟨⟨_, hT⟩, rfl⟩ (fun hC => ?_)
    clear hK K h3
    refine wpAnyH_ready (rs := [10, 15]) (by kernel_rfl) (by simp) (AllReadyH.cons (at_of_drop (i := 10) rfl) (fun K hK => ?_) (AllReadyH.cons (at_of_drop (i := 15) rfl) (fun K hK => ?_) AllReadyH.nil))
    · rw [if_pos (by rfl)]
      go_simp
      refine (compactW HO2.out (by have := HLL.out; omega) hB hT).mono ?_
      rintro e w4 ⟨q4, n4, c4, rfl, hc1, hT4, hsz4, hfw4⟩
      replace hT := hT4
      refine hK.out _ _ ⟨⟨_, hT⟩, rfl⟩ (fun hC => ?_)
      clear hK K hB hT4 hsz4 hfw4
      refine wpAnyH_ready (rs := [11, 15]) (by kernel_rfl) (by simp) (AllReadyH.cons (at_of_drop (i := 11) rfl) (fun K hK => ?_) (AllReadyH.cons (at_of_drop (i := 15) rfl) (fun K hK => ?_) AllReadyH.nil))
      · rw [if_pos (by rfl)]
        go_simp
        refine (HSE.out _ _ hc1).mono ?_
        rintro e w5 ⟨⟨q5, n5, c5, rfl, hn5, ho5, hf5⟩, hb5⟩
        subst hn5
        replace hf5 : Fresh w2 (.slice q5 lr.length c5) := fun b hb => Nat.le_trans hT.size (hf5 b hb)
        replace hT := Turn.trans (T := ST (.slice qv mv cv) w2.heap.size) hT (Turn.of_below hb5) (fun x hx => Or.inl hx)
        refine hK.out _ _ ⟨⟨_, hT⟩, rfl⟩ (fun hC => ?_)
        clear hK K hc1 hb5
        refine takeList (i := 12) rfl (by kernel_rfl) (by kernel_rfl) (by kernel_rfl) (fun _ _ _ _ h => h) rfl rfl hC (fun K hK => ?_)
        go_big_quiet_op
        refine hK _ ?_
        clear hK K
        refine takeList (i := 13) rfl (by kernel_rfl) (by kernel_rfl) (by kernel_rfl) (fun _ _ _ _ h => h) rfl rfl hC (fun K hK => ?_)
        go_big_quiet_op
        refine hK _ ?_
        clear hK K
        refine takeList (i := 14) rfl (by kernel_rfl) (by kernel_rfl) (by kernel_rfl) (fun _ _ _ _ h => h) rfl rfl hC (fun K hK => ?_)
        go_big_quiet_op
        refine hK _ ?_
        clear hK K
        refine callList (i := 15) rfl (by kernel_rfl) rfl (fun K hK => ?_)
        go_simp
        have hz := heap_alloc_new w5 (.cells #[.int .i64 0, .int .i64 0, .int .i64 0, .int .i64 0, .int .i64 0, .int .i64 0, .int .i64 0] 43)
        have hal := below_new w5 (.cells #[.int .i64 0, .int .i64 0, .int .i64 0, .int .i64 0, .int .i64 0, .int .i64 0, .int .i64 0] 43)
        have hzb : w2.heap.size ≤ w5.heap.size := hT.size
        have hne : ∀ b, (Value.slice q5 lr.length c5).ownBlock = some b → b ≠ w5.heap.size := fun b hb e => by have h1 := row_lt ho5 hb; omega
        replace ho5 := ho5.below hal
        replace hT := hT.alloc (.cells #[.int .i64 0, .int .i64 0, .int .i64 0, .int .i64 0, .int .i64 0, .int .i64 0, .int .i64 0] 43)
        refine hK.out _ _ ⟨⟨_, hT⟩, rfl⟩ ?_
        generalize hWA : World.alloc w5 (.cells #[.int .i64 0, .int .i64 0, .int .i64 0, .int .i64 0, .int .i64 0, .int .i64 0, .int .i64 0] 43) = WA at *
        generalize w5.heap.size = zb at *
        clear hK K hal hWA
        have hC : ∃ n : TurnW w2 (.slice qv mv cv), WA = n.W := ⟨⟨_, hT⟩, rfl⟩
        obtain ⟨⟨k0, k1, k2, k3, k4, k5, k6⟩, f0, f1, f2, f3, f4, f5, f6⟩ := zfacts hz
        refine callList (i := 16) rfl (by kernel_rfl) rfl (fun K hK => ?_)
        go_simp
        generalize hWF : World.setCell _ _ _ = WF
        have hTF : Turn w2 WF (ST (.slice qv mv cv) w2.heap.size) := by
          rw [← hWF]
          iterate 7 refine Turn.setCell (b := zb) ?_ (Or.inr hzb) _
          exact hT
        have hqF : WF.heap[zb]? = some (.cells (cells7 ⟨r0, r1, r2, r3, r4, r5, r6⟩) 43) := by
          rw [← hWF]
          exact (set_block (set_block (set_block (set_block (set_block (set_block (set_block hz)))))))
        have hoF : OwnD WF (.slice q5 lr.length c5) lr := ho5.same fun b hb => by
          have hn := hne b hb
          rw [← hWF, set_other hn, set_other hn, set_other hn, set_other hn, set_other hn, set_other hn, set_other hn]
        clear hWF hT ho5 hz hne k0 k1 k2 k3 k4 k5 k6 f0 f1 f2 f3 f4 f5 f6
        refine hK.out _ _ ⟨⟨WF, hTF⟩, rfl⟩ ?_
        clear hK K hC
        have hC : ∃ n : TurnW w2 (.slice qv mv cv), WF = n.W := ⟨⟨WF, hTF⟩, rfl⟩
        refine takeList (i := 17) rfl (by kernel_rfl) (by kernel_rfl) (by kernel_rfl) (fun _ _ _ _ h => h) rfl rfl hC (fun K hK => ?_)
        go_big_quiet_op
        refine hK _ ?_
        clear hK K hC hno
        refine wpAnyH_done (by kernel_rfl) ?_ _
        have HqF : Hid (WF.heap[zb]? = some (.cells (cells7 ⟨r0, r1, r2, r3, r4, r5, r6⟩) 43)) := hqF
        have HoF : Hid (OwnD WF (.slice q5 lr.length c5) lr) := hoF
        have HTF : Hid (Turn w2 WF (ST (.slice qv mv cv) w2.heap.size)) := hTF
        have Hf5 : Hid (Fresh w2 (.slice q5 lr.length c5)) := hf5
        have HgF : Hid (DotsAt WF g1 ⟨x0, x1, x2, x3, x4, x5, x6⟩ (.slice qa na ka) l1) := HDa.out WF hTF
        have hle : (lr.length : Int) ≤ 1000 := by have := HRL.out; omega
        obtain ⟨b0, b1, b2, b3, b4, b5, b6⟩ := box7 hqF
        obtain ⟨c0', c1', c2', c3', c4', c5', c6', c7'⟩ := cells8_at HgF.out.blk
        obtain ⟨f0, f1, f2, f3, f4, f5, f6, f7⟩ : WF.frozen? ⟨g1, 0, none⟩ = false ∧ WF.frozen? ⟨g1, 1, none⟩ = false ∧ WF.frozen? ⟨g1, 2, none⟩ = false ∧ WF.frozen? ⟨g1, 3, none⟩ = false ∧ WF.frozen? ⟨g1, 4, none⟩ = false ∧ WF.frozen? ⟨g1, 5, none⟩ = false ∧ WF.frozen? ⟨g1, 6, none⟩ = false ∧ WF.frozen? ⟨g1, 7, none⟩ = false := by simp [World.frozen?, HgF.out.blk]
        clear hqF hoF hTF hf5
        go_wp2_with fail
        go_ret
        exact ⟨rfl, by rw [HMS.out]; exact merge_fin (r := ⟨r0, r1, r2, r3, r4, r5, r6⟩) HD1.out HB2.out HF1.out HTF.out HgF.out HoF.out Hf5.out⟩
      · rw [if_pos (by rfl)]
        go_simp
        have hz := heap_alloc_new w4 (.cells #[.int .i64 0, .int .i64 0, .int .i64 0, .int .i64 0, .int .i64 0, .int .i64 0, .int .i64 0] 43)
        have hal := below_new w4 (.cells #[.int .i64 0, .int .i64 0, .int .i64 0, .int .i64 0, .int .i64 0, .int .i64 0, .int .i64 0] 43)
        have hzb : w2.heap.size ≤ w4.heap.size := hT.size
        replace hc1 := hc1.below hal
        replace hT := hT.alloc (.cells #[.int .i64 0, .int .i64 0, .int .i64 0, .int .i64 0, .int .i64 0, .int .i64 0, .int .i64 0] 43)
        refine hK.out _ _ ⟨⟨_, hT⟩, rfl⟩ (fun hC => ?_)
        generalize hWA : World.alloc w4 (.cells #[.int .i64 0, .int .i64 0, .int .i64 0, .int .i64 0, .int .i64 0, .int .i64 0, .int .i64 0] 43) = WA at *
        generalize w4.heap.size = zb at *
        clear hK K hal hWA
        refine callList (i := 11) rfl (by kernel_rfl) rfl (fun K hK => ?_)
        go_simp
        refine (HSE.out _ _ hc1).mono ?_
        rintro e w5 ⟨⟨q5, n5, c5, rfl, hn5, ho5, hf5⟩, hb5⟩
        subst hn5
        have hne : ∀ b, (Value.slice q5 lr.length c5).ownBlock = some b → b ≠ zb := fun b hb e => by have h1 := hf5 b hb; have h2 := (Array.getElem?_eq_some_iff.1 hz).1; omega
        replace hz := keep_on hb5 hz
        replace hf5 : Fresh w2 (.slice q5 lr.length c5) := fun b hb => Nat.le_trans hT.size (hf5 b hb)
        replace hT := Turn.trans (T := ST (.slice qv mv cv) w2.heap.size) hT (Turn.of_below hb5) (fun x hx => Or.inl hx)
        refine hK.out _ _ ⟨⟨_, hT⟩, rfl⟩ ?_
        clear hK K hc1 hb5
        have hC : ∃ n : TurnW w2 (.slice qv mv cv), w5 = n.W := ⟨⟨_, hT⟩, rfl⟩
        refine takeList (i := 12) rfl (by kernel_rfl) (by kernel_rfl) (by kernel_rfl) (fun _ _ _ _ h => h) rfl rfl hC (fun K hK => ?_)
        go_big_quiet_op
        refine hK _ ?_
        clear hK K
        refine takeList (i := 13) rfl (by kernel_rfl) (by kernel_rfl) (by kernel_rfl) (fun _ _ _ _ h => h) rfl rfl hC (fun K hK => ?_)
        go_big_quiet_op
        refine hK _ ?_
        clear hK K
        refine takeList (i := 14) rfl (by kernel_rfl) (by kernel_rfl) (by kernel_rfl) (fun _ _ _ _ h => h) rfl rfl hC (fun K hK => ?_)
        go_big_quiet_op
        refine hK _ ?_
        clear hK K
        obtain ⟨⟨k0, k1, k2, k3, k4, k5, k6⟩, f0, f1, f2, f3, f4, f5, f6⟩ := zfacts hz
        refine callList (i := 16) rfl (by kernel_rfl) rfl (fun K hK => ?_)
        go_simp
        generalize hWF : World.setCell _ _ _ = WF
        have hTF : Turn w2 WF (ST (.slice qv mv cv) w2.heap.size) := by
          rw [← hWF]
          iterate 7 refine Turn.setCell (b := zb) ?_ (Or.inr hzb) _
          exact hT
        have hqF : WF.heap[zb]? = some (.cells (cells7 ⟨r0, r1, r2, r3, r4, r5, r6⟩) 43) := by
          rw [← hWF]
          exact (set_block (set_block (set_block (set_block (set_block (set_block (set_block hz)))))))
        have hoF : OwnD WF (.slice q5 lr.length c5) lr := ho5.same fun b hb => by
          have hn := hne b hb
          rw [← hWF, set_other hn, set_other hn, set_other hn, set_other hn, set_other hn, set_other hn, set_other hn]
        clear hWF hT ho5 hz hne k0 k1 k2 k3 k4 k5 k6 f0 f1 f2 f3 f4 f5 f6
        refine hK.out _ _ ⟨⟨WF, hTF⟩, rfl⟩ ?_
        clear hK K hC
        have hC : ∃ n : TurnW w2 (.slice qv mv cv), WF = n.W := ⟨⟨WF, hTF⟩, rfl⟩
        refine takeList (i := 17) rfl (by kernel_rfl) (by kernel_rfl) (by kernel_rfl) (fun _ _ _ _ h => h) rfl rfl hC (fun K hK => ?_)
        go_big_quiet_op
        refine hK _ ?_
        clear hK K hC hno
        refine wpAnyH_done (by kernel_rfl) ?_ _
        have HqF : Hid (WF.heap[zb]? = some (.cells (cells7 ⟨r0, r1, r2, r3, r4, r5, r6⟩) 43)) := hqF
        have HoF : Hid (OwnD WF (.slice q5 lr.length c5) lr) := hoF
        have HTF : Hid (Turn w2 WF (ST (.slice qv mv cv) w2.heap.size)) := hTF
        have Hf5 : Hid (Fresh w2 (.slice q5 lr.length c5)) := hf5
        have HgF : Hid (DotsAt WF g1 ⟨x0, x1, x2, x3, x4, x5, x6⟩ (.slice qa na ka) l1) := HDa.out WF hTF
        have hle : (lr.length : Int) ≤ 1000 := by have := HRL.out; omega
        obtain ⟨b0, b1, b2, b3, b4, b5, b6⟩ := box7 hqF
        obtain ⟨c0', c1', c2', c3', c4', c5', c6', c7'⟩ := cells8_at HgF.out.blk
        obtain ⟨f0, f1, f2, f3, f4, f5, f6, f7⟩ : WF.frozen? ⟨g1, 0, none⟩ = false ∧ WF.frozen? ⟨g1, 1, none⟩ = false ∧ WF.frozen? ⟨g1, 2, none⟩ = false ∧ WF.frozen? ⟨g1, 3, none⟩ = false ∧ WF.frozen? ⟨g1, 4, none⟩ = false ∧ WF.frozen? ⟨g1, 5, none⟩ = false ∧ WF.frozen? ⟨g1, 6, none⟩ = false ∧ WF.frozen? ⟨g1, 7, none⟩ = false := by simp [World.frozen?, HgF.out.blk]
        clear hqF hoF hTF hf5
        go_wp2_with fail
        go_ret
        exact ⟨rfl, by rw [HMS.out]; exact merge_fin (r := ⟨r0, r1, r2, r3, r4, r5, r6⟩) HD1.out HB2.out HF1.out HTF.out HgF.out HoF.out Hf5.out⟩
    · rw [if_pos (by rfl)]
      go_simp
      have hz := heap_alloc_new w3 (.cells #[.int .i64 0, .int .i64 0, .int .i64 0, .int .i64 0, .int .i64 0, .int .i64 0, .int .i64 0] 43)
      have hal := below_new w3 (.cells #[.int .i64 0, .int .i64 0, .int .i64 0, .int .i64 0, .int .i64 0, .int .i64 0, .int .i64 0] 43)
      have hzb : w2.heap.size ≤ w3.heap.size := hT.size
      replace hT := hT.alloc (.cells #[.int .i64 0, .int .i64 0, .int .i64 0, .int .i64 0, .int .i64 0, .int .i64 0, .int .i64 0] 43)
      replace hB := bt hB hal
      refine hK.out _ _ ⟨⟨_, hT⟩, rfl⟩ (fun hC => ?_)
      generalize hWA : World.alloc w3 (.cells #[.int .i64 0, .int .i64 0, .int .i64 0, .int .i64 0, .int .i64 0, .int .i64 0, .int .i64 0] 43) = WA at *
      generalize w3.heap.size = zb at *
      clear hK K hal hWA
      refine callList (i := 10) rfl (by kernel_rfl) rfl (fun K hK => ?_)
      go_simp
      refine (compactW HO2.out (by have := HLL.out; omega) hB hT).mono ?_
      rintro e w4 ⟨q4, n4, c4, rfl, hc1, hT4, hsz4, hfw4⟩
      replace hz := hfw4 _ _ _ hz
      replace hT := hT4
      refine hK.out _ _ ⟨⟨_, hT⟩, rfl⟩ ?_
      clear hK K hB hT4 hsz4 hfw4
      have hC : ∃ n : TurnW w2 (.slice qv mv cv), w4 = n.W := ⟨⟨_, hT⟩, rfl⟩
      refine callList (i := 11) rfl (by kernel_rfl) rfl (fun K hK => ?_)
      go_simp
      refine (HSE.out _ _ hc1).mono ?_
      rintro e w5 ⟨⟨q5, n5, c5, rfl, hn5, ho5, hf5⟩, hb5⟩
      subst hn5
      have hne : ∀ b, (Value.slice q5 lr.length c5).ownBlock = some b → b ≠ zb := fun b hb e => by have h1 := hf5 b hb; have h2 := (Array.getElem?_eq_some_iff.1 hz).1; omega
      replace hz := keep_on hb5 hz
      replace hf5 : Fresh w2 (.slice q5 lr.length c5) := fun b hb => Nat.le_trans hT.size (hf5 b hb)
      replace hT := Turn.trans (T := ST (.slice qv mv cv) w2.heap.size) hT (Turn.of_below hb5) (fun x hx => Or.inl hx)
      refine hK.out _ _ ⟨⟨_, hT⟩, rfl⟩ ?_
      clear hK K hc1 hb5
      have hC : ∃ n : TurnW w2 (.slice qv mv cv), w5 = n.W := ⟨⟨_, hT⟩, rfl⟩
      refine takeList (i := 12) rfl (by kernel_rfl) (by kernel_rfl) (by kernel_rfl) (fun _ _ _ _ h => h) rfl rfl hC (fun K hK => ?_)
      go_big_quiet_op
      refine hK _ ?_
      clear hK K
      refine takeList (i := 13) rfl (by kernel_rfl) (by kernel_rfl) (by kernel_rfl) (fun _ _ _ _ h => h) rfl rfl hC (fun K hK => ?_)
      go_big_quiet_op
      refine hK _ ?_
      clear hK K
      refine takeList (i := 14) rfl (by kernel_rfl) (by kernel_rfl) (by kernel_rfl) (fun _ _ _ _ h => h) rfl rfl hC (fun K hK => ?_)
      go_big_quiet_op
      refine hK _ ?_
      clear hK K
      obtain ⟨⟨k0, k1, k2, k3, k4, k5, k6⟩, f0, f1, f2, f3, f4, f5, f6⟩ := zfacts hz
      refine callList (i := 16) rfl (by kernel_rfl) rfl (fun K hK => ?_)
      go_simp
      generalize hWF : World.setCell _ _ _ = WF
      have hTF : Turn w2 WF (ST (.slice qv mv cv) w2.heap.size) := by
        rw [← hWF]
        iterate 7 refine Turn.setCell (b := zb) ?_ (Or.inr hzb) _
        exact hT
      have hqF : WF.heap[zb]? = some (.cells (cells7 ⟨r0, r1, r2, r3, r4, r5, r6⟩) 43) := by
        rw [← hWF]
        exact (set_block (set_block (set_block (set_block (set_block (set_block (set_block hz)))))))
      have hoF : OwnD WF (.slice q5 lr.length c5) lr := ho5.same fun b hb => by
        have hn := hne b hb
        rw [← hWF, set_other hn, set_other hn, set_other hn, set_other hn, set_other hn, set_other hn, set_other hn]
      clear hWF hT ho5 hz hne k0 k1 k2 k3 k4 k5 k6 f0 f1 f2 f3 f4 f5 f6
      refine hK.out _ _ ⟨⟨WF, hTF⟩, rfl⟩ ?_
      clear hK K hC
      have hC : ∃ n : TurnW w2 (.slice qv mv cv), WF = n.W := ⟨⟨WF, hTF⟩, rfl⟩
      refine takeList (i := 17) rfl (by kernel_rfl) (by kernel_rfl) (by kernel_rfl) (fun _ _ _ _ h => h) rfl rfl hC (fun K hK => ?_)
      go_big_quiet_op
      refine hK _ ?_
      clear hK K hC hno
      refine wpAnyH_done (by kernel_rfl) ?_ _
      have HqF : Hid (WF.heap[zb]? = some (.cells (cells7 ⟨r0, r1, r2, r3, r4, r5, r6⟩) 43)) := hqF
      have HoF : Hid (OwnD WF (.slice q5 lr.length c5) lr) := hoF
      have HTF : Hid (Turn w2 WF (ST (.slice qv mv cv) w2.heap.size)) := hTF
      have Hf5 : Hid (Fresh w2 (.slice q5 lr.length c5)) := hf5
      have HgF : Hid (DotsAt WF g1 ⟨x0, x1, x2, x3, x4, x5, x6⟩ (.slice qa na ka) l1) := HDa.out WF hTF
      have hle : (lr.length : Int) ≤ 1000 := by have := HRL.out; omega
      obtain ⟨b0, b1, b2, b3, b4, b5, b6⟩ := box7 hqF
      obtain ⟨c0', c1', c2', c3', c4', c5', c6', c7'⟩ := cells8_at HgF.out.blk
      obtain ⟨f0, f1, f2, f3, f4, f5, f6, f7⟩ : WF.frozen? ⟨g1, 0, none⟩ = false ∧ WF.frozen? ⟨g1, 1, none⟩ = false ∧ WF.frozen? ⟨g1, 2, none⟩ = false ∧ WF.frozen? ⟨g1, 3, none⟩ = false ∧ WF.frozen? ⟨g1, 4, none⟩ = false ∧ WF.frozen? ⟨g1, 5, none⟩ = false ∧ WF.frozen? ⟨g1, 6, none⟩ = false ∧ WF.frozen? ⟨g1, 7, none⟩ = false := by simp [World.frozen?, HgF.out.blk]
      clear hqF hoF hTF hf5
      go_wp2_with fail
      go_ret
      exact ⟨rfl, by rw [HMS.out]; exact merge_fin (r := ⟨r0, r1, r2, r3, r4, r5, r6⟩) HD1.out HB2.out HF1.out HTF.out HgF.out HoF.out Hf5.out⟩
  · rw [if_pos (by rfl)]
    go_simp
    obtain ⟨zb, hzbe⟩ : ∃ zb, zb = w2.heap.size := ⟨_, rfl⟩
    have hz : (World.alloc w2 (.cells #[.int .i64 0, .int .i64 0, .int .i64 0, .int .i64 0, .int .i64 0, .int .i64 0, .int .i64 0] 43)).drew.heap[zb]? = some (.cells #[.int .i64 0, .int .i64 0, .int .i64 0, .int .i64 0, .int .i64 0, .int .i64 0, .int .i64 0] 43) := by rw [hzbe]; exact new_drew w2 (.cells #[.int .i64 0, .int .i64 0, .int .i64 0, .int .i64 0, .int .i64 0, .int .i64 0, .int .i64 0] 43)
    have hzb : w2.heap.size ≤ zb := by omega
    replace hT : Turn w2 (World.alloc w2 (.cells #[.int .i64 0, .int .i64 0, .int .i64 0, .int .i64 0, .int .i64 0, .int .i64 0, .int .i64 0] 43)).drew (ST (.slice qv mv cv) w2.heap.size) := ((Turn.refl _ _).alloc _).drew
    replace hB := bnew_drew w2 (.cells #[.int .i64 0, .int .i64 0, .int .i64 0, .int .i64 0, .int .i64 0, .int .i64 0, .int .i64 0] 43)
    refine hK.out _ _ ⟨⟨_, hT⟩, rfl⟩ (fun hC => ?_)
    rw [← hzbe]
    clear hzbe
    generalize hWA : (World.alloc w2 (.cells #[.int .i64 0, .int .i64 0, .int .i64 0, .int .i64 0, .int .i64 0, .int .i64 0, .int .i64 0] 43)).drew = WA at *
    clear hK K hWA
    refine callList (i := 8) rfl (by kernel_rfl) rfl (fun K hK => ?_)
    go_simp
    refine (HVM.out _).mono ?_
    rintro e w3 ⟨rfl, h3⟩
    replace hz := keep_on h3 hz
    have hzb3 := hzb
    replace hT := Turn.trans (T := ST (.slice qv mv cv) w2.heap.size) hT (Turn.of_below h3) (fun x hx => Or.inl hx)
    replace hB := bt hB h3
    refine hK.out _ _ ⟨⟨_, hT⟩, rfl⟩ ?_
    clear hK K h3
    have hC : ∃ n : TurnW w2 (.slice qv mv cv), w3 = n.W := ⟨⟨_, hT⟩, rfl⟩
    refine callList (i := 10) rfl (by kernel_rfl) rfl (fun K hK => ?_)
    go_simp
    refine (compactW HO2.out (by have := HLL.out; omega) hB hT).mono ?_
    rintro e w4 ⟨q4, n4, c4, rfl, hc1, hT4, hsz4, hfw4⟩
    replace hz := hfw4 _ _ _ hz
    replace hT := hT4
    refine hK.out _ _ ⟨⟨_, hT⟩, rfl⟩ ?_
    clear hK K hB hT4 hsz4 hfw4
    have hC : ∃ n : TurnW w2 (.slice qv mv cv), w4 = n.W := ⟨⟨_, hT⟩, rfl⟩
    refine callList (i := 11) rfl (by kernel_rfl) rfl (fun K hK => ?_)
    go_simp
    refine (HSE.out _ _ hc1).mono ?_
    rintro e w5 ⟨⟨q5, n5, c5, rfl, hn5, ho5, hf5⟩, hb5⟩
    subst hn5
    have hne : ∀ b, (Value.slice q5 lr.length c5).ownBlock = some b → b ≠ zb := fun b hb e => by have h1 := hf5 b hb; have h2 := (Array.getElem?_eq_some_iff.1 hz).1; omega
    replace hz := keep_on hb5 hz
    replace hf5 : Fresh w2 (.slice q5 lr.length c5) := fun b hb => Nat.le_trans hT.size (hf5 b hb)
    replace hT := Turn.trans (T := ST (.slice qv mv cv) w2.heap.size) hT (Turn.of_below hb5) (fun x hx => Or.inl hx)
    refine hK.out _ _ ⟨⟨_, hT⟩, rfl⟩ ?_
    clear hK K hc1 hb5
    have hC : ∃ n : TurnW w2 (.slice qv mv cv), w5 = n.W := ⟨⟨_, hT⟩, rfl⟩
    refine takeList (i := 12) rfl (by kernel_rfl) (by kernel_rfl) (by kernel_rfl) (fun _ _ _ _ h => h) rfl rfl hC (fun K hK => ?_)
    go_big_quiet_op
    refine hK _ ?_
    clear hK K
    refine takeList (i := 13) rfl (by kernel_rfl) (by kernel_rfl) (by kernel_rfl) (fun _ _ _ _ h => h) rfl rfl hC (fun K hK => ?_)
    go_big_quiet_op
    refine hK _ ?_
    clear hK K
    refine takeList (i := 14) rfl (by kernel_rfl) (by kernel_rfl) (by kernel_rfl) (fun _ _ _ _ h => h) rfl rfl hC (fun K hK => ?_)
    go_big_quiet_op
    refine hK _ ?_
    clear hK K
    obtain ⟨⟨k0, k1, k2, k3, k4, k5, k6⟩, f0, f1, f2, f3, f4, f5, f6⟩ := zfacts hz
    refine callList (i := 16) rfl (by kernel_rfl) rfl (fun K hK => ?_)
    go_simp
    generalize hWF : World.setCell _ _ _ = WF
    have hTF : Turn w2 WF (ST (.slice qv mv cv) w2.heap.size) := by
      rw [← hWF]
      iterate 7 refine Turn.setCell (b := zb) ?_ (Or.inr hzb) _
      exact hT
    have hqF : WF.heap[zb]? = some (.cells (cells7 ⟨r0, r1, r2, r3, r4, r5, r6⟩) 43) := by
      rw [← hWF]
      exact (set_block (set_block (set_block (set_block (set_block (set_block (set_block hz)))))))
    have hoF : OwnD WF (.slice q5 lr.length c5) lr := ho5.same fun b hb => by
      have hn := hne b hb
      rw [← hWF, set_other hn, set_other hn, set_other hn, set_other hn, set_other hn, set_other hn, set_other hn]
    clear hWF hT ho5 hz hne k0 k1 k2 k3 k4 k5 k6 f0 f1 f2 f3 f4 f5 f6
    refine hK.out _ _ ⟨⟨WF, hTF⟩, rfl⟩ ?_
    clear hK K hC
    have hC : ∃ n : TurnW w2 (.slice qv mv cv), WF = n.W := ⟨⟨WF, hTF⟩, rfl⟩
    refine takeList (i := 17) rfl (by kernel_rfl) (by kernel_rfl) (by kernel_rfl) (fun _ _ _ _ h => h) rfl rfl hC (fun K hK => ?_)
    go_big_quiet_op
    refine hK _ ?_
    clear hK K hC hno
    refine wpAnyH_done (by kernel_rfl) ?_ _
    have HqF : Hid (WF.heap[zb]? = some (.cells (cells7 ⟨r0, r1, r2, r3, r4, r5, r6⟩) 43)) := hqF
    have HoF : Hid (OwnD WF (.slice q5 lr.length c5) lr) := hoF
    have HTF : Hid (Turn w2 WF (ST (.slice qv mv cv) w2.heap.size)) := hTF
    have Hf5 : Hid (Fresh w2 (.slice q5 lr.length c5)) := hf5
    have HgF : Hid (DotsAt WF g1 ⟨x0, x1, x2, x3, x4, x5, x6⟩ (.slice qa na ka) l1) := HDa.out WF hTF
    have hle : (lr.length : Int) ≤ 1000 := by have := HRL.out; omega
    obtain ⟨b0, b1, b2, b3, b4, b5, b6⟩ := box7 hqF
    obtain ⟨c0', c1', c2', c3', c4', c5', c6', c7'⟩ := cells8_at HgF.out.blk
    obtain ⟨f0, f1, f2, f3, f4, f5, f6, f7⟩ : WF.frozen? ⟨g1, 0, none⟩ = false ∧ WF.frozen? ⟨g1, 1, none⟩ = false ∧ WF.frozen? ⟨g1, 2, none⟩ = false ∧ WF.frozen? ⟨g1, 3, none⟩ = false ∧ WF.frozen? ⟨g1, 4, none⟩ = false ∧ WF.frozen? ⟨g1, 5, none⟩ = false ∧ WF.frozen? ⟨g1, 6, none⟩ = false ∧ WF.frozen? ⟨g1, 7, none⟩ = false := by simp [World.frozen?, HgF.out.blk]
    clear hqF hoF hTF hf5
    go_wp2_with fail
    go_ret
    exact ⟨rfl, by rw [HMS.out]; exact merge_fin (r := ⟨r0, r1, r2, r3, r4, r5, r6⟩) HD1.out HB2.out HF1.out HTF.out HgF.out HoF.out Hf5.out⟩
end Go.Proofs.Ytadafllhionhhaa
