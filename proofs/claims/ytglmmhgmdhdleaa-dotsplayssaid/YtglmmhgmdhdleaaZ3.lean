/-
  Several texts in one: TMerge, KOrder, TMergeO, XObjs, WRef7b, RMerge.
-/
import Derived.Test.YtglmmhgmdhdleaaZ2
import Derived.Test.YtglmmhgmdhdleaaZ1
import Derived.Deep.RegionHeldLaw
import Derived.Test.YtglmmhgmdhdleaaTSame
namespace Go.Proofs.Ytglmmhgmdhdleaa
open Go.RowKit Go.Lib
set_option linter.unusedVariables false

theorem compactV (v : Value) (l : List C.Dt) (w : World) (h : OwnD w v l) (hl : l.length ≤ 1000000) :
    Calls Try.prog 53 #[v] w fun e w' => ∃ q m c, e = .returned (.slice q m c) ∧ OwnD w' (.slice q m c) (C.dd l) ∧ (Value.slice q m c).ownBlock = v.ownBlock ∧ Turn w w' (fun b => v.ownBlock = some b) := by
  refine (compact_any v l w h hl).mono ?_
  rintro e w' ⟨v', rfl, h1, h2, h3⟩
  obtain ⟨q, m, c, rfl⟩ := h1.slice
  exact ⟨q, m, c, rfl, h1, h2, h3⟩
theorem zfacts {w : World} {b : Nat} {x0 x1 x2 x3 x4 x5 x6 : Int} {t : TypeId} (h : w.heap[b]? = some (.cells #[.int .i64 x0, .int .i64 x1, .int .i64 x2, .int .i64 x3, .int .i64 x4, .int .i64 x5, .int .i64 x6] t)) :
    (w.cell? ⟨b, 0, none⟩ = some (.int .i64 x0) ∧ w.cell? ⟨b, 1, none⟩ = some (.int .i64 x1) ∧ w.cell? ⟨b, 2, none⟩ = some (.int .i64 x2) ∧ w.cell? ⟨b, 3, none⟩ = some (.int .i64 x3) ∧ w.cell? ⟨b, 4, none⟩ = some (.int .i64 x4) ∧ w.cell? ⟨b, 5, none⟩ = some (.int .i64 x5) ∧ w.cell? ⟨b, 6, none⟩ = some (.int .i64 x6)) ∧
    (w.frozen? ⟨b, 0, none⟩ = false ∧ w.frozen? ⟨b, 1, none⟩ = false ∧ w.frozen? ⟨b, 2, none⟩ = false ∧ w.frozen? ⟨b, 3, none⟩ = false ∧ w.frozen? ⟨b, 4, none⟩ = false ∧ w.frozen? ⟨b, 5, none⟩ = false ∧ w.frozen? ⟨b, 6, none⟩ = false) := by
  refine ⟨box7 h, ?_⟩
  simp [World.frozen?, h]
theorem new_drew (w : World) (o : Obj) : (w.alloc o).drew.heap[w.heap.size]? = some o := heap_alloc_new w o
theorem bnew_drew (w : World) (o : Obj) : Below w.heap.size w (w.alloc o).drew := (below_new w o).drew
theorem bref_drew (w : World) : Below w.heap.size w w.drew := (Below.refl _ w).drew
/-- Blocks of S were turned, and such as are newer than n. -/
def ST (v : Value) (n : Nat) : Nat → Prop := fun b => v.ownBlock = some b ∨ n ≤ b
/-- A world in which blocks of S and new ones alone were turned. -/
structure TurnW (w : World) (v : Value) where
  W : World
  h : Turn w W (ST v w.heap.size)
theorem compactW {w2 W : World} {v : Value} {l : List C.Dt} (h : OwnD w2 v l) (hl : l.length ≤ 1000000) (hb : Below w2.heap.size w2 W) (ht : Turn w2 W (ST v w2.heap.size)) :
    Calls Try.prog 53 #[v] W fun e w' => ∃ q m c, e = .returned (.slice q m c) ∧ OwnD w' (.slice q m c) (C.dd l) ∧ Turn w2 w' (ST v w2.heap.size) ∧ W.heap.size ≤ w'.heap.size ∧ ∀ (b : Nat) (cs : Array Value) (m : Nat × Nat), W.heap[b]? = some (Obj.cells cs 43 m) → w'.heap[b]? = some (Obj.cells cs 43 m) := by
  refine (compactV v l W (h.below hb) hl).mono ?_
  rintro e w' ⟨q, m, c, rfl, h1, h2, h3⟩
  refine ⟨q, m, c, rfl, h1, ht.trans h3 fun x hx => Or.inl (Or.inl hx), h3.size, fun b cs mk hq => ?_⟩
  rw [h3.block b (Array.getElem?_eq_some_iff.1 hq).1 fun e => ?_]
  · exact hq
  · obtain ⟨cur, hc⟩ := row_type (h.below hb) e
    rw [hq] at hc
    simp at hc
theorem merge_fin {w w2 WF : World} {g : Nat} {c r : V7} {v vb vz : Value} {l lr : List C.Dt} (hD : DotsAt w g c v l) (hB : Below w.heap.size w w2) (hFb : Fresh w vb) (hT : Turn w2 WF (ST vb w2.heap.size)) (hG : DotsAt WF g c v l) (hO : OwnD WF vz lr) (hf : Fresh w2 vz) :
    AddRet w g v ⟨r, lr⟩ ((((((((WF.setCell ⟨g, 0, none⟩ (.int .i64 r.x0)).setCell ⟨g, 1, none⟩ (.int .i64 r.x1)).setCell ⟨g, 2, none⟩ (.int .i64 r.x2)).setCell ⟨g, 3, none⟩ (.int .i64 r.x3)).setCell ⟨g, 4, none⟩ (.int .i64 r.x4)).setCell ⟨g, 5, none⟩ (.int .i64 r.x5)).setCell ⟨g, 6, none⟩ (.int .i64 r.x6)).setCell ⟨g, 7, none⟩ vz) := by
  have hgl : g < w.heap.size := (Array.getElem?_eq_some_iff.1 hD.blk).1
  have hs := hB.size
  have hne : ∀ b, vz.ownBlock = some b → b ≠ g := fun b hb e => by have := hf b hb; omega
  refine ⟨⟨vz, ⟨?_, hO.same fun b hb => ?_⟩, Or.inr fun b hb => Nat.le_trans hs (hf b hb)⟩, ?_⟩
  · have h := set_block (o := 7) (v := vz) (set_block (o := 6) (v := .int .i64 r.x6) (set_block (o := 5) (v := .int .i64 r.x5) (set_block (o := 4) (v := .int .i64 r.x4) (set_block (o := 3) (v := .int .i64 r.x3) (set_block (o := 2) (v := .int .i64 r.x2) (set_block (o := 1) (v := .int .i64 r.x1) (set_block (o := 0) (v := .int .i64 r.x0) hG.blk)))))))
    simpa [cells8] using h
  · have hn := hne b hb
    rw [set_other hn, set_other hn, set_other hn, set_other hn, set_other hn, set_other hn, set_other hn, set_other hn]
  · have h1 : Turn w WF (foot g v) := (Turn.of_below hB).trans hT fun x hx => by
      rcases hx with hx | hx
      · exact Or.inr (hFb x hx)
      · exact Or.inr (Nat.le_trans hs hx)
    exact (((((((h1.setCell (Or.inl rfl) _).setCell (Or.inl rfl) _).setCell (Or.inl rfl) _).setCell (Or.inl rfl) _).setCell (Or.inl rfl) _).setCell (Or.inl rfl) _).setCell (Or.inl rfl) _).setCell (Or.inl rfl) _
set_option maxRecDepth 100000 in
set_option maxHeartbeats 0 in
theorem merge_any8 (w : World) (g1 g2 : Nat) (s1 s2 : C.Ds) (v1 v2 : Value) (h1 : DotsAt w g1 s1.c v1 s1.l) (h2 : DotsAt w g2 s2.c v2 s2.l) (hs1 : s1.Ok) (hs2 : s2.Ok) (hl : s1.l.length + s2.l.length ≤ 1000) :
    Calls Try.prog 24 #[.pointer (some ⟨g1, 0, none⟩), .pointer (some ⟨g2, 0, none⟩)] w fun e w' => e = .returned (.int .i64 0) ∧ AddRet w g1 v1 (C.mergeS s1 s2) w' := by
  have HD1 : Hid (DotsAt w g1 s1.c v1 s1.l) := h1
  have HD2 : Hid (DotsAt w g2 s2.c v2 s2.l) := h2
  have HS1 : Hid s1.Ok := hs1
  have HS2 : Hid s2.Ok := hs2
  have HL : Hid (s1.l.length + s2.l.length ≤ 1000) := hl
  obtain ⟨qa, ka, e1⟩ := h1.row.len
  obtain ⟨qb, kb, e2⟩ := h2.row.len
  generalize hna : s1.l.length = na at e1
  generalize hnb : s2.l.length = nb at e2
  subst e1 e2
  have x1 : w.drew.cell? ⟨g1, 7, none⟩ = some (.slice qa na ka) := (cells8_at h1.blk).2.2.2.2.2.2.2
  have x2 : w.drew.cell? ⟨g2, 7, none⟩ = some (.slice qb nb kb) := (cells8_at h2.blk).2.2.2.2.2.2.2
  have HX : Hid (Below w.heap.size w ((w.alloc (.cells #[.slice qa na ka, .slice qb nb kb] 37)).drew)) := (below_new w _).drew
  have C0 : Hid ((w.alloc (.cells #[.slice qa na ka, .slice qb nb kb] 37)).drew.cell? ⟨w.heap.size, 0, none⟩ = some (.slice qa na ka)) := (new_cell w #[.slice qa na ka, .slice qb nb kb] 37 _ 0 rfl).trans rfl
  have C1 : Hid ((w.alloc (.cells #[.slice qa na ka, .slice qb nb kb] 37)).drew.cell? ⟨w.heap.size, 1, none⟩ = some (.slice qb nb kb)) := (new_cell w #[.slice qa na ka, .slice qb nb kb] 37 _ 1 rfl).trans rfl
  clear h1 h2 hs1 hs2 hl hna hnb
  go_enter Try.func24, Try.ntmps24
  go_wp2_with fail
  have HSW : Hid (∀ w', Below w.heap.size w w' → w'.cell? ⟨g1, 7, none⟩ = some (.slice qa na ka) ∧ w'.cell? ⟨g2, 7, none⟩ = some (.slice qb nb kb)) := fun w' hb => ⟨(cells8_at (HD1.out.below hb).blk).2.2.2.2.2.2.2, (cells8_at (HD2.out.below hb).blk).2.2.2.2.2.2.2⟩
  clear x1 x2
  go_region_held_law (fun w' => w'.cell? ⟨g1, 7, none⟩ = some (.slice qa na ka) ∧ w'.cell? ⟨g2, 7, none⟩ = some (.slice qb nb kb))
    ((refine HSW.out _ ?_; repeat (first | exact Below.refl _ _ | exact HBH.out | refine Below.drew ?_ | refine Below.alloc ?_ (by simp) _)))
    ((go_at_call 48; refine (concatD_any w.heap.size _ _ s1.l s2.l (w.alloc (.cells #[.slice qa na ka, .slice qb nb kb] 37)).drew C0.out C1.out (HD1.out.below HX.out).row (HD2.out.below HX.out).row (by have := HL.out; omega) (by have := HL.out; omega)).mono ?_; rintro e w1 ⟨⟨vb, rfl, hb1, hb2⟩, hb3⟩; have HO1 : Hid (OwnD w1 vb (s1.l ++ s2.l)) := hb1; have HF1 : Hid (Fresh w vb) := fun b hb => Nat.le_trans HX.out.size (hb2 b hb); have HBH : Hid (Below w.heap.size w w1) := bt HX.out hb3; clear hb1 hb2 hb3))
  obtain ⟨qv, mv, cv, hvb⟩ := HO1.out.slice
  subst hvb
  clear HSW HX C0 C1
  go_wp2_with fail
  refine (sortD_any _ _ w1 HO1.out (by have := HL.out; rw [List.length_append]; omega)).mono ?_
  rintro e w2 ⟨rfl, ⟨l', hp1, hp2, hp3⟩, hgr⟩
  have HO2 : Hid (OwnD w2 (.slice qv mv cv) l') := hp1
  have HDD : Hid (C.dd l' = C.joinL s1.l s2.l) := C.dd_join HS1.out.up hp2 hp3
  have HLL : Hid (l'.length ≤ 1000) := by show _ ≤ _; rw [hp2.length_eq, List.length_append]; exact HL.out
  have HB2 : Hid (Below w.heap.size w w2) := bel_grown HBH.out hgr HF1.out
  clear hp1 hp2 hp3 hgr HO1 HBH
  obtain ⟨⟨x0, x1, x2, x3, x4, x5, x6⟩, l1⟩ := s1
  obtain ⟨⟨y0, y1, y2, y3, y4, y5, y6⟩, l2⟩ := s2
  have HDa : Hid (∀ W, Turn w2 W (ST (.slice qv mv cv) w2.heap.size) → DotsAt W g1 ⟨x0, x1, x2, x3, x4, x5, x6⟩ (.slice qa na ka) l1) := fun W hW => (HD1.out.below HB2.out).same fun b hb => hW.block b ((HD1.out.below HB2.out).lt hb) fun e => by
    have h2 := HD1.out.lt hb
    have h3 := HB2.out.size
    rcases e with e | e
    · have h1 := HF1.out b e; omega
    · omega
  have HDb : Hid (∀ W, Turn w2 W (ST (.slice qv mv cv) w2.heap.size) → DotsAt W g2 ⟨y0, y1, y2, y3, y4, y5, y6⟩ (.slice qb nb kb) l2) := fun W hW => (HD2.out.below HB2.out).same fun b hb => hW.block b ((HD2.out.below HB2.out).lt hb) fun e => by
    have h2 := HD2.out.lt hb
    have h3 := HB2.out.size
    rcases e with e | e
    · have h1 := HF1.out b e; omega
    · omega
  obtain ⟨R, hR⟩ : ∃ R, R = C.settleL (C.mrg ⟨x0, x1, x2, x3, x4, x5, x6⟩ ⟨y0, y1, y2, y3, y4, y5, y6⟩) (C.dd l') := ⟨_, rfl⟩
  have HR : Hid (R = C.settleL (C.mrg ⟨x0, x1, x2, x3, x4, x5, x6⟩ ⟨y0, y1, y2, y3, y4, y5, y6⟩) (C.dd l')) := hR
  have HMS : Hid (C.mergeS ⟨⟨x0, x1, x2, x3, x4, x5, x6⟩, l1⟩ ⟨⟨y0, y1, y2, y3, y4, y5, y6⟩, l2⟩ = ⟨R.1, R.2⟩) := by show _ = _; rw [hR, HDD.out]; rfl
  have HRL : Hid (R.2.length ≤ 1000) := by
    have h1 := C.merge_len ⟨⟨x0, x1, x2, x3, x4, x5, x6⟩, l1⟩ ⟨⟨y0, y1, y2, y3, y4, y5, y6⟩, l2⟩
    rw [HMS.out] at h1
    exact Nat.le_trans h1 HL.out
  obtain ⟨M, hM⟩ : ∃ M, M = C.mrg ⟨x0, x1, x2, x3, x4, x5, x6⟩ ⟨y0, y1, y2, y3, y4, y5, y6⟩ := ⟨_, rfl⟩
  have HVM : Hid (∀ W, Calls Try.prog 52 #[.agg #[.int .i64 x0, .int .i64 x1, .int .i64 x2, .int .i64 x3, .int .i64 x4, .int .i64 x5, .int .i64 x6], .agg #[.int .i64 y0, .int .i64 y1, .int .i64 y2, .int .i64 y3, .int .i64 y4, .int .i64 y5, .int .i64 y6]] W fun e w' => e = .returned M.v ∧ Below W.heap.size W w') := fun W => merge_at hM.symm W
  have HSE : Hid (∀ (v : Value) W, OwnD W v (C.dd l') → Calls Try.prog 51 #[M.v, v] W fun e w' => (∃ q m c, e = .returned (.tuple #[R.1.v, .slice q m c]) ∧ m = R.2.length ∧ OwnD w' (.slice q m c) R.2 ∧ Fresh W (.slice q m c)) ∧ Below W.heap.size W w') := fun v W hW => by
    refine (settle_any M v (C.dd l') W hW ?_ ?_ ?_).mono ?_
    · rw [HDD.out]
      have h1 := C.join_len l2 l1
      have h2 := HL.out
      simp only at h2 ⊢
      omega
    · rw [hM]; exact C.good_mrg HS1.out.good HS2.out.good
    · rw [HDD.out]; exact C.merge_may HS1.out HS2.out
    · rintro e w' ⟨⟨v', rfl, h1, h2⟩, h3⟩
      rw [← hM] at hR
      rw [← hR] at h1 ⊢
      obtain ⟨q, c, rfl⟩ := h1.len
      exact ⟨⟨q, _, c, rfl, rfl, h1, h2⟩, h3⟩
  clear hR hM
  obtain ⟨m0, m1, m2, m3, m4, m5, m6⟩ := M
  simp only [V7.v] at HVM HSE
  obtain ⟨⟨r0, r1, r2, r3, r4, r5, r6⟩, lr⟩ := R
  simp only at HSE HMS HRL
  have HSW2 : Hid (∀ w', Turn w2 w' (ST (.slice qv mv cv) w2.heap.size) → w'.cell? ⟨g1, 0, none⟩ = some (.int .i64 x0) ∧ w'.cell? ⟨g1, 1, none⟩ = some (.int .i64 x1) ∧ w'.cell? ⟨g1, 2, none⟩ = some (.int .i64 x2) ∧ w'.cell? ⟨g1, 3, none⟩ = some (.int .i64 x3) ∧ w'.cell? ⟨g1, 4, none⟩ = some (.int .i64 x4) ∧ w'.cell? ⟨g1, 5, none⟩ = some (.int .i64 x5) ∧ w'.cell? ⟨g1, 6, none⟩ = some (.int .i64 x6) ∧ w'.cell? ⟨g2, 0, none⟩ = some (.int .i64 y0) ∧ w'.cell? ⟨g2, 1, none⟩ = some (.int .i64 y1) ∧ w'.cell? ⟨g2, 2, none⟩ = some (.int .i64 y2) ∧ w'.cell? ⟨g2, 3, none⟩ = some (.int .i64 y3) ∧ w'.cell? ⟨g2, 4, none⟩ = some (.int .i64 y4) ∧ w'.cell? ⟨g2, 5, none⟩ = some (.int .i64 y5) ∧ w'.cell? ⟨g2, 6, none⟩ = some (.int .i64 y6)) := fun w' hT => by
    obtain ⟨a0, a1, a2, a3, a4, a5, a6, -⟩ := cells8_at (HDa.out w' hT).blk
    obtain ⟨b0, b1, b2, b3, b4, b5, b6, -⟩ := cells8_at (HDb.out w' hT).blk
    exact ⟨a0, a1, a2, a3, a4, a5, a6, b0, b1, b2, b3, b4, b5, b6⟩
  go_wp2_with fail
  have hC : ∃ n : TurnW w2 (.slice qv mv cv), w2.drew = n.W := ⟨⟨w2.drew, (Turn.refl _ _).drew⟩, rfl⟩
  have z0 : ∀ n : TurnW w2 (.slice qv mv cv), n.W.cell? ⟨g1, 0, none⟩ = some (.int .i64 x0) := fun n => (HSW2.out n.W n.h).1
  have z1 : ∀ n : TurnW w2 (.slice qv mv cv), n.W.cell? ⟨g1, 1, none⟩ = some (.int .i64 x1) := fun n => (HSW2.out n.W n.h).2.1
  have z2 : ∀ n : TurnW w2 (.slice qv mv cv), n.W.cell? ⟨g1, 2, none⟩ = some (.int .i64 x2) := fun n => (HSW2.out n.W n.h).2.2.1
  have z3 : ∀ n : TurnW w2 (.slice qv mv cv), n.W.cell? ⟨g1, 3, none⟩ = some (.int .i64 x3) := fun n => (HSW2.out n.W n.h).2.2.2.1
  have z4 : ∀ n : TurnW w2 (.slice qv mv cv), n.W.cell? ⟨g1, 4, none⟩ = some (.int .i64 x4) := fun n => (HSW2.out n.W n.h).2.2.2.2.1
  have z5 : ∀ n : TurnW w2 (.slice qv mv cv), n.W.cell? ⟨g1, 5, none⟩ = some (.int .i64 x5) := fun n => (HSW2.out n.W n.h).2.2.2.2.2.1
  have z6 : ∀ n : TurnW w2 (.slice qv mv cv), n.W.cell? ⟨g1, 6, none⟩ = some (.int .i64 x6) := fun n => (HSW2.out n.W n.h).2.2.2.2.2.2.1
  have z7 : ∀ n : TurnW w2 (.slice qv mv cv), n.W.cell? ⟨g2, 0, none⟩ = some (.int .i64 y0) := fun n => (HSW2.out n.W n.h).2.2.2.2.2.2.2.1
  have z8 : ∀ n : TurnW w2 (.slice qv mv cv), n.W.cell? ⟨g2, 1, none⟩ = some (.int .i64 y1) := fun n => (HSW2.out n.W n.h).2.2.2.2.2.2.2.2.1
  have z9 : ∀ n : TurnW w2 (.slice qv mv cv), n.W.cell? ⟨g2, 2, none⟩ = some (.int .i64 y2) := fun n => (HSW2.out n.W n.h).2.2.2.2.2.2.2.2.2.1
  have z10 : ∀ n : TurnW w2 (.slice qv mv cv), n.W.cell? ⟨g2, 3, none⟩ = some (.int .i64 y3) := fun n => (HSW2.out n.W n.h).2.2.2.2.2.2.2.2.2.2.1
  have z11 : ∀ n : TurnW w2 (.slice qv mv cv), n.W.cell? ⟨g2, 4, none⟩ = some (.int .i64 y4) := fun n => (HSW2.out n.W n.h).2.2.2.2.2.2.2.2.2.2.2.1
  have z12 : ∀ n : TurnW w2 (.slice qv mv cv), n.W.cell? ⟨g2, 5, none⟩ = some (.int .i64 y5) := fun n => (HSW2.out n.W n.h).2.2.2.2.2.2.2.2.2.2.2.2.1
  have z13 : ∀ n : TurnW w2 (.slice qv mv cv), n.W.cell? ⟨g2, 6, none⟩ = some (.int .i64 y6) := fun n => (HSW2.out n.W n.h).2.2.2.2.2.2.2.2.2.2.2.2.2
  have hno : Nonempty (TurnW w2 (.slice qv mv cv)) := ⟨⟨w2.drew, (Turn.refl _ _).drew⟩⟩
  refine wp_region_held_drew (S := fun w' => ∃ n : TurnW w2 (.slice qv mv cv), w' = n.W) (by kernel_rfl) hC (fun _ => ?_)
  refine takeList (i := 0) rfl (by kernel_rfl) (by kernel_rfl) (by kernel_rfl) (fun _ _ _ _ h => h) rfl rfl hC (fun K hK => ?_)
  go_big_quiet_op
  refine hK _ ?_
  clear hK K
  refine takeNil (i := 1) rfl rfl rfl (by kernel_rfl) (by kernel_rfl) (by kernel_rfl) (fun _ _ _ _ h => h) rfl hC ?_
  go_simp
  refine takeList (i := 2) rfl (by kernel_rfl) (by kernel_rfl) (by kernel_rfl) (fun _ _ _ _ h => h) rfl rfl hC (fun K hK => ?_)
  go_big_quiet_op
  refine hK _ ?_
  clear hK K
  refine takeList (i := 3) rfl (by kernel_rfl) (by kernel_rfl) (by kernel_rfl) (fun _ _ _ _ h => h) rfl rfl hC (fun K hK => ?_)
  go_big_quiet_op
  refine hK _ ?_
  clear hK K
  refine takeList (i := 4) rfl (by kernel_rfl) (by kernel_rfl) (by kernel_rfl) (fun _ _ _ _ h => h) rfl rfl hC (fun K hK => ?_)
  go_big_quiet_op
  refine hK _ ?_
  clear hK K
  refine takeNil (i := 5) rfl rfl rfl (by kernel_rfl) (by kernel_rfl) (by kernel_rfl) (fun _ _ _ _ h => h) rfl hC ?_
  go_simp
  refine takeList (i := 6) rfl (by kernel_rfl) (by kernel_rfl) (by kernel_rfl) (fun _ _ _ _ h => h) rfl rfl hC (fun K hK => ?_)
  go_big_quiet_op
  refine hK _ ?_
  clear hK K
  refine takeList (i := 7) rfl (by kernel_rfl) (by kernel_rfl) (by kernel_rfl) (fun _ _ _ _ h => h) rfl rfl hC (fun K hK => ?_)
  go_big_quiet_op
  refine hK _ ?_
  clear hK K
  refine takeList (i := 9) rfl (by kernel_rfl) (by kernel_rfl) (by kernel_rfl) (fun _ _ _ _ h => h) rfl rfl hC (fun K hK => ?_)
  go_big_quiet_op
  refine hK _ ?_
  clear hK K
  clear z0 z1 z2 z3 z4 z5 z6 z7 z8 z9 z10 z11 z12 z13
  have hT : Turn w2 w2.drew (ST (.slice qv mv cv) w2.heap.size) := (Turn.refl _ _).drew
  have hB : Below w2.heap.size w2 w2.drew := bref_drew w2
  refine wpAnyH_ready (rs := [8, 15]) (by kernel_rfl) (by simp) (AllReadyH.cons (at_of_drop (i := 8) rfl) (fun K hK => ?_) (AllReadyH.cons (at_of_drop (i := 15) rfl) (fun K hK => ?_) AllReadyH.nil))
  · rw [if_pos (by rfl)]
    go_simp
    refine (HVM.out _).mono ?_
    rintro e w3 ⟨rfl, h3⟩
    replace hT := Turn.trans (T := ST (.slice qv mv cv) w2.heap.size) hT (Turn.of_below h3) (fun x hx => Or.inl hx)
    replace hB := bt hB h3
    refine hK.out _ _ ⟨⟨_, hT⟩, rfl⟩ (fun hC => ?_)
    clear hK K h3
    refine wpAnyH_ready (rs := [10, 15]) (by kernel_rfl) (by simp) (AllReadyH.cons (at_of_drop (i := 10) rfl) (fun K hK => ?_) (AllReadyH.cons (at_of_drop (i := 15) rfl) (fun K hK => ?_) AllReadyH.nil))
    · rw [if_pos (by rfl)]
      go_simp
      refine (compactW HO2.out (by have := HLL.out; omega) hB hT).mono ?_
      rintro e w4 ⟨q4, n4, c4, rfl, hc1, hT4, hsz4, hfw4⟩
      replace hT := hT4
      refine hK.out _ _ ⟨⟨_, hT⟩, rfl⟩ (fun hC => ?_)
      clear hK K hB hT4 hsz4 hfw4
      refine wpAnyH_ready (rs := [11, 15]) (by kernel_rfl) (by simp) (AllReadyH.cons (at_of_drop (i := 11) rfl) (fun K hK => ?_) (AllReadyH.cons (at_of_drop (i := 15) rfl) (fun K hK => ?_) AllReadyH.nil))
      · rw [if_pos (by rfl)]
        go_simp
        refine (HSE.out _ _ hc1).mono ?_
        rintro e w5 ⟨⟨q5, n5, c5, rfl, hn5, ho5, hf5⟩, hb5⟩
        subst hn5
        replace hf5 : Fresh w2 (.slice q5 lr.length c5) := fun b hb => Nat.le_trans hT.size (hf5 b hb)
        replace hT := Turn.trans (T := ST (.slice qv mv cv) w2.heap.size) hT (Turn.of_below hb5) (fun x hx => Or.inl hx)
        refine hK.out _ _ ⟨⟨_, hT⟩, rfl⟩ (fun hC => ?_)
        clear hK K hc1 hb5
        refine takeList (i := 12) rfl (by kernel_rfl) (by kernel_rfl) (by kernel_rfl) (fun _ _ _ _ h => h) rfl rfl hC (fun K hK => ?_)
        go_big_quiet_op
        refine hK _ ?_
        clear hK K
        refine takeList (i := 13) rfl (by kernel_rfl) (by kernel_rfl) (by kernel_rfl) (fun _ _ _ _ h => h) rfl rfl hC (fun K hK => ?_)
        go_big_quiet_op
        refine hK _ ?_
        clear hK K
        refine takeList (i := 14) rfl (by kernel_rfl) (by kernel_rfl) (by kernel_rfl) (fun _ _ _ _ h => h) rfl rfl hC (fun K hK => ?_)
        go_big_quiet_op
        refine hK _ ?_
        clear hK K
        refine callList (i := 15) rfl (by kernel_rfl) rfl (fun K hK => ?_)
        go_simp
        have hz := heap_alloc_new w5 (.cells #[.int .i64 0, .int .i64 0, .int .i64 0, .int .i64 0, .int .i64 0, .int .i64 0, .int .i64 0] 43)
        have hal := below_new w5 (.cells #[.int .i64 0, .int .i64 0, .int .i64 0, .int .i64 0, .int .i64 0, .int .i64 0, .int .i64 0] 43)
        have hzb : w2.heap.size ≤ w5.heap.size := hT.size
        have hne : ∀ b, (Value.slice q5 lr.length c5).ownBlock = some b → b ≠ w5.heap.size := fun b hb e => by have h1 := row_lt ho5 hb; omega
        replace ho5 := ho5.below hal
        replace hT := hT.alloc (.cells #[.int .i64 0, .int .i64 0, .int .i64 0, .int .i64 0, .int .i64 0, .int .i64 0, .int .i64 0] 43)
        refine hK.out _ _ ⟨⟨_, hT⟩, rfl⟩ ?_
        generalize hWA : World.alloc w5 (.cells #[.int .i64 0, .int .i64 0, .int .i64 0, .int .i64 0, .int .i64 0, .int .i64 0, .int .i64 0] 43) = WA at *
        generalize w5.heap.size = zb at *
        clear hK K hal hWA
        have hC : ∃ n : TurnW w2 (.slice qv mv cv), WA = n.W := ⟨⟨_, hT⟩, rfl⟩
        obtain ⟨⟨k0, k1, k2, k3, k4, k5, k6⟩, f0, f1, f2, f3, f4, f5, f6⟩ := zfacts hz
        refine callList (i := 16) rfl (by kernel_rfl) rfl (fun K hK => ?_)
        go_simp
        generalize hWF : World.setCell _ _ _ = WF
        have hTF : Turn w2 WF (ST (.slice qv mv cv) w2.heap.size) := by
          rw [← hWF]
          iterate 7 refine Turn.setCell (b := zb) ?_ (Or.inr hzb) _
          exact hT
        have hqF : WF.heap[zb]? = some (.cells (cells7 ⟨r0, r1, r2, r3, r4, r5, r6⟩) 43) := by
          rw [← hWF]
          exact (set_block (set_block (set_block (set_block (set_block (set_block (set_block hz)))))))
        have hoF : OwnD WF (.slice q5 lr.length c5) lr := ho5.same fun b hb => by
          have hn := hne b hb
          rw [← hWF, set_other hn, set_other hn, set_other hn, set_other hn, set_other hn, set_other hn, set_other hn]
        clear hWF hT ho5 hz hne k0 k1 k2 k3 k4 k5 k6 f0 f1 f2 f3 f4 f5 f6
        refine hK.out _ _ ⟨⟨WF, hTF⟩, rfl⟩ ?_
        clear hK K hC
        have hC : ∃ n : TurnW w2 (.slice qv mv cv), WF = n.W := ⟨⟨WF, hTF⟩, rfl⟩
        refine takeList (i := 17) rfl (by kernel_rfl) (by kernel_rfl) (by kernel_rfl) (fun _ _ _ _ h => h) rfl rfl hC (fun K hK => ?_)
        go_big_quiet_op
        refine hK _ ?_
        clear hK K hC hno
        refine wpAnyH_done (by kernel_rfl) ?_ _
        have HqF : Hid (WF.heap[zb]? = some (.cells (cells7 ⟨r0, r1, r2, r3, r4, r5, r6⟩) 43)) := hqF
        have HoF : Hid (OwnD WF (.slice q5 lr.length c5) lr) := hoF
        have HTF : Hid (Turn w2 WF (ST (.slice qv mv cv) w2.heap.size)) := hTF
        have Hf5 : Hid (Fresh w2 (.slice q5 lr.length c5)) := hf5
        have HgF : Hid (DotsAt WF g1 ⟨x0, x1, x2, x3, x4, x5, x6⟩ (.slice qa na ka) l1) := HDa.out WF hTF
        have hle : (lr.length : Int) ≤ 1000 := by have := HRL.out; omega
        obtain ⟨b0, b1, b2, b3, b4, b5, b6⟩ := box7 hqF
        obtain ⟨c0', c1', c2', c3', c4', c5', c6', c7'⟩ := cells8_at HgF.out.blk
        obtain ⟨f0, f1, f2, f3, f4, f5, f6, f7⟩ : WF.frozen? ⟨g1, 0, none⟩ = false ∧ WF.frozen? ⟨g1, 1, none⟩ = false ∧ WF.frozen? ⟨g1, 2, none⟩ = false ∧ WF.frozen? ⟨g1, 3, none⟩ = false ∧ WF.frozen? ⟨g1, 4, none⟩ = false ∧ WF.frozen? ⟨g1, 5, none⟩ = false ∧ WF.frozen? ⟨g1, 6, none⟩ = false ∧ WF.frozen? ⟨g1, 7, none⟩ = false := by simp [World.frozen?, HgF.out.blk]
        clear hqF hoF hTF hf5
        go_wp2_with fail
        go_ret
        exact ⟨rfl, by rw [HMS.out]; exact merge_fin (r := ⟨r0, r1, r2, r3, r4, r5, r6⟩) HD1.out HB2.out HF1.out HTF.out HgF.out HoF.out Hf5.out⟩
      · rw [if_pos (by rfl)]
        go_simp
        have hz := heap_alloc_new w4 (.cells #[.int .i64 0, .int .i64 0, .int .i64 0, .int .i64 0, .int .i64 0, .int .i64 0, .int .i64 0] 43)
        have hal := below_new w4 (.cells #[.int .i64 0, .int .i64 0, .int .i64 0, .int .i64 0, .int .i64 0, .int .i64 0, .int .i64 0] 43)
        have hzb : w2.heap.size ≤ w4.heap.size := hT.size
        replace hc1 := hc1.below hal
        replace hT := hT.alloc (.cells #[.int .i64 0, .int .i64 0, .int .i64 0, .int .i64 0, .int .i64 0, .int .i64 0, .int .i64 0] 43)
        refine hK.out _ _ ⟨⟨_, hT⟩, rfl⟩ (fun hC => ?_)
        generalize hWA : World.alloc w4 (.cells #[.int .i64 0, .int .i64 0, .int .i64 0, .int .i64 0, .int .i64 0, .int .i64 0, .int .i64 0] 43) = WA at *
        generalize w4.heap.size = zb at *
        clear hK K hal hWA
        refine callList (i := 11) rfl (by kernel_rfl) rfl (fun K hK => ?_)
        go_simp
        refine (HSE.out _ _ hc1).mono ?_
        rintro e w5 ⟨⟨q5, n5, c5, rfl, hn5, ho5, hf5⟩, hb5⟩
        subst hn5
        have hne : ∀ b, (Value.slice q5 lr.length c5).ownBlock = some b → b ≠ zb := fun b hb e => by have h1 := hf5 b hb; have h2 := (Array.getElem?_eq_some_iff.1 hz).1; omega
        replace hz := keep_on hb5 hz
        replace hf5 : Fresh w2 (.slice q5 lr.length c5) := fun b hb => Nat.le_trans hT.size (hf5 b hb)
        replace hT := Turn.trans (T := ST (.slice qv mv cv) w2.heap.size) hT (Turn.of_below hb5) (fun x hx => Or.inl hx)
        refine hK.out _ _ ⟨⟨_, hT⟩, rfl⟩ ?_
        clear hK K hc1 hb5
        have hC : ∃ n : TurnW w2 (.slice qv mv cv), w5 = n.W := ⟨⟨_, hT⟩, rfl⟩
        refine takeList (i := 12) rfl (by kernel_rfl) (by kernel_rfl) (by kernel_rfl) (fun _ _ _ _ h => h) rfl rfl hC (fun K hK => ?_)
        go_big_quiet_op
        refine hK _ ?_
        clear hK K
        refine takeList (i := 13) rfl (by kernel_rfl) (by kernel_rfl) (by kernel_rfl) (fun _ _ _ _ h => h) rfl rfl hC (fun K hK => ?_)
        go_big_quiet_op
        refine hK _ ?_
        clear hK K
        refine takeList (i := 14) rfl (by kernel_rfl) (by kernel_rfl) (by kernel_rfl) (fun _ _ _ _ h => h) rfl rfl hC (fun K hK => ?_)
        go_big_quiet_op
        refine hK _ ?_
        clear hK K
        obtain ⟨⟨k0, k1, k2, k3, k4, k5, k6⟩, f0, f1, f2, f3, f4, f5, f6⟩ := zfacts hz
        refine callList (i := 16) rfl (by kernel_rfl) rfl (fun K hK => ?_)
        go_simp
        generalize hWF : World.setCell _ _ _ = WF
        have hTF : Turn w2 WF (ST (.slice qv mv cv) w2.heap.size) := by
          rw [← hWF]
          iterate 7 refine Turn.setCell (b := zb) ?_ (Or.inr hzb) _
          exact hT
        have hqF : WF.heap[zb]? = some (.cells (cells7 ⟨r0, r1, r2, r3, r4, r5, r6⟩) 43) := by
          rw [← hWF]
          exact (set_block (set_block (set_block (set_block (set_block (set_block (set_block hz)))))))
        have hoF : OwnD WF (.slice q5 lr.length c5) lr := ho5.same fun b hb => by
          have hn := hne b hb
          rw [← hWF, set_other hn, set_other hn, set_other hn, set_other hn, set_other hn, set_other hn, set_other hn]
        clear hWF hT ho5 hz hne k0 k1 k2 k3 k4 k5 k6 f0 f1 f2 f3 f4 f5 f6
        refine hK.out _ _ ⟨⟨WF, hTF⟩, rfl⟩ ?_
        clear hK K hC
        have hC : ∃ n : TurnW w2 (.slice qv mv cv), WF = n.W := ⟨⟨WF, hTF⟩, rfl⟩
        refine takeList (i := 17) rfl (by kernel_rfl) (by kernel_rfl) (by kernel_rfl) (fun _ _ _ _ h => h) rfl rfl hC (fun K hK => ?_)
        go_big_quiet_op
        refine hK _ ?_
        clear hK K hC hno
        refine wpAnyH_done (by kernel_rfl) ?_ _
        have HqF : Hid (WF.heap[zb]? = some (.cells (cells7 ⟨r0, r1, r2, r3, r4, r5, r6⟩) 43)) := hqF
        have HoF : Hid (OwnD WF (.slice q5 lr.length c5) lr) := hoF
        have HTF : Hid (Turn w2 WF (ST (.slice qv mv cv) w2.heap.size)) := hTF
        have Hf5 : Hid (Fresh w2 (.slice q5 lr.length c5)) := hf5
        have HgF : Hid (DotsAt WF g1 ⟨x0, x1, x2, x3, x4, x5, x6⟩ (.slice qa na ka) l1) := HDa.out WF hTF
        have hle : (lr.length : Int) ≤ 1000 := by have := HRL.out; omega
        obtain ⟨b0, b1, b2, b3, b4, b5, b6⟩ := box7 hqF
        obtain ⟨c0', c1', c2', c3', c4', c5', c6', c7'⟩ := cells8_at HgF.out.blk
        obtain ⟨f0, f1, f2, f3, f4, f5, f6, f7⟩ : WF.frozen? ⟨g1, 0, none⟩ = false ∧ WF.frozen? ⟨g1, 1, none⟩ = false ∧ WF.frozen? ⟨g1, 2, none⟩ = false ∧ WF.frozen? ⟨g1, 3, none⟩ = false ∧ WF.frozen? ⟨g1, 4, none⟩ = false ∧ WF.frozen? ⟨g1, 5, none⟩ = false ∧ WF.frozen? ⟨g1, 6, none⟩ = false ∧ WF.frozen? ⟨g1, 7, none⟩ = false := by simp [World.frozen?, HgF.out.blk]
        clear hqF hoF hTF hf5
        go_wp2_with fail
        go_ret
        exact ⟨rfl, by rw [HMS.out]; exact merge_fin (r := ⟨r0, r1, r2, r3, r4, r5, r6⟩) HD1.out HB2.out HF1.out HTF.out HgF.out HoF.out Hf5.out⟩
    · rw [if_pos (by rfl)]
      go_simp
      have hz := heap_alloc_new w3 (.cells #[.int .i64 0, .int .i64 0, .int .i64 0, .int .i64 0, .int .i64 0, .int .i64 0, .int .i64 0] 43)
      have hal := below_new w3 (.cells #[.int .i64 0, .int .i64 0, .int .i64 0, .int .i64 0, .int .i64 0, .int .i64 0, .int .i64 0] 43)
      have hzb : w2.heap.size ≤ w3.heap.size := hT.size
      replace hT := hT.alloc (.cells #[.int .i64 0, .int .i64 0, .int .i64 0, .int .i64 0, .int .i64 0, .int .i64 0, .int .i64 0] 43)
      replace hB := bt hB hal
      refine hK.out _ _ ⟨⟨_, hT⟩, rfl⟩ (fun hC => ?_)
      generalize hWA : World.alloc w3 (.cells #[.int .i64 0, .int .i64 0, .int .i64 0, .int .i64 0, .int .i64 0, .int .i64 0, .int .i64 0] 43) = WA at *
      generalize w3.heap.size = zb at *
      clear hK K hal hWA
      refine callList (i := 10) rfl (by kernel_rfl) rfl (fun K hK => ?_)
      go_simp
      refine (compactW HO2.out (by have := HLL.out; omega) hB hT).mono ?_
      rintro e w4 ⟨q4, n4, c4, rfl, hc1, hT4, hsz4, hfw4⟩
      replace hz := hfw4 _ _ _ hz
      replace hT := hT4
      refine hK.out _ _ ⟨⟨_, hT⟩, rfl⟩ ?_
      clear hK K hB hT4 hsz4 hfw4
      have hC : ∃ n : TurnW w2 (.slice qv mv cv), w4 = n.W := ⟨⟨_, hT⟩, rfl⟩
      refine callList (i := 11) rfl (by kernel_rfl) rfl (fun K hK => ?_)
      go_simp
      refine (HSE.out _ _ hc1).mono ?_
      rintro e w5 ⟨⟨q5, n5, c5, rfl, hn5, ho5, hf5⟩, hb5⟩
      subst hn5
      have hne : ∀ b, (Value.slice q5 lr.length c5).ownBlock = some b → b ≠ zb := fun b hb e => by have h1 := hf5 b hb; have h2 := (Array.getElem?_eq_some_iff.1 hz).1; omega
      replace hz := keep_on hb5 hz
      replace hf5 : Fresh w2 (.slice q5 lr.length c5) := fun b hb => Nat.le_trans hT.size (hf5 b hb)
      replace hT := Turn.trans (T := ST (.slice qv mv cv) w2.heap.size) hT (Turn.of_below hb5) (fun x hx => Or.inl hx)
      refine hK.out _ _ ⟨⟨_, hT⟩, rfl⟩ ?_
      clear hK K hc1 hb5
      have hC : ∃ n : TurnW w2 (.slice qv mv cv), w5 = n.W := ⟨⟨_, hT⟩, rfl⟩
      refine takeList (i := 12) rfl (by kernel_rfl) (by kernel_rfl) (by kernel_rfl) (fun _ _ _ _ h => h) rfl rfl hC (fun K hK => ?_)
      go_big_quiet_op
      refine hK _ ?_
      clear hK K
      refine takeList (i := 13) rfl (by kernel_rfl) (by kernel_rfl) (by kernel_rfl) (fun _ _ _ _ h => h) rfl rfl hC (fun K hK => ?_)
      go_big_quiet_op
      refine hK _ ?_
      clear hK K
      refine takeList (i := 14) rfl (by kernel_rfl) (by kernel_rfl) (by kernel_rfl) (fun _ _ _ _ h => h) rfl rfl hC (fun K hK => ?_)
      go_big_quiet_op
      refine hK _ ?_
      clear hK K
      obtain ⟨⟨k0, k1, k2, k3, k4, k5, k6⟩, f0, f1, f2, f3, f4, f5, f6⟩ := zfacts hz
      refine callList (i := 16) rfl (by kernel_rfl) rfl (fun K hK => ?_)
      go_simp
      generalize hWF : World.setCell _ _ _ = WF
      have hTF : Turn w2 WF (ST (.slice qv mv cv) w2.heap.size) := by
        rw [← hWF]
        iterate 7 refine Turn.setCell (b := zb) ?_ (Or.inr hzb) _
        exact hT
      have hqF : WF.heap[zb]? = some (.cells (cells7 ⟨r0, r1, r2, r3, r4, r5, r6⟩) 43) := by
        rw [← hWF]
        exact (set_block (set_block (set_block (set_block (set_block (set_block (set_block hz)))))))
      have hoF : OwnD WF (.slice q5 lr.length c5) lr := ho5.same fun b hb => by
        have hn := hne b hb
        rw [← hWF, set_other hn, set_other hn, set_other hn, set_other hn, set_other hn, set_other hn, set_other hn]
      clear hWF hT ho5 hz hne k0 k1 k2 k3 k4 k5 k6 f0 f1 f2 f3 f4 f5 f6
      refine hK.out _ _ ⟨⟨WF, hTF⟩, rfl⟩ ?_
      clear hK K hC
      have hC : ∃ n : TurnW w2 (.slice qv mv cv), WF = n.W := ⟨⟨WF, hTF⟩, rfl⟩
      refine takeList (i := 17) rfl (by kernel_rfl) (by kernel_rfl) (by kernel_rfl) (fun _ _ _ _ h => h) rfl rfl hC (fun K hK => ?_)
      go_big_quiet_op
      refine hK _ ?_
      clear hK K hC hno
      refine wpAnyH_done (by kernel_rfl) ?_ _
      have HqF : Hid (WF.heap[zb]? = some (.cells (cells7 ⟨r0, r1, r2, r3, r4, r5, r6⟩) 43)) := hqF
      have HoF : Hid (OwnD WF (.slice q5 lr.length c5) lr) := hoF
      have HTF : Hid (Turn w2 WF (ST (.slice qv mv cv) w2.heap.size)) := hTF
      have Hf5 : Hid (Fresh w2 (.slice q5 lr.length c5)) := hf5
      have HgF : Hid (DotsAt WF g1 ⟨x0, x1, x2, x3, x4, x5, x6⟩ (.slice qa na ka) l1) := HDa.out WF hTF
      have hle : (lr.length : Int) ≤ 1000 := by have := HRL.out; omega
      obtain ⟨b0, b1, b2, b3, b4, b5, b6⟩ := box7 hqF
      obtain ⟨c0', c1', c2', c3', c4', c5', c6', c7'⟩ := cells8_at HgF.out.blk
      obtain ⟨f0, f1, f2, f3, f4, f5, f6, f7⟩ : WF.frozen? ⟨g1, 0, none⟩ = false ∧ WF.frozen? ⟨g1, 1, none⟩ = false ∧ WF.frozen? ⟨g1, 2, none⟩ = false ∧ WF.frozen? ⟨g1, 3, none⟩ = false ∧ WF.frozen? ⟨g1, 4, none⟩ = false ∧ WF.frozen? ⟨g1, 5, none⟩ = false ∧ WF.frozen? ⟨g1, 6, none⟩ = false ∧ WF.frozen? ⟨g1, 7, none⟩ = false := by simp [World.frozen?, HgF.out.blk]
      clear hqF hoF hTF hf5
      go_wp2_with fail
      go_ret
      exact ⟨rfl, by rw [HMS.out]; exact merge_fin (r := ⟨r0, r1, r2, r3, r4, r5, r6⟩) HD1.out HB2.out HF1.out HTF.out HgF.out HoF.out Hf5.out⟩
  · rw [if_pos (by rfl)]
    go_simp
    obtain ⟨zb, hzbe⟩ : ∃ zb, zb = w2.heap.size := ⟨_, rfl⟩
    have hz : (World.alloc w2 (.cells #[.int .i64 0, .int .i64 0, .int .i64 0, .int .i64 0, .int .i64 0, .int .i64 0, .int .i64 0] 43)).drew.heap[zb]? = some (.cells #[.int .i64 0, .int .i64 0, .int .i64 0, .int .i64 0, .int .i64 0, .int .i64 0, .int .i64 0] 43) := by rw [hzbe]; exact new_drew w2 (.cells #[.int .i64 0, .int .i64 0, .int .i64 0, .int .i64 0, .int .i64 0, .int .i64 0, .int .i64 0] 43)
    have hzb : w2.heap.size ≤ zb := by omega
    replace hT : Turn w2 (World.alloc w2 (.cells #[.int .i64 0, .int .i64 0, .int .i64 0, .int .i64 0, .int .i64 0, .int .i64 0, .int .i64 0] 43)).drew (ST (.slice qv mv cv) w2.heap.size) := ((Turn.refl _ _).alloc _).drew
    replace hB := bnew_drew w2 (.cells #[.int .i64 0, .int .i64 0, .int .i64 0, .int .i64 0, .int .i64 0, .int .i64 0, .int .i64 0] 43)
    refine hK.out _ _ ⟨⟨_, hT⟩, rfl⟩ (fun hC => ?_)
    rw [← hzbe]
    clear hzbe
    generalize hWA : (World.alloc w2 (.cells #[.int .i64 0, .int .i64 0, .int .i64 0, .int .i64 0, .int .i64 0, .int .i64 0, .int .i64 0] 43)).drew = WA at *
    clear hK K hWA
    refine callList (i := 8) rfl (by kernel_rfl) rfl (fun K hK => ?_)
    go_simp
    refine (HVM.out _).mono ?_
    rintro e w3 ⟨rfl, h3⟩
    replace hz := keep_on h3 hz
    have hzb3 := hzb
    replace hT := Turn.trans (T := ST (.slice qv mv cv) w2.heap.size) hT (Turn.of_below h3) (fun x hx => Or.inl hx)
    replace hB := bt hB h3
    refine hK.out _ _ ⟨⟨_, hT⟩, rfl⟩ ?_
    clear hK K h3
    have hC : ∃ n : TurnW w2 (.slice qv mv cv), w3 = n.W := ⟨⟨_, hT⟩, rfl⟩
    refine callList (i := 10) rfl (by kernel_rfl) rfl (fun K hK => ?_)
    go_simp
    refine (compactW HO2.out (by have := HLL.out; omega) hB hT).mono ?_
    rintro e w4 ⟨q4, n4, c4, rfl, hc1, hT4, hsz4, hfw4⟩
    replace hz := hfw4 _ _ _ hz
    replace hT := hT4
    refine hK.out _ _ ⟨⟨_, hT⟩, rfl⟩ ?_
    clear hK K hB hT4 hsz4 hfw4
    have hC : ∃ n : TurnW w2 (.slice qv mv cv), w4 = n.W := ⟨⟨_, hT⟩, rfl⟩
    refine callList (i := 11) rfl (by kernel_rfl) rfl (fun K hK => ?_)
    go_simp
    refine (HSE.out _ _ hc1).mono ?_
    rintro e w5 ⟨⟨q5, n5, c5, rfl, hn5, ho5, hf5⟩, hb5⟩
    subst hn5
    have hne : ∀ b, (Value.slice q5 lr.length c5).ownBlock = some b → b ≠ zb := fun b hb e => by have h1 := hf5 b hb; have h2 := (Array.getElem?_eq_some_iff.1 hz).1; omega
    replace hz := keep_on hb5 hz
    replace hf5 : Fresh w2 (.slice q5 lr.length c5) := fun b hb => Nat.le_trans hT.size (hf5 b hb)
    replace hT := Turn.trans (T := ST (.slice qv mv cv) w2.heap.size) hT (Turn.of_below hb5) (fun x hx => Or.inl hx)
    refine hK.out _ _ ⟨⟨_, hT⟩, rfl⟩ ?_
    clear hK K hc1 hb5
    have hC : ∃ n : TurnW w2 (.slice qv mv cv), w5 = n.W := ⟨⟨_, hT⟩, rfl⟩
    refine takeList (i := 12) rfl (by kernel_rfl) (by kernel_rfl) (by kernel_rfl) (fun _ _ _ _ h => h) rfl rfl hC (fun K hK => ?_)
    go_big_quiet_op
    refine hK _ ?_
    clear hK K
    refine takeList (i := 13) rfl (by kernel_rfl) (by kernel_rfl) (by kernel_rfl) (fun _ _ _ _ h => h) rfl rfl hC (fun K hK => ?_)
    go_big_quiet_op
    refine hK _ ?_
    clear hK K
    refine takeList (i := 14) rfl (by kernel_rfl) (by kernel_rfl) (by kernel_rfl) (fun _ _ _ _ h => h) rfl rfl hC (fun K hK => ?_)
    go_big_quiet_op
    refine hK _ ?_
    clear hK K
    obtain ⟨⟨k0, k1, k2, k3, k4, k5, k6⟩, f0, f1, f2, f3, f4, f5, f6⟩ := zfacts hz
    refine callList (i := 16) rfl (by kernel_rfl) rfl (fun K hK => ?_)
    go_simp
    generalize hWF : World.setCell _ _ _ = WF
    have hTF : Turn w2 WF (ST (.slice qv mv cv) w2.heap.size) := by
      rw [← hWF]
      iterate 7 refine Turn.setCell (b := zb) ?_ (Or.inr hzb) _
      exact hT
    have hqF : WF.heap[zb]? = some (.cells (cells7 ⟨r0, r1, r2, r3, r4, r5, r6⟩) 43) := by
      rw [← hWF]
      exact (set_block (set_block (set_block (set_block (set_block (set_block (set_block hz)))))))
    have hoF : OwnD WF (.slice q5 lr.length c5) lr := ho5.same fun b hb => by
      have hn := hne b hb
      rw [← hWF, set_other hn, set_other hn, set_other hn, set_other hn, set_other hn, set_other hn, set_other hn]
    clear hWF hT ho5 hz hne k0 k1 k2 k3 k4 k5 k6 f0 f1 f2 f3 f4 f5 f6
    refine hK.out _ _ ⟨⟨WF, hTF⟩, rfl⟩ ?_
    clear hK K hC
    have hC : ∃ n : TurnW w2 (.slice qv mv cv), WF = n.W := ⟨⟨WF, hTF⟩, rfl⟩
    refine takeList (i := 17) rfl (by kernel_rfl) (by kernel_rfl) (by kernel_rfl) (fun _ _ _ _ h => h) rfl rfl hC (fun K hK => ?_)
    go_big_quiet_op
    refine hK _ ?_
    clear hK K hC hno
    refine wpAnyH_done (by kernel_rfl) ?_ _
    have HqF : Hid (WF.heap[zb]? = some (.cells (cells7 ⟨r0, r1, r2, r3, r4, r5, r6⟩) 43)) := hqF
    have HoF : Hid (OwnD WF (.slice q5 lr.length c5) lr) := hoF
    have HTF : Hid (Turn w2 WF (ST (.slice qv mv cv) w2.heap.size)) := hTF
    have Hf5 : Hid (Fresh w2 (.slice q5 lr.length c5)) := hf5
    have HgF : Hid (DotsAt WF g1 ⟨x0, x1, x2, x3, x4, x5, x6⟩ (.slice qa na ka) l1) := HDa.out WF hTF
    have hle : (lr.length : Int) ≤ 1000 := by have := HRL.out; omega
    obtain ⟨b0, b1, b2, b3, b4, b5, b6⟩ := box7 hqF
    obtain ⟨c0', c1', c2', c3', c4', c5', c6', c7'⟩ := cells8_at HgF.out.blk
    obtain ⟨f0, f1, f2, f3, f4, f5, f6, f7⟩ : WF.frozen? ⟨g1, 0, none⟩ = false ∧ WF.frozen? ⟨g1, 1, none⟩ = false ∧ WF.frozen? ⟨g1, 2, none⟩ = false ∧ WF.frozen? ⟨g1, 3, none⟩ = false ∧ WF.frozen? ⟨g1, 4, none⟩ = false ∧ WF.frozen? ⟨g1, 5, none⟩ = false ∧ WF.frozen? ⟨g1, 6, none⟩ = false ∧ WF.frozen? ⟨g1, 7, none⟩ = false := by simp [World.frozen?, HgF.out.blk]
    clear hqF hoF hTF hf5
    go_wp2_with fail
    go_ret
    exact ⟨rfl, by rw [HMS.out]; exact merge_fin (r := ⟨r0, r1, r2, r3, r4, r5, r6⟩) HD1.out HB2.out HF1.out HTF.out HgF.out HoF.out Hf5.out⟩
end Go.Proofs.Ytglmmhgmdhdleaa

namespace Go.Proofs.Ytglmmhgmdhdleaa
open Go.RowKit Go.Lib
set_option linter.unusedVariables false

/-- What Merge does among some dots beside each other. -/
def MergeDoes : Prop := ∀ (L1 L2 : List DObj) (w0 w : World) (g : Nat) (v : Value) (s s' : C.Ds) (o2 : DObj), Objs w0 w (L1 ++ ⟨g, v, s⟩ :: L2) → o2 ∈ L1 ++ ⟨g, v, s⟩ :: L2 → s.l.length + o2.s.l.length ≤ 1000 → C.mergeS s o2.s = s' →
    Calls Try.prog 24 #[.pointer (some ⟨g, 0, none⟩), .pointer (some ⟨o2.g, 0, none⟩)] w fun e w' => e = .returned (.int .i64 0) ∧ ∃ v', Objs w0 w' (L1 ++ ⟨g, v', s'⟩ :: L2)
namespace C
theorem merge_all {s : Ds} (h : s.Ok) (m : List Dt) : mergeS s (addAll zeroS m) = addAll s m :=
  canon (merge_ok h (all_ok m _ zero_ok)) (all_ok m _ h) fun x => by
    rw [Bool.eq_iff_iff, merge_mem h (all_ok m _ zero_ok), all_mem x m s h, all_mem x m zeroS zero_ok, zero_mem]
    simp
theorem all_lenS : ∀ (m : List Dt) (s : Ds), s.Ok → lenS s ≤ lenS (addAll s m)
  | [], s, _ => Int.le_refl _
  | d :: t, s, h => by
    have e : addAll s (d :: t) = addAll (addM s d) t := rfl
    have h1 := all_lenS t (addM s d) (addM_ok h d)
    have h2 := lenM h d
    rw [e]
    split at h2 <;> omega
theorem add_take {l : List Dt} {k : Nat} {x : Dt} (hx : l[k]? = some x) : addAll zeroS (l.take (k + 1)) = addM (addAll zeroS (l.take k)) x := by rw [take_snoc hx, all_snoc]
theorem take_small (l : List Dt) (k n : Nat) (h : l.length ≤ n) : (addAll zeroS (l.take k)).l.length ≤ n := by
  have h1 := all_len (l.take k) zeroS
  have h2 := List.length_take_le' k l
  have h4 : zeroS.l.length = 0 := rfl
  omega
end C
set_option maxRecDepth 100000 in
set_option maxHeartbeats 8000000 in
theorem order_walk (HMD : MergeDoes) (pa : Option Addr) (l : List C.Dt) (ca : Nat) (pb : Option Addr) (m : List C.Dt) (cb : Nat) (w : World) (ha : ArgD w pa l) (hla : l.length ≤ maxLen) (hb : ArgD w pb m) (hlb : m.length ≤ maxLen) :
    Calls Try.prog 6 #[.slice pa l.length ca, .slice pb m.length cb] w fun e w' => e = .returned (.bool true) ∧ Below w.heap.size w w' := by
  have HMG : Hid MergeDoes := HMD
  have HA : Hid (ArgD w pa l) := ha
  have HB : Hid (ArgD w pb m) := hb
  clear ha hb HMD
  unfold maxLen at hla hlb
  obtain ⟨n, hn⟩ : ∃ n, n = l.length := ⟨_, rfl⟩
  have HN : Hid (n = l.length) := hn
  obtain ⟨q, hq⟩ : ∃ q, q = m.length := ⟨_, rfl⟩
  have HQ : Hid (q = m.length) := hq
  rw [← hn] at hla ⊢
  rw [← hq] at hlb ⊢
  clear hn hq
  by_cases hbig : 60 < n
  · go_enter Try.func6, Try.ntmps6
    go_wp2_with fail
    refine (awake_any _).mono ?_
    rintro e w1 ⟨rfl, hb1⟩
    have HB1 : Hid (Below w.heap.size w w1) := hb1
    clear hb1
    go_wp2
    go_ret
    exact ⟨rfl, HB1.out⟩
  by_cases hbig2 : 60 < q
  · go_enter Try.func6, Try.ntmps6
    go_wp2_with fail
    refine (awake_any _).mono ?_
    rintro e w1 ⟨rfl, hb1⟩
    have HB1 : Hid (Below w.heap.size w w1) := hb1
    clear hb1
    go_wp2
    go_ret
    exact ⟨rfl, HB1.out⟩
  have HL60 : Hid (l.length ≤ 60) := by have := HN.out; show _ ≤ _; omega
  have HM60 : Hid (m.length ≤ 60) := by have := HQ.out; show _ ≤ _; omega
  have HR60 : Hid (l.reverse.length ≤ 60) := by show _ ≤ _; rw [List.length_reverse]; exact HL60.out
  go_enter Try.func6, Try.ntmps6
  go_wp2_with fail
  refine (awake_any _).mono ?_
  rintro e w1 ⟨rfl, hb1⟩
  go_wp2_with fail
  refine (o_new (Objs.nil hb1)).mono ?_
  rintro e w2 ⟨ga, rfl, h2, -⟩
  go_wp2_with fail
  refine (o_new h2).mono ?_
  rintro e w3 ⟨gb, rfl, h3, -⟩
  go_wp2_with fail
  refine (o_new h3).mono ?_
  rintro e w4 ⟨gc, rfl, h4, -⟩
  go_wp2_with fail
  refine (o_new h4).mono ?_
  rintro e w5 ⟨gd, rfl, h5, -⟩
  have H5 : Hid (Objs w w5 [⟨ga, .slice none 0 0, C.addAll C.zeroS (l.take 0)⟩, ⟨gb, .slice none 0 0, C.addAll C.zeroS (l.reverse.take 0)⟩, ⟨gc, .slice none 0 0, C.addAll C.zeroS (l.take 0)⟩, ⟨gd, .slice none 0 0, C.zeroS⟩]) := h5
  clear hb1 h2 h3 h4 h5
  go_wp2_with fail
  go_loopw [9] (fun s9 wr => ∃ (k : Nat) (va vb vc : Value), s9 = .int .i64 k ∧ k ≤ n ∧ Hid (Objs w wr [⟨ga, va, C.addAll C.zeroS (l.take k)⟩, ⟨gb, vb, C.addAll C.zeroS (l.reverse.take k)⟩, ⟨gc, vc, C.addAll C.zeroS (l.take k)⟩, ⟨gd, .slice none 0 0, C.zeroS⟩])) (fun s9 _ => n - (intOf s9).toNat)
  case atStart => exact ⟨0, _, _, _, rfl, Nat.zero_le _, H5.out⟩
  case round =>
    clear H5
    obtain ⟨k, va, vb, vc, rfl, hkn, HO⟩ := hrel
    by_cases hlt : k < n
    · obtain ⟨x, hx⟩ : ∃ x, l[k]? = some x := ⟨_, List.getElem?_eq_getElem (by have := HN.out; omega)⟩
      obtain ⟨j, hj0⟩ : ∃ j, n = k + 1 + j := ⟨n - (k + 1), by omega⟩
      have HJ : Hid (n = k + 1 + j) := hj0
      have hjn : j < n := by omega
      clear hj0
      obtain ⟨y, hy⟩ : ∃ y, l[j]? = some y := ⟨_, List.getElem?_eq_getElem (by have := HN.out; omega)⟩
      have hyr : l.reverse[k]? = some y := by
        rw [List.getElem?_reverse (by have := HN.out; omega), ← hy]
        congr 1
        have := HN.out; have := HJ.out; omega
      obtain ⟨b, o, rfl, hc⟩ := HA.out (by have := HN.out; omega)
      have HXA : Hid (C.addAll C.zeroS (l.take (k + 1)) = C.addM (C.addAll C.zeroS (l.take k)) x) := C.add_take hx
      have HYA : Hid (C.addAll C.zeroS (l.reverse.take (k + 1)) = C.addM (C.addAll C.zeroS (l.reverse.take k)) y) := C.add_take hyr
      obtain ⟨a0, a1⟩ := hc k x hx
      obtain ⟨b0, b1⟩ := hc j y hy
      have HCX : Hid (∀ W, Below w.heap.size w W → W.cell? ⟨b, o + k * 2, none⟩ = some (.int .i64 x.1) ∧ W.cell? ⟨b, o + k * 2 + 1, none⟩ = some (.int .i64 x.2)) := fun W hW => ⟨(hW.cell (p := ⟨b, o + k * 2, none⟩) (World.block_lt_of_cell? _ _ a0)).trans a0, (hW.cell (p := ⟨b, o + k * 2 + 1, none⟩) (World.block_lt_of_cell? _ _ a1)).trans a1⟩
      have HCY : Hid (∀ W, Below w.heap.size w W → W.cell? ⟨b, o + j * 2, none⟩ = some (.int .i64 y.1) ∧ W.cell? ⟨b, o + j * 2 + 1, none⟩ = some (.int .i64 y.2)) := fun W hW => ⟨(hW.cell (p := ⟨b, o + j * 2, none⟩) (World.block_lt_of_cell? _ _ b0)).trans b0, (hW.cell (p := ⟨b, o + j * 2 + 1, none⟩) (World.block_lt_of_cell? _ _ b1)).trans b1⟩
      have HKA : Hid ((C.addAll C.zeroS (l.take k)).l.length < 1000) := Nat.lt_of_le_of_lt (C.take_small l k 60 HL60.out) (by decide)
      have HKB : Hid ((C.addAll C.zeroS (l.reverse.take k)).l.length < 1000) := Nat.lt_of_le_of_lt (C.take_small l.reverse k 60 HR60.out) (by decide)
      clear hc a0 a1 b0 b1 hx hy hyr
      obtain ⟨x1, x2⟩ := x
      obtain ⟨y1, y2⟩ := y
      obtain ⟨c0, c1⟩ := HCX.out _ HO.out.bel
      simp only at c0 c1
      go_wp2_with fail
      refine (o_add [] _ ga va _ _ x1 x2 _ _ HO.out HKA.out rfl rfl rfl).mono ?_
      rintro e w6 ⟨rfl, ⟨va2, h6⟩, -⟩
      rw [← HXA.out] at h6
      have H6 : Hid (Objs w w6 ([⟨ga, va2, C.addAll C.zeroS (l.take (k + 1))⟩] ++ ⟨gb, vb, C.addAll C.zeroS (l.reverse.take k)⟩ :: [⟨gc, vc, C.addAll C.zeroS (l.take k)⟩, ⟨gd, .slice none 0 0, C.zeroS⟩])) := h6
      clear h6 HO c0 c1
      obtain ⟨c0, c1⟩ := HCY.out _ H6.out.bel
      try simp only at c0 c1
      have hix : (n : Int) - 1 - (k : Int) = (j : Int) := by have := HJ.out; omega
      go_wp2_with fail
      refine (o_add [⟨ga, va2, C.addAll C.zeroS (l.take (k + 1))⟩] _ gb vb _ _ y1 y2 _ _ H6.out HKB.out rfl rfl rfl).mono ?_
      rintro e w7 ⟨rfl, ⟨vb2, h7⟩, -⟩
      rw [← HYA.out] at h7
      have H7 : Hid (Objs w w7 ([⟨ga, va2, C.addAll C.zeroS (l.take (k + 1))⟩, ⟨gb, vb2, C.addAll C.zeroS (l.reverse.take (k + 1))⟩] ++ ⟨gc, vc, C.addAll C.zeroS (l.take k)⟩ :: [⟨gd, .slice none 0 0, C.zeroS⟩])) := h7
      clear h7 H6 c0 c1 hix
      obtain ⟨c0, c1⟩ := HCX.out _ H7.out.bel
      try simp only at c0 c1
      go_wp2_with fail
      refine (o_add [⟨ga, va2, C.addAll C.zeroS (l.take (k + 1))⟩, ⟨gb, vb2, C.addAll C.zeroS (l.reverse.take (k + 1))⟩] _ gc vc _ _ x1 x2 _ _ H7.out HKA.out rfl rfl rfl).mono ?_
      rintro e w8 ⟨rfl, ⟨vc2, h8⟩, -⟩
      rw [← HXA.out] at h8
      have H8 : Hid (Objs w w8 [⟨ga, va2, C.addAll C.zeroS (l.take (k + 1))⟩, ⟨gb, vb2, C.addAll C.zeroS (l.reverse.take (k + 1))⟩, ⟨gc, vc2, C.addAll C.zeroS (l.take (k + 1))⟩, ⟨gd, .slice none 0 0, C.zeroS⟩]) := h8
      clear h8 H7 c0 c1
      go_wp2
      go_roundw
      case rel => exact ⟨k + 1, va2, vb2, vc2, by go_num, by omega, H8.out⟩
      case measure => simp [intOf]; omega
    · obtain rfl : k = n := by omega
      have htk : l.take k = l := List.take_of_length_le (by have := HN.out; omega)
      have htr : l.reverse.take k = l.reverse := List.take_of_length_le (by rw [List.length_reverse]; have := HN.out; omega)
      have hrev : C.addAll C.zeroS l.reverse = C.addAll C.zeroS l := C.all_perm fun x => by simp
      rw [htk, htr, hrev] at HO
      have HAL : Hid ((C.addAll C.zeroS l).l.length ≤ 60) := by
        have := C.take_small l l.length 60 HL60.out
        rwa [List.take_of_length_le (Nat.le_refl _)] at this
      have HAO : Hid (C.addAll C.zeroS l).Ok := C.all_ok l _ C.zero_ok
      obtain ⟨A, hA⟩ : ∃ A, A = C.addAll C.zeroS l := ⟨_, rfl⟩
      rw [← hA] at HO HAL HAO
      have HO0 : Hid (Objs w wr [⟨ga, va, A⟩, ⟨gb, vb, A⟩, ⟨gc, vc, A⟩, ⟨gd, .slice none 0 0, C.addAll C.zeroS (m.take 0)⟩]) := HO.out
      clear htk htr hrev hA HO
      go_wp2_with fail
      go_loopw [10] (fun s10 wr => ∃ (j : Nat) (vd : Value), s10 = .int .i64 j ∧ j ≤ q ∧ Hid (Objs w wr [⟨ga, va, A⟩, ⟨gb, vb, A⟩, ⟨gc, vc, A⟩, ⟨gd, vd, C.addAll C.zeroS (m.take j)⟩])) (fun s10 _ => q - (intOf s10).toNat)
      case atStart => exact ⟨0, _, rfl, Nat.zero_le _, HO0.out⟩
      case round =>
        clear HO0
        obtain ⟨j, vd, rfl, hjq, HO⟩ := hrel
        by_cases hlt2 : j < q
        · obtain ⟨x, hx⟩ : ∃ x, m[j]? = some x := ⟨_, List.getElem?_eq_getElem (by have := HQ.out; omega)⟩
          obtain ⟨b, o, rfl, hc⟩ := HB.out (by have := HQ.out; omega)
          have HXA : Hid (C.addAll C.zeroS (m.take (j + 1)) = C.addM (C.addAll C.zeroS (m.take j)) x) := C.add_take hx
          obtain ⟨a0, a1⟩ := hc j x hx
          have c0 := (HO.out.bel.cell (p := ⟨b, o + j * 2, none⟩) (World.block_lt_of_cell? _ _ a0)).trans a0
          have c1 := (HO.out.bel.cell (p := ⟨b, o + j * 2 + 1, none⟩) (World.block_lt_of_cell? _ _ a1)).trans a1
          have HKD : Hid ((C.addAll C.zeroS (m.take j)).l.length < 1000) := Nat.lt_of_le_of_lt (C.take_small m j 60 HM60.out) (by decide)
          clear hc a0 a1 hx
          obtain ⟨x1, x2⟩ := x
          try simp only at c0 c1
          go_wp2_with fail
          refine (o_add [⟨ga, va, A⟩, ⟨gb, vb, A⟩, ⟨gc, vc, A⟩] [] gd vd _ _ x1 x2 _ _ HO.out HKD.out rfl rfl rfl).mono ?_
          rintro e w6 ⟨rfl, ⟨vd2, h6⟩, -⟩
          rw [← HXA.out] at h6
          have H6 : Hid (Objs w w6 [⟨ga, va, A⟩, ⟨gb, vb, A⟩, ⟨gc, vc, A⟩, ⟨gd, vd2, C.addAll C.zeroS (m.take (j + 1))⟩]) := h6
          clear h6 HO c0 c1
          go_wp2
          go_roundw
          case rel => exact ⟨j + 1, vd2, by go_num, by omega, H6.out⟩
          case measure => simp [intOf]; omega
        · obtain rfl : j = q := by omega
          have htm : m.take j = m := List.take_of_length_le (by have := HQ.out; omega)
          rw [htm] at HO
          have HDL : Hid ((C.addAll C.zeroS m).l.length ≤ 60) := by
            have := C.take_small m m.length 60 HM60.out
            rwa [List.take_of_length_le (Nat.le_refl _)] at this
          have HDO : Hid (C.addAll C.zeroS m).Ok := C.all_ok m _ C.zero_ok
          have HME : Hid (C.mergeS A (C.addAll C.zeroS m) = C.addAll A m) := C.merge_all HAO.out m
          have HMC : Hid (C.mergeS (C.addAll C.zeroS m) A = C.addAll A m) := by show _ = _; rw [C.merge_comm HDO.out HAO.out]; exact HME.out
          have HML : Hid ((C.addAll A m).l.length ≤ 120) := by
            have h1 := C.all_len m A
            have h2 := HAL.out
            have h3 := HM60.out
            show _ ≤ _
            omega
          have HLE : Hid (C.lenS A ≤ C.lenS (C.addAll A m)) := C.all_lenS m A HAO.out
          have HMO : Hid (C.addAll A m).Ok := C.all_ok m A HAO.out
          obtain ⟨M, hM⟩ : ∃ M, M = C.addAll A m := ⟨_, rfl⟩
          obtain ⟨D, hD⟩ : ∃ D, D = C.addAll C.zeroS m := ⟨_, rfl⟩
          rw [← hM] at HME HMC HML HLE HMO
          rw [← hD] at HME HMC HDL HDO HO
          clear htm hM hD
          have hfa := (HO.out.at_ ⟨ga, va, A⟩ (by simp)).1
          have hfb := (HO.out.at_ ⟨gb, vb, A⟩ (by simp)).1
          go_wp2_with fail
          refine (same_any wr ga gb A A va vb true hfa hfb (by have := HAL.out; omega) ((sameS_iff A A).2 rfl)).mono ?_
          rintro e w6 ⟨rfl, hb6⟩
          have H6 : Hid (Objs w w6 ([⟨ga, va, A⟩, ⟨gb, vb, A⟩] ++ ⟨gc, vc, A⟩ :: [⟨gd, vd, D⟩])) := HO.out.below hb6
          clear hb6 HO hfa hfb
          go_wp2_with fail
          refine (HMG.out [⟨ga, va, A⟩, ⟨gb, vb, A⟩] [⟨gd, vd, D⟩] w w6 gc vc A M ⟨gd, vd, D⟩ H6.out (by simp) (by have h1 := HAL.out; have h2 := HDL.out; simp only; omega) HME.out).mono ?_
          rintro e w7 ⟨rfl, vc2, h7⟩
          have H7 : Hid (Objs w w7 ([⟨ga, va, A⟩, ⟨gb, vb, A⟩, ⟨gc, vc2, M⟩] ++ ⟨gd, vd, D⟩ :: [])) := h7
          clear h7 H6
          go_wp2_with fail
          refine (HMG.out [⟨ga, va, A⟩, ⟨gb, vb, A⟩, ⟨gc, vc2, M⟩] [] w w7 gd vd D M ⟨ga, va, A⟩ H7.out (by simp) (by have h1 := HAL.out; have h2 := HDL.out; simp only; omega) HMC.out).mono ?_
          rintro e w8 ⟨rfl, vd2, h8⟩
          have H8 : Hid (Objs w w8 [⟨ga, va, A⟩, ⟨gb, vb, A⟩, ⟨gc, vc2, M⟩, ⟨gd, vd2, M⟩]) := h8
          clear h8 H7
          have hfc := (H8.out.at_ ⟨gc, vc2, M⟩ (by simp)).1
          have hfd := (H8.out.at_ ⟨gd, vd2, M⟩ (by simp)).1
          go_wp2_with fail
          refine (same_any w8 gc gd M M vc2 vd2 true hfc hfd (by have := HML.out; omega) ((sameS_iff M M).2 rfl)).mono ?_
          rintro e w9 ⟨rfl, hb9⟩
          have H9 : Hid (Objs w w9 [⟨ga, va, A⟩, ⟨gb, vb, A⟩, ⟨gc, vc2, M⟩, ⟨gd, vd2, M⟩]) := H8.out.below hb9
          clear hb9 H8 hfc hfd
          obtain ⟨zm, hzm⟩ : ∃ zm, C.lenS M = zm := ⟨_, rfl⟩
          obtain ⟨za, hza⟩ : ∃ za, C.lenS A = za := ⟨_, rfl⟩
          have hle : za ≤ zm := by rw [← hzm, ← hza]; exact HLE.out
          have HZM : Hid (C.lenS M = zm) := hzm
          have HZA : Hid (C.lenS A = za) := hza
          clear hzm hza
          go_wp2_with fail
          refine (o_len [⟨ga, va, A⟩, ⟨gb, vb, A⟩] [⟨gd, vd2, M⟩] gc vc2 M zm H9.out (by have := HML.out; omega) HZM.out).mono ?_
          rintro e w10 ⟨rfl, hw⟩
          subst hw
          go_wp2_with fail
          refine (o_len [] [⟨gb, vb, A⟩, ⟨gc, vc2, M⟩, ⟨gd, vd2, M⟩] ga va A za H9.out (by have := HAL.out; omega) HZA.out).mono ?_
          rintro e w11 ⟨rfl, hw⟩
          subst hw
          go_wp2
          go_ret
          exact ⟨ret_bool (by simp), H9.out.bel⟩
end Go.Proofs.Ytglmmhgmdhdleaa

namespace Go.Proofs.Ytglmmhgmdhdleaa
open Go.RowKit Go.Lib
set_option linter.unusedVariables false

theorem o_merge (L1 L2 : List DObj) {w0 w : World} (g : Nat) (v : Value) (s s' : C.Ds) (o2 : DObj) (h : Objs w0 w (L1 ++ ⟨g, v, s⟩ :: L2)) (ho : o2 ∈ L1 ++ ⟨g, v, s⟩ :: L2) (hl : s.l.length + o2.s.l.length ≤ 1000) (hs : C.mergeS s o2.s = s') :
    Calls Try.prog 24 #[.pointer (some ⟨g, 0, none⟩), .pointer (some ⟨o2.g, 0, none⟩)] w fun e w' => e = .returned (.int .i64 0) ∧ ∃ v', Objs w0 w' (L1 ++ ⟨g, v', s'⟩ :: L2) := by
  subst hs
  obtain ⟨h1, h2⟩ := h.get
  obtain ⟨h3, h4, _⟩ := h.at_ o2 ho
  refine (merge_any8 w g o2.g s o2.s v o2.v h1 h3 h2 h4 hl).mono ?_
  rintro e w' ⟨rfl, hr⟩
  exact ⟨rfl, h.step (C.merge_ok h2 h4) hr⟩
theorem merge_does : MergeDoes := fun L1 L2 w0 w g v s s' o2 h ho hl hs => o_merge L1 L2 g v s s' o2 h ho hl hs
theorem order_all (pa : Option Addr) (lena ca : Nat) (pb : Option Addr) (lenb cb : Nat) (w : World) (hla : lena ≤ ca) (hca : ca ≤ maxLen)
    (V : Nat → Nat → Value) (hV : 0 < lena → ∃ b o, pa = some ⟨b, o, none⟩ ∧ ∀ i j, i < lena → j < 2 → w.cell? ⟨b, o + i * 2 + j, none⟩ = some (V i j)) (hI : ∀ i j, i < lena → j < 2 → ∃ z, V i j = .int .i64 z ∧ (Lit.int .i64 z).wf = true)
    (hlb : lenb ≤ cb) (hcb : cb ≤ maxLen)
    (V' : Nat → Nat → Value) (hV' : 0 < lenb → ∃ b o, pb = some ⟨b, o, none⟩ ∧ ∀ i j, i < lenb → j < 2 → w.cell? ⟨b, o + i * 2 + j, none⟩ = some (V' i j)) (hI' : ∀ i j, i < lenb → j < 2 → ∃ z, V' i j = .int .i64 z ∧ (Lit.int .i64 z).wf = true) :
    Calls Try.prog 6 #[.slice pa lena ca, .slice pb lenb cb] w fun e w' => e = .returned (.bool true) ∧ Below w.heap.size w w' := by
  obtain ⟨l, rfl, ha⟩ := argD_of w pa lena V hV hI
  obtain ⟨m, rfl, hb⟩ := argD_of w pb lenb V' hV' hI'
  exact order_walk merge_does pa l ca pb m cb w ha (Nat.le_trans hla hca) hb (Nat.le_trans hlb hcb)
end Go.Proofs.Ytglmmhgmdhdleaa

namespace Go.Proofs.Ytglmmhgmdhdleaa
open Go.RowKit Go.Lib
set_option linter.unusedVariables false

/-- An object: its block, its loose ones' slice, what it holds; if it is the document's own. -/
structure XObj where
  g : Nat
  v : Value
  s : C.Ds
  k : Bool
def XAt (w : World) (g : Nat) (v : Value) (s : C.Ds) (k : Bool) : Prop := match k with
  | false => DotsAt w g s.c v s.l
  | true => RDAt w g s.c v s.l
theorem XAt.lt {w : World} {g : Nat} {v : Value} {s : C.Ds} {k : Bool} (h : XAt w g v s k) {b : Nat} (hb : foot g v b) : b < w.heap.size := by
  cases k with
  | false => exact DotsAt.lt h hb
  | true => exact RDAt.lt h hb
theorem XAt.same {w w' : World} {g : Nat} {v : Value} {s : C.Ds} {k : Bool} (h : XAt w g v s k) (hs : ∀ b, foot g v b → w'.heap[b]? = w.heap[b]?) : XAt w' g v s k := by
  cases k with
  | false => exact DotsAt.same h hs
  | true => exact RDAt.same h hs
theorem XAt.below {w w' : World} {g : Nat} {v : Value} {s : C.Ds} {k : Bool} (h : XAt w g v s k) (hb : Below w.heap.size w w') : XAt w' g v s k := h.same fun b hf => hb.block b (h.lt hf)
structure XObjs (w0 w : World) (L : List XObj) : Prop where
  at_ : ∀ o ∈ L, XAt w o.g o.v o.s o.k ∧ o.s.Ok ∧ ∀ b, foot o.g o.v b → w0.heap.size ≤ b
  apart : L.Pairwise fun o p => ∀ b, foot o.g o.v b → ¬ foot p.g p.v b
  bel : Below w0.heap.size w0 w
theorem XObjs.nil {w0 w : World} (h : Below w0.heap.size w0 w) : XObjs w0 w [] := ⟨fun o h => (by cases h), List.Pairwise.nil, h⟩
theorem XObjs.below {w0 w w' : World} {L : List XObj} (h : XObjs w0 w L) (hb : Below w.heap.size w w') : XObjs w0 w' L :=
  ⟨fun o ho => ⟨(h.at_ o ho).1.below hb, (h.at_ o ho).2⟩, h.apart, bt h.bel hb⟩
theorem XObjs.get {w0 w : World} {L1 L2 : List XObj} {o : XObj} (h : XObjs w0 w (L1 ++ o :: L2)) : XAt w o.g o.v o.s o.k ∧ o.s.Ok := ⟨(h.at_ o (by simp)).1, (h.at_ o (by simp)).2.1⟩
/-- What a call that writes leaves. -/
def XRet (w : World) (g : Nat) (v : Value) (s' : C.Ds) (k : Bool) (w' : World) : Prop :=
  (∃ v', XAt w' g v' s' k ∧ (v'.ownBlock = v.ownBlock ∨ ∀ b, v'.ownBlock = some b → w.heap.size ≤ b)) ∧ Turn w w' (foot g v)
theorem XRet.of_add {w w' : World} {g : Nat} {v : Value} {s : C.Ds} (h : AddRet w g v s w') : XRet w g v s false w' := h
theorem XRet.of_radd {w w' : World} {g : Nat} {v : Value} {s : C.Ds} (h : RAddRet w g v s w') : XRet w g v s true w' := by
  obtain ⟨⟨v', h1, h2⟩, h3⟩ := h
  exact ⟨⟨v', h1, h2.imp (fun e => by rw [e]) fun e => e⟩, h3.mono fun b hb => Or.inl hb⟩
theorem XObjs.step {w0 w w' : World} {L1 L2 : List XObj} {g : Nat} {v : Value} {s s' : C.Ds} {k : Bool} (h : XObjs w0 w (L1 ++ ⟨g, v, s, k⟩ :: L2)) (hs : s'.Ok) (hr : XRet w g v s' k w') : ∃ v', XObjs w0 w' (L1 ++ ⟨g, v', s', k⟩ :: L2) := by
  obtain ⟨⟨v', h1, h2⟩, ht⟩ := hr
  have hx := h.at_ ⟨g, v, s, k⟩ (by simp)
  obtain ⟨p1, p2, p3⟩ := List.pairwise_append.1 h.apart
  obtain ⟨p4, p5⟩ := List.pairwise_cons.1 p2
  have hge : ∀ b, foot g v' b → foot g v b ∨ w.heap.size ≤ b := fun b hb => by
    rcases hb with rfl | hb
    · exact Or.inl (Or.inl rfl)
    · rcases h2 with h2 | h2
      · exact Or.inl (Or.inr (h2 ▸ hb))
      · exact Or.inr (h2 b hb)
  have hwb := h.bel.size
  have old : ∀ o ∈ L1 ++ L2, XAt w o.g o.v o.s o.k ∧ o.s.Ok ∧ (∀ b, foot o.g o.v b → w0.heap.size ≤ b) ∧ ∀ b, foot o.g o.v b → ¬ foot g v b := fun o ho => by
    rcases List.mem_append.1 ho with ho | ho
    · have := h.at_ o (by simp [ho])
      exact ⟨this.1, this.2.1, this.2.2, fun b hb => p3 o ho ⟨g, v, s, k⟩ (by simp) b hb⟩
    · have := h.at_ o (by simp [ho])
      exact ⟨this.1, this.2.1, this.2.2, fun b hb hb' => p4 o ho b hb' hb⟩
  have new : ∀ o ∈ L1 ++ L2, ∀ b, foot o.g o.v b → ¬ foot g v' b := fun o ho b hb hb' => by
    obtain ⟨a1, _, _, a4⟩ := old o ho
    rcases hge b hb' with k | k
    · exact a4 b hb k
    · have := a1.lt hb; omega
  refine ⟨v', fun o ho => ?_, ?_, ?_⟩
  · have : o = ⟨g, v', s', k⟩ ∨ o ∈ L1 ++ L2 := by
      simp only [List.mem_append, List.mem_cons] at ho ⊢
      rcases ho with ho | ho | ho
      · exact Or.inr (Or.inl ho)
      · exact Or.inl ho
      · exact Or.inr (Or.inr ho)
    rcases this with rfl | ho'
    · refine ⟨h1, hs, fun b hb => ?_⟩
      rcases hge b hb with k | k
      · exact hx.2.2 b k
      · omega
    · obtain ⟨a1, a2, a3, a4⟩ := old o ho'
      exact ⟨a1.same fun b hb => ht.block b (a1.lt hb) (a4 b hb), a2, a3⟩
  · refine List.pairwise_append.2 ⟨p1, List.pairwise_cons.2 ⟨fun o ho b hb hb' => new o (by simp [ho]) b hb' hb, p5⟩, fun o ho p hp b hb hb' => ?_⟩
    rcases List.mem_cons.1 hp with rfl | hp
    · exact new o (by simp [ho]) b hb hb'
    · exact p3 o ho p (by simp [hp]) b hb hb'
  · exact h.bel.trans (ht.below hwb hx.2.2)
theorem XObjs.more {w0 w w' : World} {L : List XObj} {o : XObj} (h : XObjs w0 w L) (hb : Below w.heap.size w w') (ho : XAt w' o.g o.v o.s o.k) (hok : o.s.Ok) (hf : ∀ b, foot o.g o.v b → w.heap.size ≤ b) : XObjs w0 w' (L ++ [o]) := by
  have h' := h.below hb
  have hsz := h.bel.size
  refine ⟨fun p hp => ?_, List.pairwise_append.2 ⟨h.apart, List.pairwise_singleton _ _, fun p hp q hq b hbp hbq => ?_⟩, h'.bel⟩
  · rcases List.mem_append.1 hp with hp | hp
    · exact h'.at_ p hp
    · obtain rfl : p = o := by simpa using hp
      exact ⟨ho, hok, fun b hb => by have := hf b hb; omega⟩
  · obtain rfl : q = o := by simpa using hq
    have := hf b hbq
    have := (h.at_ p hp).1.lt hbp
    omega
theorem x_new {w0 w : World} {L : List XObj} (h : XObjs w0 w L) : Calls Try.prog 9 #[] w fun e w' => ∃ g, e = .returned (.pointer (some ⟨g, 0, none⟩)) ∧ XObjs w0 w' (L ++ [⟨g, .slice none 0 0, C.zeroS, false⟩]) ∧ Below w.heap.size w w' :=
  (new_any w).mono fun e w' ⟨⟨g, he, hg, hd⟩, hb⟩ => ⟨g, he, h.more (o := ⟨g, .slice none 0 0, C.zeroS, false⟩) hb hd C.zero_ok (by
    intro b hf
    rcases hf with rfl | hf
    · exact hg
    · cases hf), hb⟩
/-- The document's own, made by its literal. -/
theorem y_new {w0 w : World} {L : List XObj} (h : XObjs w0 w L) : XObjs w0 (w.alloc (.cells (cells8 ⟨0, 0, 0, 0, 0, 0, 0⟩ (.slice none 0 0)) 42)) (L ++ [⟨w.heap.size, .slice none 0 0, C.zeroS, true⟩]) :=
  h.more (o := ⟨w.heap.size, .slice none 0 0, C.zeroS, true⟩) (below_new _ _) ⟨heap_alloc_new w _, OwnD.nil _⟩ C.zero_ok fun b hf => by
    rcases hf with rfl | hf
    · exact Nat.le_refl _
    · cases hf
theorem x_add (L1 L2 : List XObj) {w0 w : World} (g : Nat) (v : Value) (s s' : C.Ds) (d1 d2 : Int) (b : Bool) (er : Int) (h : XObjs w0 w (L1 ++ ⟨g, v, s, false⟩ :: L2)) (hl : s.l.length < 1000) (hb : (C.may (d1, d2) && !C.mem s (d1, d2)) = b) (he : errM (d1, d2) = er) (hs : C.addM s (d1, d2) = s') :
    Calls Try.prog 10 #[.pointer (some ⟨g, 0, none⟩), .agg #[.int .i64 d1, .int .i64 d2]] w fun e w' => e = .returned (.tuple #[.bool b, .int .i64 er]) ∧ (∃ v', XObjs w0 w' (L1 ++ ⟨g, v', s', false⟩ :: L2)) := by
  subst hb he hs
  obtain ⟨h1, h2⟩ := h.get
  refine (add_any w g s v d1 d2 h1 h2 hl).mono ?_
  rintro e w' ⟨rfl, hr⟩
  exact ⟨rfl, h.step (C.addM_ok h2 _) (XRet.of_add hr)⟩
theorem y_add (L1 L2 : List XObj) {w0 w : World} (g : Nat) (v : Value) (s s' : C.Ds) (d1 d2 : Int) (b : Bool) (er : Int) (h : XObjs w0 w (L1 ++ ⟨g, v, s, true⟩ :: L2)) (hl : s.l.length < 1000) (hb : (C.may (d1, d2) && !C.mem s (d1, d2)) = b) (he : errM (d1, d2) = er) (hs : C.addM s (d1, d2) = s') :
    Calls Try.prog 17 #[.pointer (some ⟨g, 0, none⟩), .agg #[.int .i64 d1, .int .i64 d2]] w fun e w' => e = .returned (.tuple #[.bool b, .int .i64 er]) ∧ (∃ v', XObjs w0 w' (L1 ++ ⟨g, v', s', true⟩ :: L2)) := by
  subst hb he hs
  obtain ⟨h1, h2⟩ := h.get
  refine (radd_any w g s v d1 d2 h1 h2 hl).mono ?_
  rintro e w' ⟨rfl, hr⟩
  exact ⟨rfl, h.step (C.addM_ok h2 _) (XRet.of_radd hr)⟩
theorem x_loose (L1 L2 : List XObj) {w0 w : World} (g : Nat) (v : Value) (s : C.Ds) (h : XObjs w0 w (L1 ++ ⟨g, v, s, false⟩ :: L2)) (hl : s.l.length ≤ 1000000) :
    Calls Try.prog 20 #[.pointer (some ⟨g, 0, none⟩)] w fun e w' => (∃ v', e = .returned v' ∧ OwnD w' v' s.l ∧ ∀ b, v'.ownBlock = some b → w.heap.size ≤ b) ∧ Below w.heap.size w w' :=
  loose_any w g s.c v s.l h.get.1 hl
theorem x_vec (L1 L2 : List XObj) {w0 w : World} (g : Nat) (v : Value) (s : C.Ds) (c : V7) (h : XObjs w0 w (L1 ++ ⟨g, v, s, false⟩ :: L2)) (hc : s.c = c) :
    Calls Try.prog 18 #[.pointer (some ⟨g, 0, none⟩)] w fun e w' => e = .returned c.v ∧ Below w.heap.size w w' := by
  subst hc; exact vec_any w g s.c v s.l h.get.1
theorem x_len (L1 L2 : List XObj) {w0 w : World} (g : Nat) (v : Value) (s : C.Ds) (z : Int) (h : XObjs w0 w (L1 ++ ⟨g, v, s, false⟩ :: L2)) (hl : s.l.length ≤ 1000000) (hz : C.lenS s = z) :
    Calls Try.prog 21 #[.pointer (some ⟨g, 0, none⟩)] w fun e w' => e = .returned (.int .i64 z) ∧ w' = w :=
  len_any w g s.c v s.l z h.get.1 hl h.get.2.good hz
theorem y_len (L1 L2 : List XObj) {w0 w : World} (g : Nat) (v : Value) (s : C.Ds) (z : Int) (h : XObjs w0 w (L1 ++ ⟨g, v, s, true⟩ :: L2)) (hl : s.l.length ≤ 1000000) (hz : C.lenS s = z) :
    Calls Try.prog 22 #[.pointer (some ⟨g, 0, none⟩)] w fun e w' => e = .returned (.int .i64 z) ∧ w' = w :=
  rlen_any w g s.c v s.l z h.get.1 hl h.get.2.good hz
theorem x_has (L1 L2 : List XObj) {w0 w : World} (g : Nat) (v : Value) (s : C.Ds) (d1 d2 : Int) (x : Bool) (h : XObjs w0 w (L1 ++ ⟨g, v, s, false⟩ :: L2)) (hl : s.l.length ≤ 1000000) (hx : C.mem s (d1, d2) = x) :
    Calls Try.prog 16 #[.pointer (some ⟨g, 0, none⟩), .agg #[.int .i64 d1, .int .i64 d2]] w fun e w' => e = .returned (.bool x) ∧ Below w.heap.size w w' :=
  has_obj w g s.c v s.l d1 d2 x h.get.1 h.get.2.up hl hx
theorem y_has (L1 L2 : List XObj) {w0 w : World} (g : Nat) (v : Value) (s : C.Ds) (d1 d2 : Int) (x : Bool) (h : XObjs w0 w (L1 ++ ⟨g, v, s, true⟩ :: L2)) (hl : s.l.length ≤ 1000000) (hx : C.mem s (d1, d2) = x) :
    Calls Try.prog 23 #[.pointer (some ⟨g, 0, none⟩), .agg #[.int .i64 d1, .int .i64 d2]] w fun e w' => e = .returned (.bool x) ∧ Below w.heap.size w w' :=
  rhas_obj w g s.c v s.l d1 d2 x h.get.1 hl hx
theorem x_merge (L1 L2 : List XObj) {w0 w : World} (g : Nat) (v : Value) (s s' : C.Ds) (g2 : Nat) (v2 : Value) (s2 : C.Ds) (h : XObjs w0 w (L1 ++ ⟨g, v, s, false⟩ :: L2)) (ho : ⟨g2, v2, s2, false⟩ ∈ L1 ++ ⟨g, v, s, false⟩ :: L2) (hl : s.l.length + s2.l.length ≤ 1000) (hs : C.mergeS s s2 = s') :
    Calls Try.prog 24 #[.pointer (some ⟨g, 0, none⟩), .pointer (some ⟨g2, 0, none⟩)] w fun e w' => e = .returned (.int .i64 0) ∧ ∃ v', XObjs w0 w' (L1 ++ ⟨g, v', s', false⟩ :: L2) := by
  subst hs
  obtain ⟨h1, h2⟩ := h.get
  obtain ⟨h3, h4, _⟩ := h.at_ _ ho
  refine (merge_any8 w g g2 s s2 v v2 h1 h3 h2 h4 hl).mono ?_
  rintro e w' ⟨rfl, hr⟩
  exact ⟨rfl, h.step (C.merge_ok h2 h4) (XRet.of_add hr)⟩
end Go.Proofs.Ytglmmhgmdhdleaa

namespace Go.Proofs.Ytglmmhgmdhdleaa
open Go.RowKit Go.Lib
set_option linter.unusedVariables false

namespace C
/-- The first k places merged. -/
def mixM (a b : V7) (k : Nat) : V7 := match k with
  | 0 => ⟨a.x0, a.x1, a.x2, a.x3, a.x4, a.x5, a.x6⟩
  | 1 => ⟨max a.x0 b.x0, a.x1, a.x2, a.x3, a.x4, a.x5, a.x6⟩
  | 2 => ⟨max a.x0 b.x0, max a.x1 b.x1, a.x2, a.x3, a.x4, a.x5, a.x6⟩
  | 3 => ⟨max a.x0 b.x0, max a.x1 b.x1, max a.x2 b.x2, a.x3, a.x4, a.x5, a.x6⟩
  | 4 => ⟨max a.x0 b.x0, max a.x1 b.x1, max a.x2 b.x2, max a.x3 b.x3, a.x4, a.x5, a.x6⟩
  | 5 => ⟨max a.x0 b.x0, max a.x1 b.x1, max a.x2 b.x2, max a.x3 b.x3, max a.x4 b.x4, a.x5, a.x6⟩
  | 6 => ⟨max a.x0 b.x0, max a.x1 b.x1, max a.x2 b.x2, max a.x3 b.x3, max a.x4 b.x4, max a.x5 b.x5, a.x6⟩
  | _ => ⟨max a.x0 b.x0, max a.x1 b.x1, max a.x2 b.x2, max a.x3 b.x3, max a.x4 b.x4, max a.x5 b.x5, max a.x6 b.x6⟩
def mixL (a b : V7) (k : Nat) : V7 := match k with
  | 0 => ⟨a.x0, a.x1, a.x2, a.x3, a.x4, a.x5, a.x6⟩
  | 1 => ⟨min a.x0 b.x0, a.x1, a.x2, a.x3, a.x4, a.x5, a.x6⟩
  | 2 => ⟨min a.x0 b.x0, min a.x1 b.x1, a.x2, a.x3, a.x4, a.x5, a.x6⟩
  | 3 => ⟨min a.x0 b.x0, min a.x1 b.x1, min a.x2 b.x2, a.x3, a.x4, a.x5, a.x6⟩
  | 4 => ⟨min a.x0 b.x0, min a.x1 b.x1, min a.x2 b.x2, min a.x3 b.x3, a.x4, a.x5, a.x6⟩
  | 5 => ⟨min a.x0 b.x0, min a.x1 b.x1, min a.x2 b.x2, min a.x3 b.x3, min a.x4 b.x4, a.x5, a.x6⟩
  | 6 => ⟨min a.x0 b.x0, min a.x1 b.x1, min a.x2 b.x2, min a.x3 b.x3, min a.x4 b.x4, min a.x5 b.x5, a.x6⟩
  | _ => ⟨min a.x0 b.x0, min a.x1 b.x1, min a.x2 b.x2, min a.x3 b.x3, min a.x4 b.x4, min a.x5 b.x5, min a.x6 b.x6⟩
end C
/-- A clock's block of the document's own. -/
def RB (w : World) (b : Nat) (v : V7) : Prop := w.heap[b]? = some (.cells #[.int .i64 v.x0, .int .i64 v.x1, .int .i64 v.x2, .int .i64 v.x3, .int .i64 v.x4, .int .i64 v.x5, .int .i64 v.x6] 40)
theorem RB.keep {w w' : World} {b : Nat} {v : V7} (h : RB w b v) (hb : Below w.heap.size w w') : RB w' b v := keep_on hb h
theorem RB.drewN {w : World} {b : Nat} {v : V7} (h : RB w b v) (n : Nat) : RB (w.drewN n) b v := h
theorem RB.other {w : World} {b c k : Nat} {v : V7} {u : Value} (h : RB w b v) (hne : b ≠ c) : RB (w.setCell ⟨c, k, none⟩ u) b v := (Below.heap_setCell _ _ _ _ hne).trans h
theorem RB.set0 {w : World} {b : Nat} {v : V7} (h : RB w b v) (x : Int) : RB (w.setCell ⟨b, 0, none⟩ (.int .i64 x)) b { v with x0 := x } := by
  have := set_block (o := 0) (v := .int .i64 x) h
  simpa [RB] using this
theorem RB.set1 {w : World} {b : Nat} {v : V7} (h : RB w b v) (x : Int) : RB (w.setCell ⟨b, 1, none⟩ (.int .i64 x)) b { v with x1 := x } := by
  have := set_block (o := 1) (v := .int .i64 x) h
  simpa [RB] using this
theorem RB.set2 {w : World} {b : Nat} {v : V7} (h : RB w b v) (x : Int) : RB (w.setCell ⟨b, 2, none⟩ (.int .i64 x)) b { v with x2 := x } := by
  have := set_block (o := 2) (v := .int .i64 x) h
  simpa [RB] using this
theorem RB.set3 {w : World} {b : Nat} {v : V7} (h : RB w b v) (x : Int) : RB (w.setCell ⟨b, 3, none⟩ (.int .i64 x)) b { v with x3 := x } := by
  have := set_block (o := 3) (v := .int .i64 x) h
  simpa [RB] using this
theorem RB.set4 {w : World} {b : Nat} {v : V7} (h : RB w b v) (x : Int) : RB (w.setCell ⟨b, 4, none⟩ (.int .i64 x)) b { v with x4 := x } := by
  have := set_block (o := 4) (v := .int .i64 x) h
  simpa [RB] using this
theorem RB.set5 {w : World} {b : Nat} {v : V7} (h : RB w b v) (x : Int) : RB (w.setCell ⟨b, 5, none⟩ (.int .i64 x)) b { v with x5 := x } := by
  have := set_block (o := 5) (v := .int .i64 x) h
  simpa [RB] using this
theorem RB.set6 {w : World} {b : Nat} {v : V7} (h : RB w b v) (x : Int) : RB (w.setCell ⟨b, 6, none⟩ (.int .i64 x)) b { v with x6 := x } := by
  have := set_block (o := 6) (v := .int .i64 x) h
  simpa [RB] using this
set_option maxRecDepth 100000 in
set_option maxHeartbeats 8000000 in
theorem rmerge_any (a b : V7) (w : World) :
    Calls Try.prog 54 #[a.v, b.v] w fun e w' => e = .returned (C.mrg a b).v ∧ Below w.heap.size w w' := by
  obtain ⟨a0, a1, a2, a3, a4, a5, a6⟩ := a
  obtain ⟨b0, b1, b2, b3, b4, b5, b6⟩ := b
  simp only [V7.v]
  go_enter Try.func54, Try.ntmps54
  go_wp2_with fail
  go_loopw [5] (fun i wr => ∃ k : Nat, k ≤ 7 ∧ i = .int .i64 (k : Int) ∧ Below w.heap.size w wr ∧ RB wr w.heap.size (C.mixM ⟨a0, a1, a2, a3, a4, a5, a6⟩ ⟨b0, b1, b2, b3, b4, b5, b6⟩ k) ∧ RB wr (w.heap.size + 1) ⟨b0, b1, b2, b3, b4, b5, b6⟩ ∧ RB wr (w.heap.size + 1 + 1) zero7) (fun i _ => 7 - (intOf i).toNat)
  case atStart =>
    obtain ⟨q1, q2, q3⟩ := three_boxes w (.cells #[.int .i64 a0, .int .i64 a1, .int .i64 a2, .int .i64 a3, .int .i64 a4, .int .i64 a5, .int .i64 a6] 40) (.cells #[.int .i64 b0, .int .i64 b1, .int .i64 b2, .int .i64 b3, .int .i64 b4, .int .i64 b5, .int .i64 b6] 40) (.cells #[.int .i64 0, .int .i64 0, .int .i64 0, .int .i64 0, .int .i64 0, .int .i64 0, .int .i64 0] 40) (Below.refl _ _)
    exact ⟨0, by omega, rfl, bt (below_new _ _) (bt (below_new _ _) (below_new _ _)), q1, q2, q3⟩
  case round =>
    obtain ⟨k, hk, rfl, hbw, hr1, hr2, hr3⟩ := hrel
    have HBW : Hid _ := hbw
    clear hbw
    have hc : k = 0 ∨ k = 1 ∨ k = 2 ∨ k = 3 ∨ k = 4 ∨ k = 5 ∨ k = 6 ∨ k = 7 := by omega
    rcases hc with rfl | rfl | rfl | rfl | rfl | rfl | rfl | rfl
    · have HR1 : Hid (RB wr w.heap.size ⟨a0, a1, a2, a3, a4, a5, a6⟩) := hr1
      have HR2 : Hid (RB wr (w.heap.size + 1) ⟨b0, b1, b2, b3, b4, b5, b6⟩) := hr2
      have HR3 : Hid (RB wr (w.heap.size + 1 + 1) zero7) := hr3
      clear hr1 hr2 hr3
      obtain ⟨A0, A1, A2, A3, A4, A5, A6⟩ := box7 HR1.out
      obtain ⟨B0, B1, B2, B3, B4, B5, B6⟩ := box7 HR2.out
      obtain ⟨f0, f1, f2, f3, f4, f5, f6⟩ := frozen7 HR1.out
      by_cases h : a0 < b0
      · go_wp2_with fail
        go_quiet (fail)
        go_wp2_with fail
        go_roundw
        case rel =>
          have e : max a0 b0 = b0 := by omega
          refine ⟨1, by omega, rfl, bel_alike (Below.setCell HBW.out (Nat.le_refl _) _) rfl rfl rfl rfl, ?_, (HR2.out.drewN nq).other (by omega), (HR3.out.drewN nq).other (by omega)⟩
          show RB _ _ ⟨max a0 b0, a1, a2, a3, a4, a5, a6⟩
          rw [e]
          exact (HR1.out.drewN nq).set0 b0
        case measure => simp [intOf]
      · go_wp2_with fail
        go_quiet (fail)
        go_wp2_with fail
        go_roundw
        case rel =>
          have e : max a0 b0 = a0 := by omega
          refine ⟨1, by omega, rfl, bel_alike HBW.out rfl rfl rfl rfl, ?_, HR2.out.drewN nq, HR3.out.drewN nq⟩
          show RB _ _ ⟨max a0 b0, a1, a2, a3, a4, a5, a6⟩
          rw [e]
          exact HR1.out.drewN nq
        case measure => simp [intOf]
    · have HR1 : Hid (RB wr w.heap.size ⟨max a0 b0, a1, a2, a3, a4, a5, a6⟩) := hr1
      have HR2 : Hid (RB wr (w.heap.size + 1) ⟨b0, b1, b2, b3, b4, b5, b6⟩) := hr2
      have HR3 : Hid (RB wr (w.heap.size + 1 + 1) zero7) := hr3
      clear hr1 hr2 hr3
      obtain ⟨A0, A1, A2, A3, A4, A5, A6⟩ := box7 HR1.out
      obtain ⟨B0, B1, B2, B3, B4, B5, B6⟩ := box7 HR2.out
      obtain ⟨f0, f1, f2, f3, f4, f5, f6⟩ := frozen7 HR1.out
      by_cases h : a1 < b1
      · go_wp2_with fail
        go_quiet (fail)
        go_wp2_with fail
        go_roundw
        case rel =>
          have e : max a1 b1 = b1 := by omega
          refine ⟨2, by omega, rfl, bel_alike (Below.setCell HBW.out (Nat.le_refl _) _) rfl rfl rfl rfl, ?_, (HR2.out.drewN nq).other (by omega), (HR3.out.drewN nq).other (by omega)⟩
          show RB _ _ ⟨max a0 b0, max a1 b1, a2, a3, a4, a5, a6⟩
          rw [e]
          exact (HR1.out.drewN nq).set1 b1
        case measure => simp [intOf]
      · go_wp2_with fail
        go_quiet (fail)
        go_wp2_with fail
        go_roundw
        case rel =>
          have e : max a1 b1 = a1 := by omega
          refine ⟨2, by omega, rfl, bel_alike HBW.out rfl rfl rfl rfl, ?_, HR2.out.drewN nq, HR3.out.drewN nq⟩
          show RB _ _ ⟨max a0 b0, max a1 b1, a2, a3, a4, a5, a6⟩
          rw [e]
          exact HR1.out.drewN nq
        case measure => simp [intOf]
    · have HR1 : Hid (RB wr w.heap.size ⟨max a0 b0, max a1 b1, a2, a3, a4, a5, a6⟩) := hr1
      have HR2 : Hid (RB wr (w.heap.size + 1) ⟨b0, b1, b2, b3, b4, b5, b6⟩) := hr2
      have HR3 : Hid (RB wr (w.heap.size + 1 + 1) zero7) := hr3
      clear hr1 hr2 hr3
      obtain ⟨A0, A1, A2, A3, A4, A5, A6⟩ := box7 HR1.out
      obtain ⟨B0, B1, B2, B3, B4, B5, B6⟩ := box7 HR2.out
      obtain ⟨f0, f1, f2, f3, f4, f5, f6⟩ := frozen7 HR1.out
      by_cases h : a2 < b2
      · go_wp2_with fail
        go_quiet (fail)
        go_wp2_with fail
        go_roundw
        case rel =>
          have e : max a2 b2 = b2 := by omega
          refine ⟨3, by omega, rfl, bel_alike (Below.setCell HBW.out (Nat.le_refl _) _) rfl rfl rfl rfl, ?_, (HR2.out.drewN nq).other (by omega), (HR3.out.drewN nq).other (by omega)⟩
          show RB _ _ ⟨max a0 b0, max a1 b1, max a2 b2, a3, a4, a5, a6⟩
          rw [e]
          exact (HR1.out.drewN nq).set2 b2
        case measure => simp [intOf]
      · go_wp2_with fail
        go_quiet (fail)
        go_wp2_with fail
        go_roundw
        case rel =>
          have e : max a2 b2 = a2 := by omega
          refine ⟨3, by omega, rfl, bel_alike HBW.out rfl rfl rfl rfl, ?_, HR2.out.drewN nq, HR3.out.drewN nq⟩
          show RB _ _ ⟨max a0 b0, max a1 b1, max a2 b2, a3, a4, a5, a6⟩
          rw [e]
          exact HR1.out.drewN nq
        case measure => simp [intOf]
    · have HR1 : Hid (RB wr w.heap.size ⟨max a0 b0, max a1 b1, max a2 b2, a3, a4, a5, a6⟩) := hr1
      have HR2 : Hid (RB wr (w.heap.size + 1) ⟨b0, b1, b2, b3, b4, b5, b6⟩) := hr2
      have HR3 : Hid (RB wr (w.heap.size + 1 + 1) zero7) := hr3
      clear hr1 hr2 hr3
      obtain ⟨A0, A1, A2, A3, A4, A5, A6⟩ := box7 HR1.out
      obtain ⟨B0, B1, B2, B3, B4, B5, B6⟩ := box7 HR2.out
      obtain ⟨f0, f1, f2, f3, f4, f5, f6⟩ := frozen7 HR1.out
      by_cases h : a3 < b3
      · go_wp2_with fail
        go_quiet (fail)
        go_wp2_with fail
        go_roundw
        case rel =>
          have e : max a3 b3 = b3 := by omega
          refine ⟨4, by omega, rfl, bel_alike (Below.setCell HBW.out (Nat.le_refl _) _) rfl rfl rfl rfl, ?_, (HR2.out.drewN nq).other (by omega), (HR3.out.drewN nq).other (by omega)⟩
          show RB _ _ ⟨max a0 b0, max a1 b1, max a2 b2, max a3 b3, a4, a5, a6⟩
          rw [e]
          exact (HR1.out.drewN nq).set3 b3
        case measure => simp [intOf]
      · go_wp2_with fail
        go_quiet (fail)
        go_wp2_with fail
        go_roundw
        case rel =>
          have e : max a3 b3 = a3 := by omega
          refine ⟨4, by omega, rfl, bel_alike HBW.out rfl rfl rfl rfl, ?_, HR2.out.drewN nq, HR3.out.drewN nq⟩
          show RB _ _ ⟨max a0 b0, max a1 b1, max a2 b2, max a3 b3, a4, a5, a6⟩
          rw [e]
          exact HR1.out.drewN nq
        case measure => simp [intOf]
    · have HR1 : Hid (RB wr w.heap.size ⟨max a0 b0, max a1 b1, max a2 b2, max a3 b3, a4, a5, a6⟩) := hr1
      have HR2 : Hid (RB wr (w.heap.size + 1) ⟨b0, b1, b2, b3, b4, b5, b6⟩) := hr2
      have HR3 : Hid (RB wr (w.heap.size + 1 + 1) zero7) := hr3
      clear hr1 hr2 hr3
      obtain ⟨A0, A1, A2, A3, A4, A5, A6⟩ := box7 HR1.out
      obtain ⟨B0, B1, B2, B3, B4, B5, B6⟩ := box7 HR2.out
      obtain ⟨f0, f1, f2, f3, f4, f5, f6⟩ := frozen7 HR1.out
      by_cases h : a4 < b4
      · go_wp2_with fail
        go_quiet (fail)
        go_wp2_with fail
        go_roundw
        case rel =>
          have e : max a4 b4 = b4 := by omega
          refine ⟨5, by omega, rfl, bel_alike (Below.setCell HBW.out (Nat.le_refl _) _) rfl rfl rfl rfl, ?_, (HR2.out.drewN nq).other (by omega), (HR3.out.drewN nq).other (by omega)⟩
          show RB _ _ ⟨max a0 b0, max a1 b1, max a2 b2, max a3 b3, max a4 b4, a5, a6⟩
          rw [e]
          exact (HR1.out.drewN nq).set4 b4
        case measure => simp [intOf]
      · go_wp2_with fail
        go_quiet (fail)
        go_wp2_with fail
        go_roundw
        case rel =>
          have e : max a4 b4 = a4 := by omega
          refine ⟨5, by omega, rfl, bel_alike HBW.out rfl rfl rfl rfl, ?_, HR2.out.drewN nq, HR3.out.drewN nq⟩
          show RB _ _ ⟨max a0 b0, max a1 b1, max a2 b2, max a3 b3, max a4 b4, a5, a6⟩
          rw [e]
          exact HR1.out.drewN nq
        case measure => simp [intOf]
    · have HR1 : Hid (RB wr w.heap.size ⟨max a0 b0, max a1 b1, max a2 b2, max a3 b3, max a4 b4, a5, a6⟩) := hr1
      have HR2 : Hid (RB wr (w.heap.size + 1) ⟨b0, b1, b2, b3, b4, b5, b6⟩) := hr2
      have HR3 : Hid (RB wr (w.heap.size + 1 + 1) zero7) := hr3
      clear hr1 hr2 hr3
      obtain ⟨A0, A1, A2, A3, A4, A5, A6⟩ := box7 HR1.out
      obtain ⟨B0, B1, B2, B3, B4, B5, B6⟩ := box7 HR2.out
      obtain ⟨f0, f1, f2, f3, f4, f5, f6⟩ := frozen7 HR1.out
      by_cases h : a5 < b5
      · go_wp2_with fail
        go_quiet (fail)
        go_wp2_with fail
        go_roundw
        case rel =>
          have e : max a5 b5 = b5 := by omega
          refine ⟨6, by omega, rfl, bel_alike (Below.setCell HBW.out (Nat.le_refl _) _) rfl rfl rfl rfl, ?_, (HR2.out.drewN nq).other (by omega), (HR3.out.drewN nq).other (by omega)⟩
          show RB _ _ ⟨max a0 b0, max a1 b1, max a2 b2, max a3 b3, max a4 b4, max a5 b5, a6⟩
          rw [e]
          exact (HR1.out.drewN nq).set5 b5
        case measure => simp [intOf]
      · go_wp2_with fail
        go_quiet (fail)
        go_wp2_with fail
        go_roundw
        case rel =>
          have e : max a5 b5 = a5 := by omega
          refine ⟨6, by omega, rfl, bel_alike HBW.out rfl rfl rfl rfl, ?_, HR2.out.drewN nq, HR3.out.drewN nq⟩
          show RB _ _ ⟨max a0 b0, max a1 b1, max a2 b2, max a3 b3, max a4 b4, max a5 b5, a6⟩
          rw [e]
          exact HR1.out.drewN nq
        case measure => simp [intOf]
    · have HR1 : Hid (RB wr w.heap.size ⟨max a0 b0, max a1 b1, max a2 b2, max a3 b3, max a4 b4, max a5 b5, a6⟩) := hr1
      have HR2 : Hid (RB wr (w.heap.size + 1) ⟨b0, b1, b2, b3, b4, b5, b6⟩) := hr2
      have HR3 : Hid (RB wr (w.heap.size + 1 + 1) zero7) := hr3
      clear hr1 hr2 hr3
      obtain ⟨A0, A1, A2, A3, A4, A5, A6⟩ := box7 HR1.out
      obtain ⟨B0, B1, B2, B3, B4, B5, B6⟩ := box7 HR2.out
      obtain ⟨f0, f1, f2, f3, f4, f5, f6⟩ := frozen7 HR1.out
      by_cases h : a6 < b6
      · go_wp2_with fail
        go_quiet (fail)
        go_wp2_with fail
        go_roundw
        case rel =>
          have e : max a6 b6 = b6 := by omega
          refine ⟨7, by omega, rfl, bel_alike (Below.setCell HBW.out (Nat.le_refl _) _) rfl rfl rfl rfl, ?_, (HR2.out.drewN nq).other (by omega), (HR3.out.drewN nq).other (by omega)⟩
          show RB _ _ ⟨max a0 b0, max a1 b1, max a2 b2, max a3 b3, max a4 b4, max a5 b5, max a6 b6⟩
          rw [e]
          exact (HR1.out.drewN nq).set6 b6
        case measure => simp [intOf]
      · go_wp2_with fail
        go_quiet (fail)
        go_wp2_with fail
        go_roundw
        case rel =>
          have e : max a6 b6 = a6 := by omega
          refine ⟨7, by omega, rfl, bel_alike HBW.out rfl rfl rfl rfl, ?_, HR2.out.drewN nq, HR3.out.drewN nq⟩
          show RB _ _ ⟨max a0 b0, max a1 b1, max a2 b2, max a3 b3, max a4 b4, max a5 b5, max a6 b6⟩
          rw [e]
          exact HR1.out.drewN nq
        case measure => simp [intOf]
    · have HR1 : Hid (RB wr w.heap.size ⟨max a0 b0, max a1 b1, max a2 b2, max a3 b3, max a4 b4, max a5 b5, max a6 b6⟩) := hr1
      have HR3 : Hid (RB wr (w.heap.size + 1 + 1) ⟨0, 0, 0, 0, 0, 0, 0⟩) := hr3
      clear hr1 hr2 hr3
      obtain ⟨A0, A1, A2, A3, A4, A5, A6⟩ := box7 HR1.out
      obtain ⟨B0, B1, B2, B3, B4, B5, B6⟩ := box7 HR3.out
      obtain ⟨f0, f1, f2, f3, f4, f5, f6⟩ := frozen7 HR3.out
      go_wp2
      refine bodyPost_ret (v := .agg #[_, _, _, _, _, _, _]) (by simp [results, Try.results54, go_sem, *] <;> exact ⟨rfl, rfl, rfl, rfl, rfl, rfl, rfl⟩) rfl ⟨rfl, ?_⟩
      repeat' (refine Below.setCell ?_ (by simp <;> omega) _)
      exact HBW.out
theorem rmerge_at {a b c : V7} (h : C.mrg a b = c) (w : World) : Calls Try.prog 54 #[a.v, b.v] w fun e w' => e = .returned c.v ∧ Below w.heap.size w w' := by
  have := rmerge_any a b w; rw [h] at this; exact this
end Go.Proofs.Ytglmmhgmdhdleaa

namespace Go.Proofs.Ytglmmhgmdhdleaa
open Go.RowKit Go.Lib
set_option linter.unusedVariables false

namespace C
theorem join_take {a l : List Dt} {k : Nat} {x : Dt} (hx : l[k]? = some x) : joinL a (l.take (k + 1)) = insL x (joinL a (l.take k)) := by
  rw [take_snoc hx]; unfold joinL; rw [List.foldl_append]; rfl
end C
def sets8 (w : World) (g : Nat) (r : V7) (u : Value) : World := (((((((w.setCell ⟨g, 0, none⟩ (.int .i64 r.x0)).setCell ⟨g, 1, none⟩ (.int .i64 r.x1)).setCell ⟨g, 2, none⟩ (.int .i64 r.x2)).setCell ⟨g, 3, none⟩ (.int .i64 r.x3)).setCell ⟨g, 4, none⟩ (.int .i64 r.x4)).setCell ⟨g, 5, none⟩ (.int .i64 r.x5)).setCell ⟨g, 6, none⟩ (.int .i64 r.x6)).setCell ⟨g, 7, none⟩ u
theorem rmerge_fin {w WF : World} {g : Nat} {c r : V7} {v vz : Value} {l lr : List C.Dt} (hD : RDAt w g c v l) (hB : Below w.heap.size w WF) (hO : OwnD WF vz lr) (hf : Fresh w vz) : RAddRet w g v ⟨r, lr⟩ (sets8 WF g r vz) := by
  have hgl : g < w.heap.size := (Array.getElem?_eq_some_iff.1 hD.blk).1
  have hne : ∀ b, vz.ownBlock = some b → b ≠ g := fun b hb e => by have := hf b hb; omega
  have hG := hD.below hB
  refine ⟨⟨vz, ⟨?_, hO.same fun b hb => ?_⟩, Or.inr hf⟩, ?_⟩
  · have h := set_block (o := 7) (v := vz) (set_block (o := 6) (v := .int .i64 r.x6) (set_block (o := 5) (v := .int .i64 r.x5) (set_block (o := 4) (v := .int .i64 r.x4) (set_block (o := 3) (v := .int .i64 r.x3) (set_block (o := 2) (v := .int .i64 r.x2) (set_block (o := 1) (v := .int .i64 r.x1) (set_block (o := 0) (v := .int .i64 r.x0) hG.blk)))))))
    simpa [cells8, sets8] using h
  · have hn := hne b hb
    unfold sets8
    rw [set_other hn, set_other hn, set_other hn, set_other hn, set_other hn, set_other hn, set_other hn, set_other hn]
  · have h1 : Turn w WF (fun b => b = g) := Turn.of_below hB
    exact (((((((h1.setCell (b := g) rfl _).setCell (b := g) rfl _).setCell (b := g) rfl _).setCell (b := g) rfl _).setCell (b := g) rfl _).setCell (b := g) rfl _).setCell (b := g) rfl _).setCell (b := g) rfl _
def sets8b (w : World) (g : Nat) (r : V7) (u : Value) : World := (((((((w.setCell ⟨g, 7, none⟩ u).setCell ⟨g, 0, none⟩ (.int .i64 r.x0)).setCell ⟨g, 1, none⟩ (.int .i64 r.x1)).setCell ⟨g, 2, none⟩ (.int .i64 r.x2)).setCell ⟨g, 3, none⟩ (.int .i64 r.x3)).setCell ⟨g, 4, none⟩ (.int .i64 r.x4)).setCell ⟨g, 5, none⟩ (.int .i64 r.x5)).setCell ⟨g, 6, none⟩ (.int .i64 r.x6)
theorem rmerge_fin2 {w WF : World} {g : Nat} {c r : V7} {v vz : Value} {l lr : List C.Dt} (hD : RDAt w g c v l) (hB : Below w.heap.size w WF) (hO : OwnD WF vz lr) (hf : Fresh w vz) : RAddRet w g v ⟨r, lr⟩ (sets8b WF g r vz) := by
  have hgl : g < w.heap.size := (Array.getElem?_eq_some_iff.1 hD.blk).1
  have hne : ∀ b, vz.ownBlock = some b → b ≠ g := fun b hb e => by have := hf b hb; omega
  have hG := hD.below hB
  refine ⟨⟨vz, ⟨?_, hO.same fun b hb => ?_⟩, Or.inr hf⟩, ?_⟩
  · have h := set_block (o := 6) (v := .int .i64 r.x6) (set_block (o := 5) (v := .int .i64 r.x5) (set_block (o := 4) (v := .int .i64 r.x4) (set_block (o := 3) (v := .int .i64 r.x3) (set_block (o := 2) (v := .int .i64 r.x2) (set_block (o := 1) (v := .int .i64 r.x1) (set_block (o := 0) (v := .int .i64 r.x0) (set_block (o := 7) (v := vz) hG.blk)))))))
    simpa [cells8, sets8b] using h
  · have hn := hne b hb
    unfold sets8b
    rw [set_other hn, set_other hn, set_other hn, set_other hn, set_other hn, set_other hn, set_other hn, set_other hn]
  · have h1 : Turn w WF (fun b => b = g) := Turn.of_below hB
    exact (((((((h1.setCell (b := g) rfl _).setCell (b := g) rfl _).setCell (b := g) rfl _).setCell (b := g) rfl _).setCell (b := g) rfl _).setCell (b := g) rfl _).setCell (b := g) rfl _).setCell (b := g) rfl _
/-- A world in which block g and new ones alone were turned. -/
structure TurnG (w : World) (g : Nat) where
  W : World
  h : Turn w W (fun b => b = g)
theorem bt' {w a b : World} {gt : Nat} (h : Below w.heap.size w a) (k : Turn a b (fun x => x = gt)) (hg : w.heap.size ≤ gt) : Below w.heap.size w b :=
  h.trans (k.below h.size fun x hx => by subst hx; exact hg)
set_option maxRecDepth 100000 in
set_option maxHeartbeats 0 in
theorem rmerge_obj (w : World) (g g2 : Nat) (s s2 : C.Ds) (v v2 : Value) (h : RDAt w g s.c v s.l) (h2 : RDAt w g2 s2.c v2 s2.l) (hs : s.Ok) (ho : s2.Ok) (hl : s.l.length + s2.l.length ≤ 1000) :
    Calls Try.prog 25 #[.pointer (some ⟨g, 0, none⟩), .pointer (some ⟨g2, 0, none⟩)] w fun e w' => e = .returned (.bool true) ∧ RAddRet w g v (C.mergeS s s2) w' := by
  have HMAY : Hid (∀ x ∈ C.joinL s.l s2.l, C.may x = true) := C.merge_may hs ho
  have HGOOD : Hid (C.good (C.mrg s.c s2.c) = true) := C.good_mrg hs.good ho.good
  have HJL : Hid ((C.joinL s.l s2.l).length ≤ 1000) := Nat.le_trans (C.join_len _ _) hl
  have HRL : Hid ((C.settleL (C.mrg s.c s2.c) (C.joinL s.l s2.l)).2.length ≤ 1000) := Nat.le_trans (C.merge_len s s2) hl
  have HMS : Hid (C.mergeS s s2 = ⟨(C.settleL (C.mrg s.c s2.c) (C.joinL s.l s2.l)).1, (C.settleL (C.mrg s.c s2.c) (C.joinL s.l s2.l)).2⟩) := rfl
  have HJK : Hid (∀ k, (C.joinL s.l (s2.l.take k)).length ≤ 1000) := fun k => by
    have h1 := C.join_len (s2.l.take k) s.l
    have h2 := List.length_take_le' k s2.l
    omega
  have HMG : Hid (∀ W, Calls Try.prog 54 #[s.c.v, s2.c.v] W fun e w' => e = .returned (C.mrg s.c s2.c).v ∧ Below W.heap.size W w') := fun W => rmerge_any _ _ W
  obtain ⟨S', hS'⟩ : ∃ S', S' = C.mergeS s s2 := ⟨_, rfl⟩
  rw [← hS'] at HMS ⊢
  obtain ⟨⟨t0, t1, t2, t3, t4, t5, t6⟩, lS⟩ := S'
  have HSC : Hid ((⟨t0, t1, t2, t3, t4, t5, t6⟩ : V7) = (C.settleL (C.mrg s.c s2.c) (C.joinL s.l s2.l)).1) := congrArg C.Ds.c HMS.out
  have HSL : Hid (lS = (C.settleL (C.mrg s.c s2.c) (C.joinL s.l s2.l)).2) := congrArg C.Ds.l HMS.out
  clear hS' hs ho HMS
  obtain ⟨c, l⟩ := s
  obtain ⟨c2, l2⟩ := s2
  simp only at *
  obtain ⟨q, cp, hv⟩ := h.row.len
  subst hv
  obtain ⟨q2, cp2, hv2⟩ := h2.row.len
  subst hv2
  obtain ⟨n, hn⟩ : ∃ n, n = l.length := ⟨_, rfl⟩
  obtain ⟨n2, hn2⟩ : ∃ n2, n2 = l2.length := ⟨_, rfl⟩
  have HN : Hid (n = l.length) := hn
  have HN2 : Hid (n2 = l2.length) := hn2
  have HD : Hid (RDAt w g c (.slice q n cp) l) := by show RDAt _ _ _ _ _; rw [hn]; exact h
  have HD2 : Hid (RDAt w g2 c2 (.slice q2 n2 cp2) l2) := by show RDAt _ _ _ _ _; rw [hn2]; exact h2
  rw [← hn] at hl ⊢
  rw [← hn2] at hl
  have HSRC : Hid (∀ W, Below w.heap.size w W → SrcAt W 2 (.slice q n cp) l.length (rowD l)) := fun W hW => row_src (HD.out.row.below hW)
  clear h h2 hn hn2
  obtain ⟨r, hr⟩ : ∃ r, r = C.mrg c c2 := ⟨_, rfl⟩
  rw [← hr] at HMG HGOOD HRL HSC HSL
  clear hr
  obtain ⟨x0, x1, x2, x3, x4, x5, x6⟩ := c
  obtain ⟨y0, y1, y2, y3, y4, y5, y6⟩ := c2
  obtain ⟨r0, r1, r2, r3, r4, r5, r6⟩ := r
  simp only [V7.v] at HMG
  have hne : Nonempty (NewW w) := ⟨NewW.start w⟩
  obtain ⟨a0, a1, a2, a3, a4, a5, a6, a7⟩ := cells8_all HD.out.blk
  obtain ⟨b0, b1, b2, b3, b4, b5, b6, b7⟩ := cells8_all HD2.out.blk
  simp only at a0 a1 a2 a3 a4 a5 a6 b0 b1 b2 b3 b4 b5 b6
  go_enter Try.func25, Try.ntmps25
  go_wp2_with fail
  have hC : ∃ m : NewW w, w.drew = m.v := ⟨⟨w.drew, (Below.refl _ w).drew⟩, rfl⟩
  refine wp_region_held_drew (S := fun w' => ∃ m : NewW w, w' = m.v) (by kernel_rfl) hC (fun _ => ?_)
  have hB : Below w.heap.size w w.drew := (Below.refl _ w).drew
  generalize hW0 : w.drew = W0 at *
  clear hW0
  refine takeList (i := 0) rfl (by kernel_rfl) (by kernel_rfl) (by kernel_rfl) (fun _ _ _ _ h => h) rfl rfl hC (fun K hK => ?_)
  go_big_quiet_op
  refine hK _ ?_
  clear hK K
  refine takeNil (i := 1) rfl rfl rfl (by kernel_rfl) (by kernel_rfl) (by kernel_rfl) (fun _ _ _ _ h => h) rfl hC ?_
  go_simp
  refine takeList (i := 2) rfl (by kernel_rfl) (by kernel_rfl) (by kernel_rfl) (fun _ _ _ _ h => h) rfl rfl hC (fun K hK => ?_)
  go_big_quiet_op
  refine hK _ ?_
  clear hK K
  refine takeList (i := 3) rfl (by kernel_rfl) (by kernel_rfl) (by kernel_rfl) (fun _ _ _ _ h => h) rfl rfl hC (fun K hK => ?_)
  go_big_quiet_op
  refine hK _ ?_
  clear hK K
  refine takeList (i := 4) rfl (by kernel_rfl) (by kernel_rfl) (by kernel_rfl) (fun _ _ _ _ h => h) rfl rfl hC (fun K hK => ?_)
  go_big_quiet_op
  refine hK _ ?_
  clear hK K
  refine takeNil (i := 5) rfl rfl rfl (by kernel_rfl) (by kernel_rfl) (by kernel_rfl) (fun _ _ _ _ h => h) rfl hC ?_
  go_simp
  refine takeList (i := 6) rfl (by kernel_rfl) (by kernel_rfl) (by kernel_rfl) (fun _ _ _ _ h => h) rfl rfl hC (fun K hK => ?_)
  go_big_quiet_op
  refine hK _ ?_
  clear hK K
  refine takeList (i := 7) rfl (by kernel_rfl) (by kernel_rfl) (by kernel_rfl) (fun _ _ _ _ h => h) rfl rfl hC (fun K hK => ?_)
  go_big_quiet_op
  refine hK _ ?_
  clear hK K
  refine takeList (i := 10) rfl (by kernel_rfl) (by kernel_rfl) (by kernel_rfl) (fun _ _ _ _ h => h) rfl rfl hC (fun K hK => ?_)
  go_big_quiet_op
  refine hK _ ?_
  clear hK K
  refine takeNil (i := 11) rfl rfl rfl (by kernel_rfl) (by kernel_rfl) (by kernel_rfl) (fun _ _ _ _ h => h) rfl hC ?_
  go_simp
  refine takeList (i := 12) rfl (by kernel_rfl) (by kernel_rfl) (by kernel_rfl) (fun _ _ _ _ h => h) rfl rfl hC (fun K hK => ?_)
  go_big_quiet_op
  refine hK _ ?_
  clear hK K
  refine takeList (i := 13) rfl (by kernel_rfl) (by kernel_rfl) (by kernel_rfl) (fun _ _ _ _ h => h) rfl rfl hC (fun K hK => ?_)
  go_big_quiet_op
  refine hK _ ?_
  clear hK K
  clear a0 a1 a2 a3 a4 a5 a6 a7 b0 b1 b2 b3 b4 b5 b6 b7
  refine wpAnyH_ready (rs := [8, 9]) (by kernel_rfl) (by simp) (AllReadyH.cons (at_of_drop (i := 8) rfl) (fun K hK => ?_) (AllReadyH.cons (at_of_drop (i := 9) rfl) (fun K hK => ?_) AllReadyH.nil))
  · skip
    go_simp
    refine (HMG.out _).mono ?_
    rintro e W1 ⟨rfl, h3⟩
    replace hB := bt hB h3
    refine hK.out _ _ ⟨⟨_, hB⟩, rfl⟩ (fun hC => ?_)
    go_simp
    clear hK K h3
    refine wpAnyH_ready (rs := [9]) (by kernel_rfl) (by simp) (AllReadyH.cons (at_of_drop (i := 9) rfl) (fun K hK => ?_) AllReadyH.nil)
    rw [if_pos (by rfl)]
    go_simp
    have hal := below_new W1 (.cells #[] 29)
    have hr := OwnD.empty W1
    obtain ⟨vr, hvr⟩ : ∃ vr, Value.slice (some ⟨W1.heap.size, 0, none⟩) 0 0 = vr := ⟨_, rfl⟩
    have hrf : ∀ b, vr.ownBlock = some b → w.heap.size ≤ b := fun b hb => by rw [← hvr] at hb; cases hb; exact hB.size
    rw [hvr] at hr ⊢
    replace hB := bt hB hal
    refine hK.out _ _ ⟨⟨_, hB⟩, rfl⟩ (fun hC => ?_)
    generalize World.alloc W1 (.cells #[] 29) = W2 at *
    clear hK K hal hvr
    refine wpAnyH_ready (rs := [14]) (by kernel_rfl) (by simp) (AllReadyH.cons (at_of_drop (i := 14) rfl) (fun K hK => ?_) AllReadyH.nil)
    refine stepD (ns := l) rfl _ _ rfl rfl hr hrf hB rfl (HSRC.out _ hB) (by have := HN.out; simp <;> omega) ?_
    intro vr W3 hr hrf hB hk
    clear hk
    refine hK.out _ _ ⟨⟨_, hB⟩, rfl⟩ (fun hC => ?_)
    go_simp
    clear hK K
    have HR3 : Hid (OwnD W3 vr ([] ++ l)) := hr
    have HF3 : Hid (Fresh w vr) := hrf
    have HB3 : Hid (Below w.heap.size w W3) := hB
    clear hr hrf hB
    obtain ⟨qr, nr, cr, hvr⟩ := HR3.out.slice
    subst hvr
    refine takeList (i := 15) rfl (by kernel_rfl) (by kernel_rfl) (by kernel_rfl) (fun _ _ _ _ h => h) rfl rfl hC (fun K hK => ?_)
    go_big_quiet_op
    refine hK _ ?_
    clear hK K hne
    refine callList (i := 16) rfl (by kernel_rfl) rfl (fun K hK => ?_)
    go_simp
    refine hK.out _ _ ⟨⟨_, bt HB3.out (below_new W3 _)⟩, rfl⟩ ?_
    clear hK K hC
    have HQ4 : Hid ((World.alloc W3 (.cells (cells8 ⟨r0, r1, r2, r3, r4, r5, r6⟩ (.slice qr nr cr)) 42)).heap[W3.heap.size]? = some (.cells (cells8 ⟨r0, r1, r2, r3, r4, r5, r6⟩ (.slice qr nr cr)) 42)) := heap_alloc_new W3 _
    have HO4 : Hid (OwnD (World.alloc W3 (.cells (cells8 ⟨r0, r1, r2, r3, r4, r5, r6⟩ (.slice qr nr cr)) 42)) (.slice qr nr cr) l) := by show OwnD _ _ _; simpa using HR3.out.below (below_new W3 _)
    have HB4 : Hid (Below w.heap.size w (World.alloc W3 (.cells (cells8 ⟨r0, r1, r2, r3, r4, r5, r6⟩ (.slice qr nr cr)) 42))) := bt HB3.out (below_new W3 _)
    have HGT : Hid (w.heap.size ≤ W3.heap.size) := HB3.out.size
    simp only [cells8] at HQ4 HO4 HB4
    generalize World.alloc W3 _ = W4 at *
    generalize W3.heap.size = gt at *
    have hC : ∃ m : NewW w, W4 = m.v := ⟨⟨_, HB4.out⟩, rfl⟩
    have hne : Nonempty (NewW w) := ⟨NewW.start w⟩
    refine takeList (i := 17) rfl (by kernel_rfl) (by kernel_rfl) (by kernel_rfl) (fun _ _ _ _ h => h) rfl rfl hC (fun K hK => ?_)
    go_big_quiet_op
    refine hK _ ?_
    clear hK K hC hne
    refine wpAnyH_done (by kernel_rfl) ?_ _
    have HDT4 : Hid (RDAt W4 gt ⟨r0, r1, r2, r3, r4, r5, r6⟩ (.slice qr nr cr) l) := ⟨HQ4.out, HO4.out⟩
    clear HQ4 HO4 HB3 HR3
    go_wp2_with fail
    go_loopw [6] (fun s6 wr => ∃ (k : Nat) (lk : List C.Dt) (vt : Value), s6 = .int .i64 k ∧ k ≤ n2 ∧ Hid (lk = C.joinL l (l2.take k)) ∧ Hid (RDAt wr gt ⟨r0, r1, r2, r3, r4, r5, r6⟩ vt lk) ∧ Hid (Fresh w vt) ∧ Hid (Below w.heap.size w wr)) (fun s6 _ => n2 - (intOf s6).toNat)
    case atStart => exact ⟨0, l, .slice qr nr cr, rfl, Nat.zero_le _, rfl, HDT4.out, HF3.out, HB4.out⟩
    case round =>
      clear HDT4 HF3 HB4
      obtain ⟨k, lk, vt, rfl, hkn, HK, HDT, HF, HB⟩ := hrel
      obtain ⟨qq, nn, cc, hvt⟩ := HDT.out.row.slice
      subst hvt
      have z7 : wr.cell? ⟨g2, 7, none⟩ = some (.slice q2 n2 cp2) := (held8 (HD2.out.below HB.out).blk (Below.refl _ _) 7).1
      by_cases hlt : k < n2
      · obtain ⟨x, hx⟩ : ∃ x, l2[k]? = some x := ⟨_, List.getElem?_eq_getElem (by have := HN2.out; omega)⟩
        obtain ⟨gb, cap, hvs⟩ := HD2.out.row.at (by have := HN2.out; omega)
        rw [← HN2.out] at hvs
        cases hvs
        obtain ⟨u0, u1⟩ := OwnD.cell (HD2.out.below HB.out).row k x hx
        have y7 : wr.cell? ⟨gt, 7, none⟩ = some (.slice qq nn cc) := (held8 HDT.out.blk (Below.refl _ _) 7).1
        obtain ⟨lk', hlk'⟩ : ∃ lk', lk' = C.insL x lk := ⟨_, rfl⟩
        have HK' : Hid (lk' = C.joinL l (l2.take (k + 1))) := by show lk' = _; rw [C.join_take hx, ← HK.out, hlk']
        have HINS : Hid (∀ W, Below wr.heap.size wr W → Calls Try.prog 43 #[.slice qq nn cc, .agg #[.int .i64 x.1, .int .i64 x.2]] W fun e w' => (∃ v', e = .returned v' ∧ OwnD w' v' lk' ∧ (v' = .slice qq nn cc ∨ ∀ b, v'.ownBlock = some b → W.heap.size ≤ b)) ∧ Below W.heap.size W w') := fun W hW => by rw [hlk']; exact rinsert_any _ lk x.1 x.2 W (HDT.out.row.below hW) (by have h1 := HJK.out k; have h2 := HK.out; rw [h2]; omega)
        clear hx hlk'
        obtain ⟨d1, d2⟩ := x
        simp only at u0 u1 HINS
        go_wp2_with fail
        go_region_with ((go_at_call 43; refine (HINS.out wr.drew ((Below.refl _ wr).drew)).mono ?_; rintro e w5 ⟨⟨v', rfl, h1, h2⟩, h3⟩; obtain ⟨q5, n5, c5, rfl⟩ := h1.slice; have HR5 : Hid (RIn wr gt ⟨r0, r1, r2, r3, r4, r5, r6⟩ (.slice qq nn cc) lk lk' (.slice q5 n5 c5) w5) := rin_of HDT.out (bt ((Below.refl _ wr).drew) h3) h1 h2; obtain ⟨q7, f7⟩ := held8 HR5.out.2.1.blk (Below.refl _ _) 7; simp only [cells8_seven] at q7; clear h1 h2 h3))
        all_goals
          go_wp2
          go_roundw
          case rel =>
            refine ⟨k + 1, lk', .slice q5 n5 c5, by go_num, by omega, HK'.out, rin_set HR5.out, fun b hb => ?_, ?_⟩
            · rcases HR5.out.2.2.2.2 with h5 | h5
              · rw [h5] at hb; exact HF.out b hb
              · exact Nat.le_trans HB.out.size (h5 b hb)
            · exact Below.setCell (bt HB.out HR5.out.1) HGT.out _
          case measure => simp [intOf]; omega
      · obtain rfl : k = n2 := by omega
        have htk : l2.take k = l2 := List.take_of_length_le (by rw [← HN2.out]; exact Nat.le_refl _)
        rw [htk] at HK
        go_wp2_with fail
        refine (rclose_any _ gt ⟨r0, r1, r2, r3, r4, r5, r6⟩ (.slice qq nn cc) lk HDT.out (by have h1 := HJL.out; rw [HK.out]; omega) HGOOD.out (by rw [HK.out]; exact HMAY.out)).mono ?_
        rintro e w6 ⟨rfl, ⟨v6, h6, hf6⟩, ht6⟩
        rw [HK.out, ← HSC.out, ← HSL.out] at h6
        have HB6 : Hid (Below w.heap.size w w6) := bt' HB.out ht6 HGT.out
        have HF6 : Hid (Fresh w v6) := fun b hb => Nat.le_trans HB.out.size (hf6 b hb)
        obtain ⟨q6, n6, c6, hv6⟩ := h6.row.slice
        subst hv6
        have HN6 : Hid (n6 = lS.length) := by obtain ⟨qa, ca, e⟩ := h6.row.len; cases e; rfl
        have HD6 : Hid (RDAt w6 gt ⟨t0, t1, t2, t3, t4, t5, t6⟩ (.slice q6 n6 c6) lS) := h6
        have HG6 : Hid (RDAt w6 g ⟨x0, x1, x2, x3, x4, x5, x6⟩ (.slice q n cp) l) := HD.out.below HB6.out
        have hle : (n6 : Int) ≤ 1000 := by have h1 := HN6.out; have h2 := HRL.out; rw [← HSL.out] at h2; omega
        have hgg : gt ≠ g := fun e => by have h1 := (Array.getElem?_eq_some_iff.1 HD.out.blk).1; have h2 := HGT.out; omega
        have hgg' : g ≠ gt := fun e => hgg e.symm
        clear h6 hf6 ht6 z7
        have e7 : w6.cell? ⟨gt, 7, none⟩ = some (.slice q6 n6 c6) := (held8 HD6.out.blk (Below.refl _ _) 7).1
        have hgl6 : gt < w6.heap.size := (Array.getElem?_eq_some_iff.1 HD6.out.blk).1
        have hgt6 : ∀ t : TurnG w6 g, t.W.heap[gt]? = some (.cells (cells8 ⟨t0, t1, t2, t3, t4, t5, t6⟩ (.slice q6 n6 c6)) 42) := fun t => by rw [t.h.block gt hgl6 hgg]; exact HD6.out.blk
        go_wp2_with fail
        clear e7
        have hno : Nonempty (TurnG w6 g) := ⟨⟨w6.drew, (Turn.refl _ _).drew⟩⟩
        have b0 : ∀ t : TurnG w6 g, t.W.cell? ⟨gt, 0, none⟩ = some (.int .i64 t0) := fun t => (held8 (hgt6 t) (Below.refl _ _) 0).1
        have b1 : ∀ t : TurnG w6 g, t.W.cell? ⟨gt, 1, none⟩ = some (.int .i64 t1) := fun t => (held8 (hgt6 t) (Below.refl _ _) 1).1
        have b2 : ∀ t : TurnG w6 g, t.W.cell? ⟨gt, 2, none⟩ = some (.int .i64 t2) := fun t => (held8 (hgt6 t) (Below.refl _ _) 2).1
        have b3 : ∀ t : TurnG w6 g, t.W.cell? ⟨gt, 3, none⟩ = some (.int .i64 t3) := fun t => (held8 (hgt6 t) (Below.refl _ _) 3).1
        have b4 : ∀ t : TurnG w6 g, t.W.cell? ⟨gt, 4, none⟩ = some (.int .i64 t4) := fun t => (held8 (hgt6 t) (Below.refl _ _) 4).1
        have b5 : ∀ t : TurnG w6 g, t.W.cell? ⟨gt, 5, none⟩ = some (.int .i64 t5) := fun t => (held8 (hgt6 t) (Below.refl _ _) 5).1
        have b6 : ∀ t : TurnG w6 g, t.W.cell? ⟨gt, 6, none⟩ = some (.int .i64 t6) := fun t => (held8 (hgt6 t) (Below.refl _ _) 6).1
        have b7 : ∀ t : TurnG w6 g, t.W.cell? ⟨gt, 7, none⟩ = some (.slice q6 n6 c6) := fun t => (held8 (hgt6 t) (Below.refl _ _) 7).1
        have hC : ∃ t : TurnG w6 g, w6.drew = t.W := ⟨⟨w6.drew, (Turn.refl _ _).drew⟩, rfl⟩
        refine wp_region_held_drew (S := fun w' => ∃ t : TurnG w6 g, w' = t.W) (by kernel_rfl) hC (fun _ => ?_)
        have hG0 : RDAt w6.drew g ⟨x0, x1, x2, x3, x4, x5, x6⟩ (.slice q n cp) l := HG6.out.below ((Below.refl _ w6).drew)
        have hT0 : Turn w6 w6.drew (fun b => b = g) := (Turn.refl _ _).drew
        have hB0 : Below w.heap.size w w6.drew := HB6.out.drew
        have hO0 : OwnD w6.drew (.slice q6 n6 c6) lS := HD6.out.row.below ((Below.refl _ w6).drew)
        generalize hW0 : w6.drew = W0 at *
        clear hW0 hgt6 hgl6
        refine takeList (i := 0) rfl (by kernel_rfl) (by kernel_rfl) (by kernel_rfl) (fun _ _ _ _ h => h) rfl rfl hC (fun K hK => ?_)
        go_big_quiet_op
        refine hK _ ?_
        clear hK K
        refine takeList (i := 1) rfl (by kernel_rfl) (by kernel_rfl) (by kernel_rfl) (fun _ _ _ _ h => h) rfl rfl hC (fun K hK => ?_)
        go_big_quiet_op
        refine hK _ ?_
        clear hK K
        refine takeList (i := 2) rfl (by kernel_rfl) (by kernel_rfl) (by kernel_rfl) (fun _ _ _ _ h => h) rfl rfl hC (fun K hK => ?_)
        go_big_quiet_op
        refine hK _ ?_
        clear hK K
        refine takeNil (i := 3) rfl rfl rfl (by kernel_rfl) (by kernel_rfl) (by kernel_rfl) (fun _ _ _ _ h => h) rfl hC ?_
        go_simp
        refine takeList (i := 4) rfl (by kernel_rfl) (by kernel_rfl) (by kernel_rfl) (fun _ _ _ _ h => h) rfl rfl hC (fun K hK => ?_)
        go_big_quiet_op
        refine hK _ ?_
        clear hK K
        refine takeList (i := 5) rfl (by kernel_rfl) (by kernel_rfl) (by kernel_rfl) (fun _ _ _ _ h => h) rfl rfl hC (fun K hK => ?_)
        go_big_quiet_op
        refine hK _ ?_
        clear hK K
        refine takeList (i := 6) rfl (by kernel_rfl) (by kernel_rfl) (by kernel_rfl) (fun _ _ _ _ h => h) rfl rfl hC (fun K hK => ?_)
        go_big_quiet_op
        refine hK _ ?_
        clear hK K
        refine takeNil (i := 7) rfl rfl rfl (by kernel_rfl) (by kernel_rfl) (by kernel_rfl) (fun _ _ _ _ h => h) rfl hC ?_
        go_simp
        refine takeList (i := 8) rfl (by kernel_rfl) (by kernel_rfl) (by kernel_rfl) (fun _ _ _ _ h => h) rfl rfl hC (fun K hK => ?_)
        go_big_quiet_op
        refine hK _ ?_
        clear hK K
        refine takeList (i := 9) rfl (by kernel_rfl) (by kernel_rfl) (by kernel_rfl) (fun _ _ _ _ h => h) rfl rfl hC (fun K hK => ?_)
        go_big_quiet_op
        refine hK _ ?_
        clear hK K
        refine takeNil (i := 10) rfl rfl rfl (by kernel_rfl) (by kernel_rfl) (by kernel_rfl) (fun _ _ _ _ h => h) rfl hC ?_
        go_simp
        refine takeList (i := 11) rfl (by kernel_rfl) (by kernel_rfl) (by kernel_rfl) (fun _ _ _ _ h => h) rfl rfl hC (fun K hK => ?_)
        go_big_quiet_op
        refine hK _ ?_
        clear hK K
        clear b0 b1 b2 b3 b4 b5 b6 b7
        obtain ⟨f0, f1, f2, f3, f4, f5, f6, f7⟩ : W0.frozen? ⟨g, 0, none⟩ = false ∧ W0.frozen? ⟨g, 1, none⟩ = false ∧ W0.frozen? ⟨g, 2, none⟩ = false ∧ W0.frozen? ⟨g, 3, none⟩ = false ∧ W0.frozen? ⟨g, 4, none⟩ = false ∧ W0.frozen? ⟨g, 5, none⟩ = false ∧ W0.frozen? ⟨g, 6, none⟩ = false ∧ W0.frozen? ⟨g, 7, none⟩ = false := by simp [World.frozen?, hG0.blk]
        obtain ⟨c0', c1', c2', c3', c4', c5', c6', c7'⟩ := cells8_at hG0.blk
        simp only at c0' c1' c2' c3' c4' c5' c6'
        refine callList (i := 12) rfl (by kernel_rfl) rfl (fun K hK => ?_)
        go_simp
        generalize hWF : World.setCell _ _ _ = WF
        have hTF : Turn w6 WF (fun b => b = g) := by
          rw [← hWF]
          iterate 7 refine Turn.setCell (S := fun b => b = g) (b := g) ?_ rfl _
          exact hT0
        have hqF : WF.heap[g]? = some (.cells (cells8 ⟨t0, t1, t2, t3, t4, t5, t6⟩ (.slice q n cp)) 42) := by
          rw [← hWF]
          exact (set_block (set_block (set_block (set_block (set_block (set_block (set_block hG0.blk)))))))
        clear f0 f1 f2 f3 f4 f5 f6 f7 c0' c1' c2' c3' c4' c5' c6' c7'
        refine hK.out _ _ ⟨⟨WF, hTF⟩, rfl⟩ ?_
        clear hK K hC
        have hC : ∃ t : TurnG w6 g, WF = t.W := ⟨⟨WF, hTF⟩, rfl⟩
        refine takeNil (i := 13) rfl rfl rfl (by kernel_rfl) (by kernel_rfl) (by kernel_rfl) (fun _ _ _ _ h => h) rfl hC ?_
        go_simp
        refine takeList (i := 14) rfl (by kernel_rfl) (by kernel_rfl) (by kernel_rfl) (fun _ _ _ _ h => h) rfl rfl hC (fun K hK => ?_)
        go_big_quiet_op
        refine hK _ ?_
        clear hK K
        clear hno
        obtain ⟨k7, f7⟩ := held8 hqF (Below.refl _ _) 7
        simp only [cells8_seven] at k7
        refine callList (i := 15) rfl (by kernel_rfl) rfl (fun K hK => ?_)
        go_simp
        refine hK.out _ _ ⟨⟨_, hTF.setCell (b := g) rfl _⟩, rfl⟩ ?_
        clear hK K hC
        refine wpAnyH_done (by kernel_rfl) ?_ _
        go_wp2
        go_ret
        refine ⟨rfl, ?_⟩
        rw [← hWF]
        exact rmerge_fin (r := ⟨t0, t1, t2, t3, t4, t5, t6⟩) HD.out hB0 hO0 HF6.out
  · skip
    rw [if_pos (by rfl)]
    go_simp
    have hal := below_new W0 (.cells #[] 29)
    have hr := OwnD.empty W0
    obtain ⟨vr, hvr⟩ : ∃ vr, Value.slice (some ⟨W0.heap.size, 0, none⟩) 0 0 = vr := ⟨_, rfl⟩
    have hrf : ∀ b, vr.ownBlock = some b → w.heap.size ≤ b := fun b hb => by rw [← hvr] at hb; cases hb; exact hB.size
    rw [hvr] at hr ⊢
    replace hB := bt hB hal
    refine hK.out _ _ ⟨⟨_, hB⟩, rfl⟩ (fun hC => ?_)
    generalize World.alloc W0 (.cells #[] 29) = W1 at *
    clear hK K hal hvr
    refine wpAnyH_ready (rs := [8]) (by kernel_rfl) (by simp) (AllReadyH.cons (at_of_drop (i := 8) rfl) (fun K hK => ?_) AllReadyH.nil)
    go_simp
    refine (HMG.out _).mono ?_
    rintro e W2 ⟨rfl, h3⟩
    replace hr := OwnD.below hr h3
    replace hB := bt hB h3
    refine hK.out _ _ ⟨⟨_, hB⟩, rfl⟩ (fun hC => ?_)
    go_simp
    clear hK K h3
    refine wpAnyH_ready (rs := [14]) (by kernel_rfl) (by simp) (AllReadyH.cons (at_of_drop (i := 14) rfl) (fun K hK => ?_) AllReadyH.nil)
    refine stepD (ns := l) rfl _ _ rfl rfl hr hrf hB rfl (HSRC.out _ hB) (by have := HN.out; simp <;> omega) ?_
    intro vr W3 hr hrf hB hk
    clear hk
    refine hK.out _ _ ⟨⟨_, hB⟩, rfl⟩ (fun hC => ?_)
    go_simp
    clear hK K
    have HR3 : Hid (OwnD W3 vr ([] ++ l)) := hr
    have HF3 : Hid (Fresh w vr) := hrf
    have HB3 : Hid (Below w.heap.size w W3) := hB
    clear hr hrf hB
    obtain ⟨qr, nr, cr, hvr⟩ := HR3.out.slice
    subst hvr
    refine takeList (i := 15) rfl (by kernel_rfl) (by kernel_rfl) (by kernel_rfl) (fun _ _ _ _ h => h) rfl rfl hC (fun K hK => ?_)
    go_big_quiet_op
    refine hK _ ?_
    clear hK K hne
    refine callList (i := 16) rfl (by kernel_rfl) rfl (fun K hK => ?_)
    go_simp
    refine hK.out _ _ ⟨⟨_, bt HB3.out (below_new W3 _)⟩, rfl⟩ ?_
    clear hK K hC
    have HQ4 : Hid ((World.alloc W3 (.cells (cells8 ⟨r0, r1, r2, r3, r4, r5, r6⟩ (.slice qr nr cr)) 42)).heap[W3.heap.size]? = some (.cells (cells8 ⟨r0, r1, r2, r3, r4, r5, r6⟩ (.slice qr nr cr)) 42)) := heap_alloc_new W3 _
    have HO4 : Hid (OwnD (World.alloc W3 (.cells (cells8 ⟨r0, r1, r2, r3, r4, r5, r6⟩ (.slice qr nr cr)) 42)) (.slice qr nr cr) l) := by show OwnD _ _ _; simpa using HR3.out.below (below_new W3 _)
    have HB4 : Hid (Below w.heap.size w (World.alloc W3 (.cells (cells8 ⟨r0, r1, r2, r3, r4, r5, r6⟩ (.slice qr nr cr)) 42))) := bt HB3.out (below_new W3 _)
    have HGT : Hid (w.heap.size ≤ W3.heap.size) := HB3.out.size
    simp only [cells8] at HQ4 HO4 HB4
    generalize World.alloc W3 _ = W4 at *
    generalize W3.heap.size = gt at *
    have hC : ∃ m : NewW w, W4 = m.v := ⟨⟨_, HB4.out⟩, rfl⟩
    have hne : Nonempty (NewW w) := ⟨NewW.start w⟩
    refine takeList (i := 17) rfl (by kernel_rfl) (by kernel_rfl) (by kernel_rfl) (fun _ _ _ _ h => h) rfl rfl hC (fun K hK => ?_)
    go_big_quiet_op
    refine hK _ ?_
    clear hK K hC hne
    refine wpAnyH_done (by kernel_rfl) ?_ _
    have HDT4 : Hid (RDAt W4 gt ⟨r0, r1, r2, r3, r4, r5, r6⟩ (.slice qr nr cr) l) := ⟨HQ4.out, HO4.out⟩
    clear HQ4 HO4 HB3 HR3
    go_wp2_with fail
    go_loopw [6] (fun s6 wr => ∃ (k : Nat) (lk : List C.Dt) (vt : Value), s6 = .int .i64 k ∧ k ≤ n2 ∧ Hid (lk = C.joinL l (l2.take k)) ∧ Hid (RDAt wr gt ⟨r0, r1, r2, r3, r4, r5, r6⟩ vt lk) ∧ Hid (Fresh w vt) ∧ Hid (Below w.heap.size w wr)) (fun s6 _ => n2 - (intOf s6).toNat)
    case atStart => exact ⟨0, l, .slice qr nr cr, rfl, Nat.zero_le _, rfl, HDT4.out, HF3.out, HB4.out⟩
    case round =>
      clear HDT4 HF3 HB4
      obtain ⟨k, lk, vt, rfl, hkn, HK, HDT, HF, HB⟩ := hrel
      obtain ⟨qq, nn, cc, hvt⟩ := HDT.out.row.slice
      subst hvt
      have z7 : wr.cell? ⟨g2, 7, none⟩ = some (.slice q2 n2 cp2) := (held8 (HD2.out.below HB.out).blk (Below.refl _ _) 7).1
      by_cases hlt : k < n2
      · obtain ⟨x, hx⟩ : ∃ x, l2[k]? = some x := ⟨_, List.getElem?_eq_getElem (by have := HN2.out; omega)⟩
        obtain ⟨gb, cap, hvs⟩ := HD2.out.row.at (by have := HN2.out; omega)
        rw [← HN2.out] at hvs
        cases hvs
        obtain ⟨u0, u1⟩ := OwnD.cell (HD2.out.below HB.out).row k x hx
        have y7 : wr.cell? ⟨gt, 7, none⟩ = some (.slice qq nn cc) := (held8 HDT.out.blk (Below.refl _ _) 7).1
        obtain ⟨lk', hlk'⟩ : ∃ lk', lk' = C.insL x lk := ⟨_, rfl⟩
        have HK' : Hid (lk' = C.joinL l (l2.take (k + 1))) := by show lk' = _; rw [C.join_take hx, ← HK.out, hlk']
        have HINS : Hid (∀ W, Below wr.heap.size wr W → Calls Try.prog 43 #[.slice qq nn cc, .agg #[.int .i64 x.1, .int .i64 x.2]] W fun e w' => (∃ v', e = .returned v' ∧ OwnD w' v' lk' ∧ (v' = .slice qq nn cc ∨ ∀ b, v'.ownBlock = some b → W.heap.size ≤ b)) ∧ Below W.heap.size W w') := fun W hW => by rw [hlk']; exact rinsert_any _ lk x.1 x.2 W (HDT.out.row.below hW) (by have h1 := HJK.out k; have h2 := HK.out; rw [h2]; omega)
        clear hx hlk'
        obtain ⟨d1, d2⟩ := x
        simp only at u0 u1 HINS
        go_wp2_with fail
        go_region_with ((go_at_call 43; refine (HINS.out wr.drew ((Below.refl _ wr).drew)).mono ?_; rintro e w5 ⟨⟨v', rfl, h1, h2⟩, h3⟩; obtain ⟨q5, n5, c5, rfl⟩ := h1.slice; have HR5 : Hid (RIn wr gt ⟨r0, r1, r2, r3, r4, r5, r6⟩ (.slice qq nn cc) lk lk' (.slice q5 n5 c5) w5) := rin_of HDT.out (bt ((Below.refl _ wr).drew) h3) h1 h2; obtain ⟨q7, f7⟩ := held8 HR5.out.2.1.blk (Below.refl _ _) 7; simp only [cells8_seven] at q7; clear h1 h2 h3))
        all_goals
          go_wp2
          go_roundw
          case rel =>
            refine ⟨k + 1, lk', .slice q5 n5 c5, by go_num, by omega, HK'.out, rin_set HR5.out, fun b hb => ?_, ?_⟩
            · rcases HR5.out.2.2.2.2 with h5 | h5
              · rw [h5] at hb; exact HF.out b hb
              · exact Nat.le_trans HB.out.size (h5 b hb)
            · exact Below.setCell (bt HB.out HR5.out.1) HGT.out _
          case measure => simp [intOf]; omega
      · obtain rfl : k = n2 := by omega
        have htk : l2.take k = l2 := List.take_of_length_le (by rw [← HN2.out]; exact Nat.le_refl _)
        rw [htk] at HK
        go_wp2_with fail
        refine (rclose_any _ gt ⟨r0, r1, r2, r3, r4, r5, r6⟩ (.slice qq nn cc) lk HDT.out (by have h1 := HJL.out; rw [HK.out]; omega) HGOOD.out (by rw [HK.out]; exact HMAY.out)).mono ?_
        rintro e w6 ⟨rfl, ⟨v6, h6, hf6⟩, ht6⟩
        rw [HK.out, ← HSC.out, ← HSL.out] at h6
        have HB6 : Hid (Below w.heap.size w w6) := bt' HB.out ht6 HGT.out
        have HF6 : Hid (Fresh w v6) := fun b hb => Nat.le_trans HB.out.size (hf6 b hb)
        obtain ⟨q6, n6, c6, hv6⟩ := h6.row.slice
        subst hv6
        have HN6 : Hid (n6 = lS.length) := by obtain ⟨qa, ca, e⟩ := h6.row.len; cases e; rfl
        have HD6 : Hid (RDAt w6 gt ⟨t0, t1, t2, t3, t4, t5, t6⟩ (.slice q6 n6 c6) lS) := h6
        have HG6 : Hid (RDAt w6 g ⟨x0, x1, x2, x3, x4, x5, x6⟩ (.slice q n cp) l) := HD.out.below HB6.out
        have hle : (n6 : Int) ≤ 1000 := by have h1 := HN6.out; have h2 := HRL.out; rw [← HSL.out] at h2; omega
        have hgg : gt ≠ g := fun e => by have h1 := (Array.getElem?_eq_some_iff.1 HD.out.blk).1; have h2 := HGT.out; omega
        have hgg' : g ≠ gt := fun e => hgg e.symm
        clear h6 hf6 ht6 z7
        have e7 : w6.cell? ⟨gt, 7, none⟩ = some (.slice q6 n6 c6) := (held8 HD6.out.blk (Below.refl _ _) 7).1
        have hgl6 : gt < w6.heap.size := (Array.getElem?_eq_some_iff.1 HD6.out.blk).1
        have hgt6 : ∀ t : TurnG w6 g, t.W.heap[gt]? = some (.cells (cells8 ⟨t0, t1, t2, t3, t4, t5, t6⟩ (.slice q6 n6 c6)) 42) := fun t => by rw [t.h.block gt hgl6 hgg]; exact HD6.out.blk
        go_wp2_with fail
        clear e7
        have hno : Nonempty (TurnG w6 g) := ⟨⟨w6.drew, (Turn.refl _ _).drew⟩⟩
        have b0 : ∀ t : TurnG w6 g, t.W.cell? ⟨gt, 0, none⟩ = some (.int .i64 t0) := fun t => (held8 (hgt6 t) (Below.refl _ _) 0).1
        have b1 : ∀ t : TurnG w6 g, t.W.cell? ⟨gt, 1, none⟩ = some (.int .i64 t1) := fun t => (held8 (hgt6 t) (Below.refl _ _) 1).1
        have b2 : ∀ t : TurnG w6 g, t.W.cell? ⟨gt, 2, none⟩ = some (.int .i64 t2) := fun t => (held8 (hgt6 t) (Below.refl _ _) 2).1
        have b3 : ∀ t : TurnG w6 g, t.W.cell? ⟨gt, 3, none⟩ = some (.int .i64 t3) := fun t => (held8 (hgt6 t) (Below.refl _ _) 3).1
        have b4 : ∀ t : TurnG w6 g, t.W.cell? ⟨gt, 4, none⟩ = some (.int .i64 t4) := fun t => (held8 (hgt6 t) (Below.refl _ _) 4).1
        have b5 : ∀ t : TurnG w6 g, t.W.cell? ⟨gt, 5, none⟩ = some (.int .i64 t5) := fun t => (held8 (hgt6 t) (Below.refl _ _) 5).1
        have b6 : ∀ t : TurnG w6 g, t.W.cell? ⟨gt, 6, none⟩ = some (.int .i64 t6) := fun t => (held8 (hgt6 t) (Below.refl _ _) 6).1
        have b7 : ∀ t : TurnG w6 g, t.W.cell? ⟨gt, 7, none⟩ = some (.slice q6 n6 c6) := fun t => (held8 (hgt6 t) (Below.refl _ _) 7).1
        have hC : ∃ t : TurnG w6 g, w6.drew = t.W := ⟨⟨w6.drew, (Turn.refl _ _).drew⟩, rfl⟩
        refine wp_region_held_drew (S := fun w' => ∃ t : TurnG w6 g, w' = t.W) (by kernel_rfl) hC (fun _ => ?_)
        have hG0 : RDAt w6.drew g ⟨x0, x1, x2, x3, x4, x5, x6⟩ (.slice q n cp) l := HG6.out.below ((Below.refl _ w6).drew)
        have hT0 : Turn w6 w6.drew (fun b => b = g) := (Turn.refl _ _).drew
        have hB0 : Below w.heap.size w w6.drew := HB6.out.drew
        have hO0 : OwnD w6.drew (.slice q6 n6 c6) lS := HD6.out.row.below ((Below.refl _ w6).drew)
        generalize hW0 : w6.drew = W0 at *
        clear hW0 hgt6 hgl6
        refine takeList (i := 0) rfl (by kernel_rfl) (by kernel_rfl) (by kernel_rfl) (fun _ _ _ _ h => h) rfl rfl hC (fun K hK => ?_)
        go_big_quiet_op
        refine hK _ ?_
        clear hK K
        refine takeList (i := 1) rfl (by kernel_rfl) (by kernel_rfl) (by kernel_rfl) (fun _ _ _ _ h => h) rfl rfl hC (fun K hK => ?_)
        go_big_quiet_op
        refine hK _ ?_
        clear hK K
        refine takeList (i := 2) rfl (by kernel_rfl) (by kernel_rfl) (by kernel_rfl) (fun _ _ _ _ h => h) rfl rfl hC (fun K hK => ?_)
        go_big_quiet_op
        refine hK _ ?_
        clear hK K
        refine takeNil (i := 3) rfl rfl rfl (by kernel_rfl) (by kernel_rfl) (by kernel_rfl) (fun _ _ _ _ h => h) rfl hC ?_
        go_simp
        refine takeList (i := 4) rfl (by kernel_rfl) (by kernel_rfl) (by kernel_rfl) (fun _ _ _ _ h => h) rfl rfl hC (fun K hK => ?_)
        go_big_quiet_op
        refine hK _ ?_
        clear hK K
        refine takeList (i := 5) rfl (by kernel_rfl) (by kernel_rfl) (by kernel_rfl) (fun _ _ _ _ h => h) rfl rfl hC (fun K hK => ?_)
        go_big_quiet_op
        refine hK _ ?_
        clear hK K
        refine takeList (i := 6) rfl (by kernel_rfl) (by kernel_rfl) (by kernel_rfl) (fun _ _ _ _ h => h) rfl rfl hC (fun K hK => ?_)
        go_big_quiet_op
        refine hK _ ?_
        clear hK K
        refine takeNil (i := 7) rfl rfl rfl (by kernel_rfl) (by kernel_rfl) (by kernel_rfl) (fun _ _ _ _ h => h) rfl hC ?_
        go_simp
        refine takeList (i := 8) rfl (by kernel_rfl) (by kernel_rfl) (by kernel_rfl) (fun _ _ _ _ h => h) rfl rfl hC (fun K hK => ?_)
        go_big_quiet_op
        refine hK _ ?_
        clear hK K
        refine takeList (i := 9) rfl (by kernel_rfl) (by kernel_rfl) (by kernel_rfl) (fun _ _ _ _ h => h) rfl rfl hC (fun K hK => ?_)
        go_big_quiet_op
        refine hK _ ?_
        clear hK K
        refine takeNil (i := 10) rfl rfl rfl (by kernel_rfl) (by kernel_rfl) (by kernel_rfl) (fun _ _ _ _ h => h) rfl hC ?_
        go_simp
        refine takeList (i := 11) rfl (by kernel_rfl) (by kernel_rfl) (by kernel_rfl) (fun _ _ _ _ h => h) rfl rfl hC (fun K hK => ?_)
        go_big_quiet_op
        refine hK _ ?_
        clear hK K
        clear b0 b1 b2 b3 b4 b5 b6 b7
        obtain ⟨f0, f1, f2, f3, f4, f5, f6, f7⟩ : W0.frozen? ⟨g, 0, none⟩ = false ∧ W0.frozen? ⟨g, 1, none⟩ = false ∧ W0.frozen? ⟨g, 2, none⟩ = false ∧ W0.frozen? ⟨g, 3, none⟩ = false ∧ W0.frozen? ⟨g, 4, none⟩ = false ∧ W0.frozen? ⟨g, 5, none⟩ = false ∧ W0.frozen? ⟨g, 6, none⟩ = false ∧ W0.frozen? ⟨g, 7, none⟩ = false := by simp [World.frozen?, hG0.blk]
        obtain ⟨c0', c1', c2', c3', c4', c5', c6', c7'⟩ := cells8_at hG0.blk
        simp only at c0' c1' c2' c3' c4' c5' c6'
        refine callList (i := 12) rfl (by kernel_rfl) rfl (fun K hK => ?_)
        go_simp
        generalize hWF : World.setCell _ _ _ = WF
        have hTF : Turn w6 WF (fun b => b = g) := by
          rw [← hWF]
          iterate 7 refine Turn.setCell (S := fun b => b = g) (b := g) ?_ rfl _
          exact hT0
        have hqF : WF.heap[g]? = some (.cells (cells8 ⟨t0, t1, t2, t3, t4, t5, t6⟩ (.slice q n cp)) 42) := by
          rw [← hWF]
          exact (set_block (set_block (set_block (set_block (set_block (set_block (set_block hG0.blk)))))))
        clear f0 f1 f2 f3 f4 f5 f6 f7 c0' c1' c2' c3' c4' c5' c6' c7'
        refine hK.out _ _ ⟨⟨WF, hTF⟩, rfl⟩ ?_
        clear hK K hC
        have hC : ∃ t : TurnG w6 g, WF = t.W := ⟨⟨WF, hTF⟩, rfl⟩
        refine takeNil (i := 13) rfl rfl rfl (by kernel_rfl) (by kernel_rfl) (by kernel_rfl) (fun _ _ _ _ h => h) rfl hC ?_
        go_simp
        refine takeList (i := 14) rfl (by kernel_rfl) (by kernel_rfl) (by kernel_rfl) (fun _ _ _ _ h => h) rfl rfl hC (fun K hK => ?_)
        go_big_quiet_op
        refine hK _ ?_
        clear hK K
        clear hno
        obtain ⟨k7, f7⟩ := held8 hqF (Below.refl _ _) 7
        simp only [cells8_seven] at k7
        refine callList (i := 15) rfl (by kernel_rfl) rfl (fun K hK => ?_)
        go_simp
        refine hK.out _ _ ⟨⟨_, hTF.setCell (b := g) rfl _⟩, rfl⟩ ?_
        clear hK K hC
        refine wpAnyH_done (by kernel_rfl) ?_ _
        go_wp2
        go_ret
        refine ⟨rfl, ?_⟩
        rw [← hWF]
        exact rmerge_fin (r := ⟨t0, t1, t2, t3, t4, t5, t6⟩) HD.out hB0 hO0 HF6.out
end Go.Proofs.Ytglmmhgmdhdleaa
