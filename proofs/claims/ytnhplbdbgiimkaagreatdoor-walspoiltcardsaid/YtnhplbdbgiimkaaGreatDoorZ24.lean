/-
  Several texts in one: WTakeZ, WTakeA, LOpen.
-/
import Derived.Test.YtnhplbdbgiimkaaGreatDoorZ23
import Derived.BigRegion
import Derived.Test.YtnhplbdbgiimkaaGreatDoorZ3
namespace Go.Proofs.YtnhplbdbgiimkaaGreatDoor
open Go.RowKit Go.Lib
set_option linter.unusedVariables false

theorem gset_drew (w : World) (g o : Nat) (v : Value) : w.grownBy (w.setCell ⟨g, o, none⟩ v).drew (some g) :=
  ⟨rfl, rfl, rfl, (set_grown w g o v).size, (set_grown w g o v).block⟩
theorem gtransL {A B C : World} {g : Nat} (h : A.grownBy B (some g)) (k : B.grownBy C (some g)) : A.grownBy C (some g) :=
  ⟨k.os.trans h.os, k.tape.trans h.tape, k.output.trans h.output, Nat.le_trans h.size k.size, fun i hi hne => (k.block i (Nat.lt_of_lt_of_le hi h.size) hne).trans (h.block i hi hne)⟩
set_option maxRecDepth 100000 in
set_option maxHeartbeats 8000000 in
/-- A piece that begins with the base. -/
theorem take_zero (w : World) (g : Nat) (c : LgC) (Sl Sp : Nat → Prop) (base : List UInt8) (recs : List (List UInt8)) (dl : List Nat) (P : C.Pc) (rv : Value) (h : LMem w g c Sl base recs dl) (hp : RecsIn w Sp rv P.recs) (hsl : ∀ b, Sp b → b < w.heap.size) (hn : recs.length + P.recs.length ≤ 100000000) (hne : ∀ b, c.recs.ownBlock = some b → ¬ Sp b) (hf : P.first = 0) (hq0 : P.recs ≠ []) :
    Calls Tryz.prog 29 #[.pointer (some ⟨g, 0, none⟩), .agg (encP ⟨P, rv⟩).toArray] w fun e w' => e = .returned (.tuple #[]) ∧ TakeRet w g c Sl Sp base recs dl P w' := by
  obtain ⟨ps, hpo, hps, hpi, hpl⟩ := h.recs
  obtain ⟨lp, lc, hlv, hlc1, hlc2⟩ : ∃ p k, c.recs = .slice p recs.length k ∧ recs.length ≤ k ∧ k ≤ maxLen := h.recs.len
  obtain ⟨qp, qc, hqv, hqc1, hqc2⟩ : ∃ p k, rv = .slice p P.recs.length k ∧ P.recs.length ≤ k ∧ k ≤ maxLen := hp.len
  obtain ⟨qs, hqo, hqs, hqi, hql⟩ := hp
  subst hqv
  obtain ⟨nq, hnq⟩ : ∃ nq, nq = P.recs.length := ⟨_, rfl⟩
  obtain ⟨nl, hnl⟩ : ∃ nl, nl = recs.length := ⟨_, rfl⟩
  rw [← hnq] at hqo hqs hqc1 ⊢
  rw [← hnl] at hlv hlc1
  simp only [encP]
  have HL : Hid (LMem w g c Sl base recs dl) := h
  have HB1 : Hid (Below w.heap.size w (w.alloc (.cells #[.int .i64 (P.file : Nat), .int .i64 (P.age : Nat), .int .i64 (P.first : Nat), .slice qp nq qc, .int .i64 (P.fin : Nat), .bool P.torn] 66))) := below_new _ _
  have HQ1 : Hid ((w.alloc (.cells #[.int .i64 (P.file : Nat), .int .i64 (P.age : Nat), .int .i64 (P.first : Nat), .slice qp nq qc, .int .i64 (P.fin : Nat), .bool P.torn] 66)).heap[w.heap.size]? = some (.cells #[.int .i64 (P.file : Nat), .int .i64 (P.age : Nat), .int .i64 (P.first : Nat), .slice qp nq qc, .int .i64 (P.fin : Nat), .bool P.torn] 66)) := heap_alloc_new _ _
  have HA1 : Hid (LgAt (w.alloc (.cells #[.int .i64 (P.file : Nat), .int .i64 (P.age : Nat), .int .i64 (P.first : Nat), .slice qp nq qc, .int .i64 (P.fin : Nat), .bool P.torn] 66)) g c) := h.at_.below (below_new _ _)
  have HGL : Hid (g < w.heap.size) := (Array.getElem?_eq_some_iff.1 h.at_).1
  have HPO : Hid (OwnP w 0 c.recs ps) := hpo
  have HPI : Hid (∀ x ∈ ps, Own w 0 x.v x.l ∧ ∀ b, x.v.ownBlock = some b → Sl b) := hpi
  have HPL : Hid (ps.map Part.l = recs) := hpl
  have HQI : Hid (∀ x ∈ qs, Own w 0 x.v x.l ∧ ∀ b, x.v.ownBlock = some b → Sp b) := hqi
  have HQL : Hid (qs.map Part.l = P.recs) := hql
  have HSL : Hid (∀ b, Sp b → b < w.heap.size) := hsl
  have HNR : Hid (c.recs.ownBlock ≠ some g) := h.ne_recs
  have HNN : Hid (nl + nq ≤ maxLen ∧ (nl + nq) * 24 ≤ 140737488355328) := by have := hn; rw [← hnl, ← hnq] at this; unfold maxLen; constructor <;> omega
  have HNL : Hid (nl = recs.length) := hnl
  have HNQ : Hid (nq = P.recs.length) := hnq
  have HLV : Hid (c.recs = .slice lp nl lc) := hlv
  have hlen : ps.length = nl := by rw [hnl, ← hpl, List.length_map]
  have hqlen : qs.length = nq := by rw [hnq, ← hql, List.length_map]
  have HQN : Hid (qs.length = nq) := hqlen
  have HRow : Hid (∀ X, (w.alloc (.cells #[.int .i64 (P.file : Nat), .int .i64 (P.age : Nat), .int .i64 (P.first : Nat), .slice qp nq qc, .int .i64 (P.fin : Nat), .bool P.torn] 66)).grownBy X (some g) → X.ownsRow 0 31 1 (.slice lp nl lc) nl (ps.map Part.v) ∧ OwnP X 0 (.slice qp nq qc) qs) := fun X hX => by
    have k1 : OwnP X 0 c.recs ps := hpo.same fun b hb => by
      have hlt := row_lt hpo hb
      rw [hX.block b (Nat.lt_of_lt_of_le hlt HB1.out.size) (fun e => HNR.out (by rw [hb]; exact e)), HB1.out.block b hlt]
    have k2 : OwnP X 0 (.slice qp nq qc) qs := hqo.same fun b hb => by
      have hlt := row_lt hqo hb
      obtain ⟨cur, hc⟩ := row_type hqo hb
      have hbg : b ≠ g := cells_ne hc h.at_ (by decide)
      rw [hX.block b (Nat.lt_of_lt_of_le hlt HB1.out.size) (fun e => hbg (Option.some.inj e)), HB1.out.block b hlt]
    refine ⟨?_, k2⟩
    have := k1
    unfold OwnP at this
    rw [hlv, hlen] at this
    exact this

  obtain ⟨x0, qt, hq0'⟩ : ∃ x0 qt, qs = x0 :: qt := by
    cases hqq : qs with
    | nil => rw [hqq] at hql; exact absurd hql.symm hq0
    | cons a b => exact ⟨a, b, rfl⟩
  have HQ0 : Hid (qs = x0 :: qt) := hq0'
  have HX0 : Hid (Own w 0 x0.v x0.l ∧ ∀ b, x0.v.ownBlock = some b → Sp b) := hqi x0 (by rw [hq0']; simp)
  have HPR : Hid (P.recs = x0.l :: qt.map Part.l) := by show _ = _; rw [← hql, hq0']; rfl
  have HRE : Hid (P.rest = qt.map Part.l) := by show _ = _; rw [show P.rest = P.recs.tail from if_pos hf, HPR.out]; rfl
  have HBE : Hid (P.bas base = x0.l) := by show _ = _; rw [show P.bas base = P.recs.headD [] from if_pos hf, HPR.out]; rfl
  obtain ⟨m, hm⟩ : ∃ m, nq = m + 1 := ⟨qt.length, by rw [← hqlen, hq0']; rfl⟩
  obtain ⟨q, hq⟩ : ∃ q, qc = q + 1 := ⟨qc - 1, by omega⟩
  have HMQ : Hid (m = qt.length) := by show _ = _; have := hqlen; rw [hq0', hm] at this; simp at this; omega
  obtain ⟨bq, hbq⟩ : ∃ bq, qp = some ⟨bq, 0, none⟩ := by
    rcases hqo.2 with ⟨e, _⟩ | ⟨bq, cap, cur, e, _⟩
    · cases e; omega
    · cases e; exact ⟨bq, rfl⟩
  subst hbq
  have hown : (Value.slice (some ⟨bq, 0, none⟩) nq qc).ownBlock = some bq := rfl
  have HBG : Hid (bq ≠ g) := by
    obtain ⟨cur, hc⟩ := row_type hqo hown
    exact cells_ne hc h.at_ (by decide)
  have hbql : bq < w.heap.size := row_lt hqo hown
  have hx0c : w.cell? ⟨bq, 0, none⟩ = some x0.v := by
    have := World.ownsRow.cells hqo rfl 0 x0.v (by rw [hq0']; rfl)
    simpa [Addr.add] using this
  clear hown
  subst hm hq
  have y0 : (w.alloc (.cells #[.int .i64 (P.file : Nat), .int .i64 (P.age : Nat), .int .i64 (P.first : Nat), .slice (some ⟨bq, 0, none⟩) (m + 1) (q + 1), .int .i64 (P.fin : Nat), .bool P.torn] 66)).drew.cell? ⟨bq, 0, none⟩ = some (.slice x0.p x0.l.length x0.cap) := ((below_new w _).cell (p := ⟨bq, 0, none⟩) hbql).trans hx0c
  have hmq : m ≤ q := by omega
  have hqq : q + 1 ≤ 9223372036854775807 := by unfold maxLen at hqc2; omega
  clear h hpo hqo hpi hqi hps hqs hsl hne hn hlen hqlen hpl hql hnq hnl hlv hlc1 hlc2 hqc1 hqc2 hq0' hq0 hx0c hbql
  have hfb : (((P.first : Nat) : Int) == 0) = true := by rw [hf]; rfl
  clear hf
  have hb := blk_cell HQ1.out
  have b0 : (w.alloc (.cells #[.int .i64 (P.file : Nat), .int .i64 (P.age : Nat), .int .i64 (P.first : Nat), .slice (some ⟨bq, 0, none⟩) (m + 1) (q + 1), .int .i64 (P.fin : Nat), .bool P.torn] 66)).cell? ⟨w.heap.size, 0, none⟩ = some (.int .i64 (P.file : Nat)) := (hb 0).trans rfl
  have b2 : (w.alloc (.cells #[.int .i64 (P.file : Nat), .int .i64 (P.age : Nat), .int .i64 (P.first : Nat), .slice (some ⟨bq, 0, none⟩) (m + 1) (q + 1), .int .i64 (P.fin : Nat), .bool P.torn] 66)).cell? ⟨w.heap.size, 2, none⟩ = some (.int .i64 (P.first : Nat)) := (hb 2).trans rfl
  have b3 : (w.alloc (.cells #[.int .i64 (P.file : Nat), .int .i64 (P.age : Nat), .int .i64 (P.first : Nat), .slice (some ⟨bq, 0, none⟩) (m + 1) (q + 1), .int .i64 (P.fin : Nat), .bool P.torn] 66)).cell? ⟨w.heap.size, 3, none⟩ = some (.slice (some ⟨bq, 0, none⟩) (m + 1) (q + 1)) := (hb 3).trans rfl
  have b1 : (w.alloc (.cells #[.int .i64 (P.file : Nat), .int .i64 (P.age : Nat), .int .i64 (P.first : Nat), .slice (some ⟨bq, 0, none⟩) (m + 1) (q + 1), .int .i64 (P.fin : Nat), .bool P.torn] 66)).drew.cell? ⟨w.heap.size, 1, none⟩ = some (.int .i64 (P.age : Nat)) := (hb 1).trans rfl
  have c4 : (w.alloc (.cells #[.int .i64 (P.file : Nat), .int .i64 (P.age : Nat), .int .i64 (P.first : Nat), .slice (some ⟨bq, 0, none⟩) (m + 1) (q + 1), .int .i64 (P.fin : Nat), .bool P.torn] 66)).drew.cell? ⟨g, 4, none⟩ = some (.int .i64 (c.age : Nat)) := (HA1.out.cell 4).trans rfl
  have c6 : (w.alloc (.cells #[.int .i64 (P.file : Nat), .int .i64 (P.age : Nat), .int .i64 (P.first : Nat), .slice (some ⟨bq, 0, none⟩) (m + 1) (q + 1), .int .i64 (P.fin : Nat), .bool P.torn] 66)).drew.cell? ⟨g, 6, none⟩ = some (.slice lp nl lc) := (HA1.out.cell 6).trans (by rw [← HLV.out]; rfl)
  have f4 : (w.alloc (.cells #[.int .i64 (P.file : Nat), .int .i64 (P.age : Nat), .int .i64 (P.first : Nat), .slice (some ⟨bq, 0, none⟩) (m + 1) (q + 1), .int .i64 (P.fin : Nat), .bool P.torn] 66)).drew.frozen? ⟨g, 4, none⟩ = false := HA1.out.fz 4
  have c5 : (w.alloc (.cells #[.int .i64 (P.file : Nat), .int .i64 (P.age : Nat), .int .i64 (P.first : Nat), .slice (some ⟨bq, 0, none⟩) (m + 1) (q + 1), .int .i64 (P.fin : Nat), .bool P.torn] 66)).drew.cell? ⟨g, 5, none⟩ = some c.base := (HA1.out.cell 5).trans rfl
  have f5 : (w.alloc (.cells #[.int .i64 (P.file : Nat), .int .i64 (P.age : Nat), .int .i64 (P.first : Nat), .slice (some ⟨bq, 0, none⟩) (m + 1) (q + 1), .int .i64 (P.fin : Nat), .bool P.torn] 66)).drew.frozen? ⟨g, 5, none⟩ = false := HA1.out.fz 5
  have hgne : g ≠ w.heap.size := by have := HGL.out; omega
  have hbgne : bq ≠ g := HBG.out
  clear hb
  go_enter Tryz.func29, Tryz.ntmps29
  go_wp2_with fail
  by_cases hq0 : q = 0
  · obtain rfl := hq0
    obtain rfl : m = 0 := by omega
    simp only [Nat.zero_add] at HB1 HQ1 HA1 HRow HNN y0 b0 b1 b2 b3 c4 c5 c6 f4 f5 ⊢
    go_region
    all_goals
      have HA5 : Hid (LgAt ((w.alloc (.cells #[.int .i64 (P.file : Nat), .int .i64 (P.age : Nat), .int .i64 (P.first : Nat), .slice (some ⟨bq, 0, none⟩) (1) (1), .int .i64 (P.fin : Nat), .bool P.torn] 66)).setCell ⟨g, 5, none⟩ x0.v).drew g { c with base := x0.v }) := HA1.out.set 5 _ (c' := { c with base := x0.v }) rfl
      have HQ5 : Hid (((w.alloc (.cells #[.int .i64 (P.file : Nat), .int .i64 (P.age : Nat), .int .i64 (P.first : Nat), .slice (some ⟨bq, 0, none⟩) (1) (1), .int .i64 (P.fin : Nat), .bool P.torn] 66)).setCell ⟨g, 5, none⟩ x0.v).drew.heap[w.heap.size]? = some (.cells #[.int .i64 (P.file : Nat), .int .i64 (P.age : Nat), .int .i64 (P.first : Nat), .slice (some ⟨bq, 0, none⟩) (1) (1), .int .i64 (P.fin : Nat), .bool P.torn] 66)) := (set_other (Nat.ne_of_gt HGL.out)).trans HQ1.out
      have HG5 : Hid ((w.alloc (.cells #[.int .i64 (P.file : Nat), .int .i64 (P.age : Nat), .int .i64 (P.first : Nat), .slice (some ⟨bq, 0, none⟩) (1) (1), .int .i64 (P.fin : Nat), .bool P.torn] 66)).grownBy ((w.alloc (.cells #[.int .i64 (P.file : Nat), .int .i64 (P.age : Nat), .int .i64 (P.first : Nat), .slice (some ⟨bq, 0, none⟩) (1) (1), .int .i64 (P.fin : Nat), .bool P.torn] 66)).setCell ⟨g, 5, none⟩ x0.v).drew (some g)) := gset_drew _ _ _ _
      have HT5 : Hid (Turn w ((w.alloc (.cells #[.int .i64 (P.file : Nat), .int .i64 (P.age : Nat), .int .i64 (P.first : Nat), .slice (some ⟨bq, 0, none⟩) (1) (1), .int .i64 (P.fin : Nat), .bool P.torn] 66)).setCell ⟨g, 5, none⟩ x0.v).drew (fun x => x = g ∨ c.recs.ownBlock = some x)) := (Turn.setCell (S := fun x => x = g ∨ c.recs.ownBlock = some x) (Turn.of_below HB1.out) (Or.inl rfl) _).drew
      have HZ5 : Hid (w.heap.size < ((w.alloc (.cells #[.int .i64 (P.file : Nat), .int .i64 (P.age : Nat), .int .i64 (P.first : Nat), .slice (some ⟨bq, 0, none⟩) (1) (1), .int .i64 (P.fin : Nat), .bool P.torn] 66)).setCell ⟨g, 5, none⟩ x0.v).drew.heap.size) := by
        show w.heap.size < (World.setCell _ _ _).heap.size
        rw [size_setC]; simp
      simp only [Part.v] at HA5 HQ5 HG5 HT5 HZ5
      clear y0 b0 b1 b2 b3 c4 c5 c6 f4 f5
      generalize (World.setCell (w.alloc (.cells #[.int .i64 (P.file : Nat), .int .i64 (P.age : Nat), .int .i64 (P.first : Nat), .slice (some ⟨bq, 0, none⟩) (1) (1), .int .i64 (P.fin : Nat), .bool P.torn] 66)) ⟨g, 5, none⟩ (.slice x0.p x0.l.length x0.cap)).drew = W5 at HA5 HQ5 HG5 HT5 HZ5 ⊢
      have hb := blk_cell HQ5.out
      have b1 : W5.cell? ⟨w.heap.size, 1, none⟩ = some (.int .i64 (P.age : Nat)) := (hb 1).trans rfl
      have c4 : W5.cell? ⟨g, 4, none⟩ = some (.int .i64 (c.age : Nat)) := (HA5.out.cell 4).trans rfl
      have c6 : W5.cell? ⟨g, 6, none⟩ = some (.slice lp nl lc) := (HA5.out.cell 6).trans (by rw [← HLV.out]; rfl)
      have f4 : W5.frozen? ⟨g, 4, none⟩ = false := HA5.out.fz 4
      clear hb
      have HGR : Hid ((w.alloc (.cells #[.int .i64 (P.file : Nat), .int .i64 (P.age : Nat), .int .i64 (P.first : Nat), .slice (some ⟨bq, 0, none⟩) (1) (1), .int .i64 (P.fin : Nat), .bool P.torn] 66)).grownBy (W5.setCell ⟨g, 4, none⟩ (.int .i64 (P.age : Nat))) (some g)) := gtransL HG5.out (set_grown _ _ _ _)
      have HA4 : Hid (LgAt (W5.setCell ⟨g, 4, none⟩ (.int .i64 (P.age : Nat))) g { c with age := P.age, base := .slice x0.p x0.l.length x0.cap }) := HA5.out.set 4 _ (by simp [LgC.cells])
      have HSRC : Hid (SrcAt (W5.setCell ⟨g, 4, none⟩ (.int .i64 (P.age : Nat))) 1 (.slice (some ⟨bq, 0, none⟩) 0 0) 0 (qt.map Part.v)) := by
        rw [show qt = [] from List.eq_nil_of_length_eq_zero HMQ.out.symm]; exact none_src _ _ _
      have HAFT : Hid (∀ w4, (W5.setCell ⟨g, 4, none⟩ (.int .i64 (P.age : Nat))).grownBy w4 (Value.slice lp nl lc).ownBlock → LgAt w4 g { c with age := P.age, base := .slice x0.p x0.l.length x0.cap } ∧ w4.heap[w.heap.size]? = some (.cells #[.int .i64 (P.file : Nat), .int .i64 (P.age : Nat), .int .i64 (P.first : Nat), .slice (some ⟨bq, 0, none⟩) (1) (1), .int .i64 (P.fin : Nat), .bool P.torn] 66) ∧ Turn w w4 (fun x => x = g ∨ c.recs.ownBlock = some x)) := fun w4 hg4 => by
        refine ⟨?_, ?_, ?_⟩
        · show w4.heap[g]? = _
          rw [hg4.block g (by rw [size_setC]; have := HGL.out; have := HZ5.out; omega) (fun e => HNR.out (by rw [HLV.out]; exact e.symm))]
          exact HA4.out
        · rw [hg4.block _ (by rw [size_setC]; exact HZ5.out) (fun e => by have := row_lt HPO.out (by rw [HLV.out]; exact e.symm); omega), set_other (by omega)]
          exact HQ5.out
        · have h1 : Turn w (W5.setCell ⟨g, 4, none⟩ (.int .i64 (P.age : Nat))) (fun x => x = g ∨ c.recs.ownBlock = some x) := HT5.out.setCell (Or.inl rfl) _
          exact h1.trans (Turn.of_grown (S := fun x => c.recs.ownBlock = some x) hg4 fun b hb => by rw [HLV.out]; exact hb) fun x hx => Or.inl (Or.inr hx)
      have HNM : Hid (nl + 0 ≤ maxLen ∧ (nl + 0) * 24 ≤ 140737488355328) := by have := HNN.out; constructor <;> omega
      go_wp2_with (at_builtin; go_must ((refine wpList_append_src Tryz.underlying32 info_bytes rfl (by decide) rfl _ _ rfl rfl (HRow.out _ HGR.out).1 rfl HSRC.out (parts_one _) HNM.out.1 HNM.out.2 ?_; intro v4 w4 hr4 hg4 hb4; obtain ⟨p4, k4, hv4⟩ := own_slice hr4; subst hv4; have HR4 : Hid _ := hr4; have HT4 : Hid _ := hg4; have HB4 : Hid _ := hb4; clear hr4 hg4 hb4; obtain ⟨ha4, hq4, -⟩ := HAFT.out w4 HT4.out; obtain ⟨d0, d4, d5⟩ := box_three hq4; obtain ⟨e6, e7, e8, e9, e10⟩ := log_cells ha4; have f6 := ha4.fz 6; have f7 := ha4.fz 7; have f8 := ha4.fz 8; have f9 := ha4.fz 9; have f10 := ha4.fz 10; clear ha4 hq4)))
      have HNB : Hid (∀ b, (Value.slice p4 (nl + 0) k4).ownBlock = some b → (c.recs.ownBlock = some b ∨ w.heap.size ≤ b) ∧ b ≠ g) := fun b hb => by
        rcases HB4.out with e | e
        · have e2 : c.recs.ownBlock = some b := by rw [HLV.out]; exact e.symm.trans hb
          exact ⟨Or.inl e2, fun e3 => HNR.out (by rw [e2, e3])⟩
        · have e2 := Option.some.inj (e.symm.trans hb)
          have e3 : w.heap.size ≤ b := by rw [← e2, size_setC]; exact Nat.le_of_lt HZ5.out
          exact ⟨Or.inr e3, fun e4 => by have := HGL.out; omega⟩
      obtain ⟨ha4, -, ht4⟩ := HAFT.out w4 HT4.out
      have HFIN : Hid (TakeRet w g c Sl Sp base recs dl P (((((w4.setCell ⟨g, 6, none⟩ (.slice p4 (nl + 0) k4)).setCell ⟨g, 7, none⟩ (.int .i64 (P.file : Nat))).setCell ⟨g, 8, none⟩ (.int .i64 (0 : Nat))).setCell ⟨g, 9, none⟩ (.int .i64 (P.fin : Nat))).setCell ⟨g, 10, none⟩ (.bool P.torn))) :=
        take_end (bv := .slice x0.p x0.l.length x0.cap) (base' := x0.l) (ps := ps) (qs := qt) (n := 0) HL.out HPL.out HPO.out HPI.out (fun x hx => HQI.out x (by rw [HQ0.out]; exact List.mem_cons_of_mem _ hx)) HRE.out.symm (by rw [HRE.out, List.length_map]; exact HMQ.out) HX0.out.1 (fun b hb => Or.inr (HX0.out.2 b hb)) HBE.out.symm (sets5_turn ht4 (Or.inl rfl) _ _ _ _ _ _ _ _ _ _) HSL.out
          (by
            have h1 : w4.ownsRow 0 31 1 (.slice p4 (nl + 0) k4) (nl + 0) (ps.map Part.v ++ qt.map Part.v) := HR4.out
            have h2 := row_same h1 fun b hb => sets5_other (HNB.out b hb).2 6 7 8 9 10 (.slice p4 (nl + 0) k4) (.int .i64 (P.file : Nat)) (.int .i64 (0 : Nat)) (.int .i64 (P.fin : Nat)) (.bool P.torn)
            rw [show recs.length + P.rest.length = nl + 0 from by rw [HNL.out, HRE.out, List.length_map, ← HMQ.out]]
            exact h2) (fun b hb => (HNB.out b hb).1) (take_stores ha4 _ P 0)
      exact bodyPost_end (results_none rfl _ _ _) rfl ⟨rfl, by simpa using HFIN.out⟩
  · go_region
    all_goals
      have HA5 : Hid (LgAt ((w.alloc (.cells #[.int .i64 (P.file : Nat), .int .i64 (P.age : Nat), .int .i64 (P.first : Nat), .slice (some ⟨bq, 0, none⟩) (m + 1) (q + 1), .int .i64 (P.fin : Nat), .bool P.torn] 66)).setCell ⟨g, 5, none⟩ x0.v).drew g { c with base := x0.v }) := HA1.out.set 5 _ (c' := { c with base := x0.v }) rfl
      have HQ5 : Hid (((w.alloc (.cells #[.int .i64 (P.file : Nat), .int .i64 (P.age : Nat), .int .i64 (P.first : Nat), .slice (some ⟨bq, 0, none⟩) (m + 1) (q + 1), .int .i64 (P.fin : Nat), .bool P.torn] 66)).setCell ⟨g, 5, none⟩ x0.v).drew.heap[w.heap.size]? = some (.cells #[.int .i64 (P.file : Nat), .int .i64 (P.age : Nat), .int .i64 (P.first : Nat), .slice (some ⟨bq, 0, none⟩) (m + 1) (q + 1), .int .i64 (P.fin : Nat), .bool P.torn] 66)) := (set_other (Nat.ne_of_gt HGL.out)).trans HQ1.out
      have HG5 : Hid ((w.alloc (.cells #[.int .i64 (P.file : Nat), .int .i64 (P.age : Nat), .int .i64 (P.first : Nat), .slice (some ⟨bq, 0, none⟩) (m + 1) (q + 1), .int .i64 (P.fin : Nat), .bool P.torn] 66)).grownBy ((w.alloc (.cells #[.int .i64 (P.file : Nat), .int .i64 (P.age : Nat), .int .i64 (P.first : Nat), .slice (some ⟨bq, 0, none⟩) (m + 1) (q + 1), .int .i64 (P.fin : Nat), .bool P.torn] 66)).setCell ⟨g, 5, none⟩ x0.v).drew (some g)) := gset_drew _ _ _ _
      have HT5 : Hid (Turn w ((w.alloc (.cells #[.int .i64 (P.file : Nat), .int .i64 (P.age : Nat), .int .i64 (P.first : Nat), .slice (some ⟨bq, 0, none⟩) (m + 1) (q + 1), .int .i64 (P.fin : Nat), .bool P.torn] 66)).setCell ⟨g, 5, none⟩ x0.v).drew (fun x => x = g ∨ c.recs.ownBlock = some x)) := (Turn.setCell (S := fun x => x = g ∨ c.recs.ownBlock = some x) (Turn.of_below HB1.out) (Or.inl rfl) _).drew
      have HZ5 : Hid (w.heap.size < ((w.alloc (.cells #[.int .i64 (P.file : Nat), .int .i64 (P.age : Nat), .int .i64 (P.first : Nat), .slice (some ⟨bq, 0, none⟩) (m + 1) (q + 1), .int .i64 (P.fin : Nat), .bool P.torn] 66)).setCell ⟨g, 5, none⟩ x0.v).drew.heap.size) := by
        show w.heap.size < (World.setCell _ _ _).heap.size
        rw [size_setC]; simp
      simp only [Part.v] at HA5 HQ5 HG5 HT5 HZ5
      clear y0 b0 b1 b2 b3 c4 c5 c6 f4 f5
      generalize (World.setCell (w.alloc (.cells #[.int .i64 (P.file : Nat), .int .i64 (P.age : Nat), .int .i64 (P.first : Nat), .slice (some ⟨bq, 0, none⟩) (m + 1) (q + 1), .int .i64 (P.fin : Nat), .bool P.torn] 66)) ⟨g, 5, none⟩ (.slice x0.p x0.l.length x0.cap)).drew = W5 at HA5 HQ5 HG5 HT5 HZ5 ⊢
      have hb := blk_cell HQ5.out
      have b1 : W5.cell? ⟨w.heap.size, 1, none⟩ = some (.int .i64 (P.age : Nat)) := (hb 1).trans rfl
      have c4 : W5.cell? ⟨g, 4, none⟩ = some (.int .i64 (c.age : Nat)) := (HA5.out.cell 4).trans rfl
      have c6 : W5.cell? ⟨g, 6, none⟩ = some (.slice lp nl lc) := (HA5.out.cell 6).trans (by rw [← HLV.out]; rfl)
      have f4 : W5.frozen? ⟨g, 4, none⟩ = false := HA5.out.fz 4
      clear hb
      have HGR : Hid ((w.alloc (.cells #[.int .i64 (P.file : Nat), .int .i64 (P.age : Nat), .int .i64 (P.first : Nat), .slice (some ⟨bq, 0, none⟩) (m + 1) (q + 1), .int .i64 (P.fin : Nat), .bool P.torn] 66)).grownBy (W5.setCell ⟨g, 4, none⟩ (.int .i64 (P.age : Nat))) (some g)) := gtransL HG5.out (set_grown _ _ _ _)
      have HA4 : Hid (LgAt (W5.setCell ⟨g, 4, none⟩ (.int .i64 (P.age : Nat))) g { c with age := P.age, base := .slice x0.p x0.l.length x0.cap }) := HA5.out.set 4 _ (by simp [LgC.cells])
      have HSRC : Hid (SrcAt (W5.setCell ⟨g, 4, none⟩ (.int .i64 (P.age : Nat))) 1 (.slice (some ⟨bq, 1, none⟩) m q) m (qt.map Part.v)) := by
        have h1 := recs_src (HRow.out _ HGR.out).2 bq 1 rfl m (by rw [HQ0.out, List.length_cons, HMQ.out]; omega) q
        rw [HQ0.out] at h1
        exact h1
      have HAFT : Hid (∀ w4, (W5.setCell ⟨g, 4, none⟩ (.int .i64 (P.age : Nat))).grownBy w4 (Value.slice lp nl lc).ownBlock → LgAt w4 g { c with age := P.age, base := .slice x0.p x0.l.length x0.cap } ∧ w4.heap[w.heap.size]? = some (.cells #[.int .i64 (P.file : Nat), .int .i64 (P.age : Nat), .int .i64 (P.first : Nat), .slice (some ⟨bq, 0, none⟩) (m + 1) (q + 1), .int .i64 (P.fin : Nat), .bool P.torn] 66) ∧ Turn w w4 (fun x => x = g ∨ c.recs.ownBlock = some x)) := fun w4 hg4 => by
        refine ⟨?_, ?_, ?_⟩
        · show w4.heap[g]? = _
          rw [hg4.block g (by rw [size_setC]; have := HGL.out; have := HZ5.out; omega) (fun e => HNR.out (by rw [HLV.out]; exact e.symm))]
          exact HA4.out
        · rw [hg4.block _ (by rw [size_setC]; exact HZ5.out) (fun e => by have := row_lt HPO.out (by rw [HLV.out]; exact e.symm); omega), set_other (by omega)]
          exact HQ5.out
        · have h1 : Turn w (W5.setCell ⟨g, 4, none⟩ (.int .i64 (P.age : Nat))) (fun x => x = g ∨ c.recs.ownBlock = some x) := HT5.out.setCell (Or.inl rfl) _
          exact h1.trans (Turn.of_grown (S := fun x => c.recs.ownBlock = some x) hg4 fun b hb => by rw [HLV.out]; exact hb) fun x hx => Or.inl (Or.inr hx)
      have HNM : Hid (nl + m ≤ maxLen ∧ (nl + m) * 24 ≤ 140737488355328) := by have := HNN.out; constructor <;> omega
      go_wp2_with (at_builtin; go_must ((refine wpList_append_src Tryz.underlying32 info_bytes rfl (by decide) rfl _ _ rfl rfl (HRow.out _ HGR.out).1 rfl HSRC.out (parts_one _) HNM.out.1 HNM.out.2 ?_; intro v4 w4 hr4 hg4 hb4; obtain ⟨p4, k4, hv4⟩ := own_slice hr4; subst hv4; have HR4 : Hid _ := hr4; have HT4 : Hid _ := hg4; have HB4 : Hid _ := hb4; clear hr4 hg4 hb4; obtain ⟨ha4, hq4, -⟩ := HAFT.out w4 HT4.out; obtain ⟨d0, d4, d5⟩ := box_three hq4; obtain ⟨e6, e7, e8, e9, e10⟩ := log_cells ha4; have f6 := ha4.fz 6; have f7 := ha4.fz 7; have f8 := ha4.fz 8; have f9 := ha4.fz 9; have f10 := ha4.fz 10; clear ha4 hq4)))
      have HNB : Hid (∀ b, (Value.slice p4 (nl + m) k4).ownBlock = some b → (c.recs.ownBlock = some b ∨ w.heap.size ≤ b) ∧ b ≠ g) := fun b hb => by
        rcases HB4.out with e | e
        · have e2 : c.recs.ownBlock = some b := by rw [HLV.out]; exact e.symm.trans hb
          exact ⟨Or.inl e2, fun e3 => HNR.out (by rw [e2, e3])⟩
        · have e2 := Option.some.inj (e.symm.trans hb)
          have e3 : w.heap.size ≤ b := by rw [← e2, size_setC]; exact Nat.le_of_lt HZ5.out
          exact ⟨Or.inr e3, fun e4 => by have := HGL.out; omega⟩
      obtain ⟨ha4, -, ht4⟩ := HAFT.out w4 HT4.out
      have HFIN : Hid (TakeRet w g c Sl Sp base recs dl P (((((w4.setCell ⟨g, 6, none⟩ (.slice p4 (nl + m) k4)).setCell ⟨g, 7, none⟩ (.int .i64 (P.file : Nat))).setCell ⟨g, 8, none⟩ (.int .i64 (m : Nat))).setCell ⟨g, 9, none⟩ (.int .i64 (P.fin : Nat))).setCell ⟨g, 10, none⟩ (.bool P.torn))) :=
        take_end (bv := .slice x0.p x0.l.length x0.cap) (base' := x0.l) (ps := ps) (qs := qt) (n := m) HL.out HPL.out HPO.out HPI.out (fun x hx => HQI.out x (by rw [HQ0.out]; exact List.mem_cons_of_mem _ hx)) HRE.out.symm (by rw [HRE.out, List.length_map]; exact HMQ.out) HX0.out.1 (fun b hb => Or.inr (HX0.out.2 b hb)) HBE.out.symm (sets5_turn ht4 (Or.inl rfl) _ _ _ _ _ _ _ _ _ _) HSL.out
          (by
            have h1 : w4.ownsRow 0 31 1 (.slice p4 (nl + m) k4) (nl + m) (ps.map Part.v ++ qt.map Part.v) := HR4.out
            have h2 := row_same h1 fun b hb => sets5_other (HNB.out b hb).2 6 7 8 9 10 (.slice p4 (nl + m) k4) (.int .i64 (P.file : Nat)) (.int .i64 (m : Nat)) (.int .i64 (P.fin : Nat)) (.bool P.torn)
            rw [show recs.length + P.rest.length = nl + m from by rw [HNL.out, HRE.out, List.length_map, ← HMQ.out]]
            exact h2) (fun b hb => (HNB.out b hb).1) (take_stores ha4 _ P m)
      exact bodyPost_end (results_none rfl _ _ _) rfl ⟨rfl, HFIN.out⟩
end Go.Proofs.YtnhplbdbgiimkaaGreatDoor

namespace Go.Proofs.YtnhplbdbgiimkaaGreatDoor
open Go.RowKit Go.Lib
set_option linter.unusedVariables false

theorem take_any (w : World) (g : Nat) (c : LgC) (Sl Sp : Nat → Prop) (base : List UInt8) (recs : List (List UInt8)) (dl : List Nat) (P : C.Pc) (rv : Value) (h : LMem w g c Sl base recs dl) (hp : RecsIn w Sp rv P.recs) (hsl : ∀ b, Sp b → b < w.heap.size) (hn : recs.length + P.recs.length ≤ 100000000) (hne : ∀ b, c.recs.ownBlock = some b → ¬ Sp b) (hq0 : P.recs ≠ []) :
    Calls Tryz.prog 29 #[.pointer (some ⟨g, 0, none⟩), .agg (encP ⟨P, rv⟩).toArray] w fun e w' => e = .returned (.tuple #[]) ∧ TakeRet w g c Sl Sp base recs dl P w' := by
  by_cases hf : P.first = 0
  · exact take_zero w g c Sl Sp base recs dl P rv h hp hsl hn hne hf hq0
  · exact take_more w g c Sl Sp base recs dl P rv h hp hsl hn hne hf
end Go.Proofs.YtnhplbdbgiimkaaGreatDoor

namespace Go.Proofs.YtnhplbdbgiimkaaGreatDoor
open Go.RowKit Go.Lib
set_option linter.unusedVariables false
namespace C

def basL (base : List UInt8) (l : List Pc) : List UInt8 := l.foldl (fun b P => P.bas b) base
def resL (l : List Pc) : List (List UInt8) := l.flatMap Pc.rest
theorem basL_snoc (b : List UInt8) (l : List Pc) (P : Pc) : basL b (l ++ [P]) = P.bas (basL b l) := by simp [basL]
theorem resL_snoc (l : List Pc) (P : Pc) : resL (l ++ [P]) = resL l ++ P.rest := by simp [resL]
theorem bas_none : ∀ (l : List Pc) (n : Nat) (b : List UInt8), 0 < n → PChain n l → basL b l = b ∧ resL l = l.flatMap Pc.recs
  | [], n, b, _, _ => ⟨rfl, rfl⟩
  | P :: l, n, b, hn, h => by
    have hf : P.first ≠ 0 := by have := h.1; omega
    have e1 : P.bas b = b := if_neg hf
    have e2 : P.rest = P.recs := if_neg hf
    obtain ⟨h1, h2⟩ := bas_none l (n + P.recs.length) b (by omega) h.2
    refine ⟨?_, ?_⟩
    · show basL (P.bas b) l = b
      rw [e1, h1]
    · show P.rest ++ resL l = P.recs ++ l.flatMap Pc.recs
      rw [e2, h2]
/-- What a log holds, base and records. -/
def whole (a : Nat) (base : List UInt8) (recs : List (List UInt8)) : List (List UInt8) := if a = 0 then recs else base :: recs
theorem row_whole {a : Nat} {R : List Pc} (hch : PChain (st a) R) (hh : ∀ x ∈ R, has x = true) (h0 : R = [] → a = 0) {base : List UInt8} {recs : List (List UInt8)} (hb : a = 0 → base = []) (hr : R.flatMap Pc.recs = whole a base recs) : basL [] R = base ∧ resL R = recs := by
  by_cases ha : a = 0
  · have h1 : st a = 1 := if_pos ha
    rw [h1] at hch
    obtain ⟨h2, h3⟩ := bas_none R 1 [] (by omega) hch
    rw [h2, h3, hr, hb ha]
    exact ⟨rfl, if_pos ha⟩
  · have h1 : st a = 0 := if_neg ha
    rw [h1] at hch
    cases R with
    | nil => exact absurd (h0 rfl) ha
    | cons P R =>
      have hp := hh P (List.mem_cons_self ..)
      have hne : P.recs ≠ [] := fun e => by unfold has at hp; rw [e] at hp; simp at hp
      obtain ⟨x, q, hxq⟩ : ∃ x q, P.recs = x :: q := by
        cases hq : P.recs with
        | nil => exact absurd hq hne
        | cons x q => exact ⟨x, q, rfl⟩
      have hf : P.first = 0 := hch.1
      have e1 : P.bas [] = x := by show (if P.first = 0 then _ else _) = _; rw [if_pos hf, hxq]; rfl
      have e2 : P.rest = q := by show (if P.first = 0 then _ else _) = _; rw [if_pos hf, hxq]; rfl
      obtain ⟨h2, h3⟩ := bas_none R (0 + P.recs.length) x (by rw [hxq]; simp) hch.2
      rw [List.flatMap_cons, hxq, List.cons_append] at hr
      unfold whole at hr
      rw [if_neg ha, List.cons.injEq] at hr
      refine ⟨?_, ?_⟩
      · show basL (P.bas []) R = base
        rw [e1, h2, hr.1]
      · show P.rest ++ resL R = recs
        rw [e2, h3, hr.2]
theorem rowG_get (a : Nat) : ∀ (G : List Gr) (q i : Nat) (P : Pc), ((piecesG a q G).filter has)[i]? = some P → ∃ g, (G.filter hasG)[i]? = some g ∧ P.file = g.file ∧ P.tl = g.cs.flatMap Ch.tl ∧ P.recs = recsL g.cs
  | [], q, i, P, h => by simp [piecesG] at h
  | g :: G, q, i, P, h => by
    have e : has ⟨g.file, a, q, recsL g.cs, g.cs.flatMap Ch.tl⟩ = hasG g := rfl
    rw [piecesG] at h
    cases hg : hasG g with
    | false =>
      rw [List.filter_cons_of_neg (by rw [e, hg]; decide)] at h
      rw [List.filter_cons_of_neg (by rw [hg]; decide)]
      exact rowG_get a G _ i P h
    | true =>
      rw [List.filter_cons_of_pos (by rw [e, hg])] at h
      rw [List.filter_cons_of_pos hg]
      cases i with
      | zero =>
        obtain rfl : (⟨g.file, a, q, recsL g.cs, g.cs.flatMap Ch.tl⟩ : Pc) = P := by simpa using h
        exact ⟨g, rfl, rfl, rfl, rfl⟩
      | succ i => exact rowG_get a G _ i P (by simpa using h)
/-- The files that a log is in. -/
def rowF (a : Nat) (G : List Gr) : List Nat := (rowG a G).map Pc.file
theorem rowF_is {s : St} {a : Nat} {G : List Gr} (h : LogW s a G) : ∀ f ∈ rowF a G, s.is f = true := fun f hf => by
  obtain ⟨P, hP, rfl⟩ := List.mem_map.1 hf
  have h1 := (List.mem_filter.1 hP).1
  have h2 : P.file ∈ (piecesG a (st a) G).map Pc.file := List.mem_map_of_mem h1
  rw [piecesG_file] at h2
  exact (h.files _).2 h2
/-- The disk behind Open. -/
def openS (s : St) (a : Nat) (G : List Gr) : St := dropBut ((rowF a G).map fun k : Nat => (k : Int)) (fs (syncs (rowF a G) s)) (syncs (rowF a G) s)
theorem openS_keeps (s : St) (a : Nat) (G : List Gr) : (openS s a G).off = s.off ∧ (openS s a G).lives = s.lives ∧ (openS s a G).made = s.made ∧ (openS s a G).room = s.room := by
  obtain ⟨h1, h2, h3, h4⟩ := dropBut_off ((rowF a G).map fun k : Nat => (k : Int)) (fs (syncs (rowF a G) s)) (syncs (rowF a G) s)
  obtain ⟨k1, k2, k3, k4, k5⟩ := syncs_is (rowF a G) s
  unfold openS
  exact ⟨h1.trans k2, h2.trans k3, h3.trans k4, h4.trans k5⟩
theorem mem_cast (k : Nat) (l : List Nat) : ((k : Int) ∈ l.map fun k : Nat => (k : Int)) ↔ k ∈ l := by
  rw [List.mem_map]
  constructor
  · rintro ⟨x, hx, e⟩
    have h1 : x = k := Int.ofNat.inj e
    rw [← h1]; exact hx
  · intro h; exact ⟨k, h, rfl⟩
theorem fs_syncs (l : List Nat) (s : St) : fs (syncs l s) = fs s := by unfold fs; rw [(syncs_is l s).1]
theorem openS_is {s : St} (hok : s.Ok) (a : Nat) (G : List Gr) (k : Nat) : (openS s a G).is k = (s.is k && decide (k ∈ rowF a G)) := by
  unfold openS
  rw [dropBut_is, (syncs_is (rowF a G) s).1, fs_syncs]
  cases hk : s.is k with
  | false => rw [Bool.false_and, Bool.false_and]
  | true =>
    have h1 : decide (k ∈ fs s) = true := decide_eq_true (List.mem_filter.2 ⟨List.mem_range.2 (hok.files k hk), hk⟩)
    rw [h1]
    have h2 : decide ((k : Int) ∈ (rowF a G).map fun k : Nat => (k : Int)) = decide (k ∈ rowF a G) := decide_eq_decide.2 (mem_cast k _)
    rw [h2]
    simp
theorem filter_wkey (F : List Nat) : ∀ (A B : List Wr), A.map wkey = B.map (fun x => (x.file, x.bytes, x.safe || decide (x.file ∈ F))) → (A.filter fun x => decide (x.file ∈ F)).map wkey = (B.filter fun x => decide (x.file ∈ F)).map fun x => (x.file, x.bytes, true)
  | [], B, h => by
    obtain rfl : B = [] := by simpa using h.symm
    rfl
  | x :: A, B, h => by
    cases B with
    | nil => simp at h
    | cons y B =>
      simp only [List.map_cons, List.cons.injEq] at h
      obtain ⟨hx, h⟩ := h
      have ih := filter_wkey F A B h
      simp only [wkey, Prod.mk.injEq] at hx
      by_cases hf : y.file ∈ F
      · rw [List.filter_cons_of_pos (by rw [hx.1]; simpa using hf), List.filter_cons_of_pos (by simpa using hf), List.map_cons, List.map_cons, ih]
        congr 1
        simp only [wkey, hx.1, hx.2.1, hx.2.2, Prod.mk.injEq, true_and]
        simp [hf]
      · rw [List.filter_cons_of_neg (by rw [hx.1]; simpa using hf), List.filter_cons_of_neg (by simpa using hf), ih]
theorem openS_ws {s : St} (hok : s.Ok) (a : Nat) (G : List Gr) : (openS s a G).ws.map wkey = (s.ws.filter fun x => decide (x.file ∈ rowF a G)).map fun x => (x.file, x.bytes, true) := by
  unfold openS
  rw [dropBut_ws]
  have h1 : (syncs (rowF a G) s).ws.filter (fun x => !(decide (x.file ∈ fs (syncs (rowF a G) s)) && !decide ((x.file : Int) ∈ (rowF a G).map fun k : Nat => (k : Int)))) = (syncs (rowF a G) s).ws.filter fun x => decide (x.file ∈ rowF a G) := by
    refine List.filter_congr fun x hx => ?_
    have h2 : x.file ∈ fs s := by
      have h3 : (x.file, x.bytes, x.safe) ∈ (syncs (rowF a G) s).ws.map wkey := List.mem_map.2 ⟨x, hx, rfl⟩
      rw [syncs_ws] at h3
      obtain ⟨y, hy, e⟩ := List.mem_map.1 h3
      simp only [Prod.mk.injEq] at e
      have h4 := hok.has y hy
      rw [← e.1]
      exact List.mem_filter.2 ⟨List.mem_range.2 (hok.files _ h4), h4⟩
    have h5 : decide ((x.file : Int) ∈ (rowF a G).map fun k : Nat => (k : Int)) = decide (x.file ∈ rowF a G) := decide_eq_decide.2 (mem_cast _ _)
    rw [fs_syncs, decide_eq_true h2, h5]
    simp
  rw [h1]
  exact filter_wkey _ _ _ (syncs_ws _ s)
def openG (G : List Gr) : List Gr := (G.filter hasG).map Gr.sf
theorem LogW.open_ {s : St} {a : Nat} {G : List Gr} (h : LogW s a G) (hok : s.Ok) : LogW (openS s a G) a (openG G) ∧ recsL (flat (openG G)) = recsL (flat G) ∧ ∀ c ∈ flat (openG G), c.safe = true := by
  obtain ⟨h1, h2⟩ := h.opened (s' := { s with ws := s.ws.filter (fun x => decide (x.file ∈ rowF a G)), is := fun k => s.is k && decide (k ∈ rowF a G) }) rfl fun k => rfl
  obtain ⟨h3, h4, h5⟩ := h1.allSafe (s' := openS s a G) (openS_ws hok a G) (funext fun k => openS_is hok a G k)
  exact ⟨h3, h4.trans h2, h5⟩
end C
end Go.Proofs.YtnhplbdbgiimkaaGreatDoor
