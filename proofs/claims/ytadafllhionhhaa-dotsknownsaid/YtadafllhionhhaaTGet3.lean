/-
  dots.Get.
-/
import Derived.Test.YtadafllhionhhaaTGet2
namespace Go.Proofs.Ytadafllhionhhaa
open Go.RowKit Go.Lib
set_option linter.unusedVariables false

theorem is_turn {w w' : World} {g : Nat} {p : Option Addr} {n c : Nat} {l : List UInt8} (h : Is w p n c l) (hn : NB w g) (ht : Turn w w' (fun b => b = g)) : Is w' p n c l := ⟨h.1, h.2.1, fun hl => by
  obtain ⟨b, o, hp, hc⟩ := h.2.2 hl
  refine ⟨b, o, hp, fun i hi => ?_⟩
  have h1 := hc i hi
  have hb : b ≠ g := fun e => hn (o + i) _ (by rw [← e]; exact h1)
  simp only [World.cell?, ht.block b (World.block_lt_of_cell? _ _ h1) hb]
  exact h1⟩
/-- What Get hands back. -/
def GetRet (w w' : World) (g : Nat) (s : Option (List UInt8)) (cv : V7) (R : List C.Dt × Option (List UInt8)) (e : Ending) : Prop :=
  (R.2 = none ∧ e = .returned (.pointer none) ∧ ∃ p n c, Rd w' g none p n c) ∨
  (∃ r, R.2 = some r ∧ LooseP cv R.1 ∧ ∃ g2 v', e = .returned (.pointer (some ⟨g2, 0, none⟩)) ∧ DotsAt w' g2 cv v' R.1 ∧ w.heap.size ≤ g2 ∧ Fresh w v' ∧ ∃ p n c, Rd w' g (some r) p n c) ∨
  (R.2 ≠ none ∧ ¬ LooseP cv R.1 ∧ e = .returned (.pointer none) ∧ ∃ p n c, Rd w' g s p n c)
set_option maxRecDepth 100000 in
set_option maxHeartbeats 8000000 in
theorem getD_any (w : World) (g : Nat) (s : Option (List UInt8)) (p : Option Addr) (n c : Nat) (h : Rd w g s p n c) (hl : (s.getD []).length ≤ 100000) (cv : V7) (s1 s2 : Option (List UInt8)) (m : Nat) (hv : C.getV s = (cv, s1)) (hl1 : (s1.getD []).length ≤ 100000) (hm : C.rnum s1 0 1000 = ((m : Int), s2)) (hm1 : m ≤ 1000) (R : List C.Dt × Option (List UInt8)) (hR : C.rowR m s2 = R) :
    Calls Try.prog 13 #[.pointer (some ⟨g, 0, none⟩)] w fun e w' => GetRet w w' g s cv R e ∧ Turn w w' (fun b => b = g) := by
  have HRD : Hid (Rd w g s p n c) := h
  have HGC : Hid (C.good cv = true) := C.getV_good hv
  have HMY : Hid (∀ r, R.2 = some r → ∀ d ∈ R.1, C.may d = true) := fun r hr => by rw [← hR] at hr ⊢; exact C.rowR_may m s2 r hr
  have HLEN : Hid (R.1.length ≤ 1000) := by show _ ≤ _; rw [← hR, C.rowR_len]; exact hm1
  have HC : Hid (∀ W p n c, Rd W g s p n c → Calls Try.prog 38 #[.pointer (some ⟨g, 0, none⟩)] W fun e w' => (∃ v', e = .returned (.tuple #[cv.v, v']) ∧ OwnN w' v' R.1 ∧ Fresh W v') ∧ (∃ p' n' c', Rd w' g R.2 p' n' c') ∧ Turn W w' (fun b => b = g)) := fun W p n c hW => readD_any W g s p n c hW hl cv s1 s2 m hv hl1 hm hm1 R hR
  have c0 := h.c0
  have c1 := h.c1
  clear h hl hv hl1 hm hR
  obtain ⟨lr, sr⟩ := R
  obtain ⟨x0, x1, x2, x3, x4, x5, x6⟩ := cv
  simp only at HMY HLEN HC
  simp only [V7.v] at HC
  generalize hsn : s.isNone = sn at c1
  have HSN : Hid (s.isNone = sn) := hsn
  clear hsn
  obtain ⟨W1, hW1⟩ : ∃ W1, W1 = w.alloc (.cells #[.slice p n c, .bool sn] 68) := ⟨_, rfl⟩
  have HB1 : Hid (Below w.heap.size w W1) := by show Below _ _ _; rw [hW1]; exact below_new _ _
  have HQ1 : Hid (W1.heap[w.heap.size]? = some (.cells #[.slice p n c, .bool sn] 68)) := by show _ = _; rw [hW1]; exact heap_alloc_new _ _
  go_enter Try.func13, Try.ntmps13
  go_wp2_with fail
  rw [← hW1]
  clear hW1 c0 c1
  refine (HC.out W1 p n c (HRD.out.below HB1.out)).mono ?_
  rintro e w2 ⟨⟨v, rfl, ho, hf⟩, ⟨p2, n2, c2, hr2⟩, ht⟩
  obtain ⟨qv, kv, cpv, rfl⟩ := ho.1.slice
  have HO2 : Hid (OwnN w2 (.slice qv kv cpv) lr) := ho
  have HF2 : Hid (Fresh w (.slice qv kv cpv)) := fun b hb => Nat.le_trans HB1.out.size (hf b hb)
  have HR2 : Hid (Rd w2 g sr p2 n2 c2) := hr2
  have HT2 : Hid (Turn w w2 (fun b => b = g)) := (Turn.of_below HB1.out).trans ht fun x hx => Or.inl hx
  have hgl := HRD.out.lt
  have HQ2 : Hid (w2.heap[w.heap.size]? = some (.cells #[.slice p n c, .bool sn] 68)) := by
    show _ = _
    rw [ht.block _ (Array.getElem?_eq_some_iff.1 HQ1.out).1 (by omega)]; exact HQ1.out
  clear ho hf hr2 ht hgl HC HQ1 HB1
  have HB3 : Hid (Below w2.heap.size w2 (w2.alloc (.cells #[.int .i64 x0, .int .i64 x1, .int .i64 x2, .int .i64 x3, .int .i64 x4, .int .i64 x5, .int .i64 x6] 43))) := below_new _ _
  have HQ3 : Hid ((w2.alloc (.cells #[.int .i64 x0, .int .i64 x1, .int .i64 x2, .int .i64 x3, .int .i64 x4, .int .i64 x5, .int .i64 x6] 43)).heap[w2.heap.size]? = some (.cells #[.int .i64 x0, .int .i64 x1, .int .i64 x2, .int .i64 x3, .int .i64 x4, .int .i64 x5, .int .i64 x6] 43)) := heap_alloc_new _ _
  go_wp2_with fail
  generalize w2.alloc (.cells #[.int .i64 x0, .int .i64 x1, .int .i64 x2, .int .i64 x3, .int .i64 x4, .int .i64 x5, .int .i64 x6] 43) = W3 at *
  refine (bad_any W3 g sr p2 n2 c2 (HR2.out.below HB3.out)).mono ?_
  rintro e w3 ⟨rfl, hw⟩
  subst hw
  cases sr with
  | none =>
    go_wp2
    go_ret
    exact ⟨Or.inl ⟨rfl, rfl, p2, n2, c2, HR2.out.below HB3.out⟩, HT2.out.trans (Turn.of_below HB3.out) fun x hx => Or.inl hx⟩
  | some r =>
    obtain ⟨b0, b1, b2, b3, b4, b5, b6⟩ := box7 HQ3.out
    have hsr : (some r).isNone = false := rfl
    simp only [hsr]
    go_wp2_with fail
    refine (loose_ok ⟨x0, x1, x2, x3, x4, x5, x6⟩ (.slice qv kv cpv) lr w3 (HO2.out.1.below HB3.out) (by have := HLEN.out; omega) HGC.out (HMY.out r rfl)).mono ?_
    rintro e w4 ⟨⟨bl, rfl, hbl⟩, hb4⟩
    have HBL : Hid (bl = true ↔ LooseP ⟨x0, x1, x2, x3, x4, x5, x6⟩ lr) := hbl
    have HB4 : Hid (Below w2.heap.size w2 w4) := bt HB3.out hb4
    have HT4 : Hid (Turn w w4 (fun b => b = g)) := HT2.out.trans (Turn.of_below HB4.out) fun x hx => Or.inl hx
    have HQ4 : Hid _ := keep_on hb4 HQ3.out
    clear hbl hb4 b0 b1 b2 b3 b4 b5 b6 hsr
    cases bl with
    | true =>
      obtain ⟨b0, b1, b2, b3, b4, b5, b6⟩ := box7 HQ4.out
      go_wp2
      go_ret
      refine ⟨Or.inr (Or.inl ⟨r, rfl, HBL.out.1 (by trivial), _, _, rfl, ⟨heap_alloc_new w4 _, (HO2.out.1.below HB4.out).below (below_new _ _)⟩, HT4.out.size, HF2.out, p2, n2, c2, (HR2.out.below HB4.out).below (below_new _ _)⟩), HT4.out.alloc _⟩
    | false =>
      have q2 := keep_on HB4.out HQ2.out
      have s0 := box_cells q2 0
      have s1' := box_cells q2 1
      simp only [List.getElem?_toArray, List.getElem?_cons_succ, List.getElem?_cons_zero] at s0 s1'
      have HR4 : Hid (Rd w4 g (some r) p2 n2 c2) := HR2.out.below HB4.out
      have r0 := HR4.out.c0
      have r1 := HR4.out.c1
      have f0 := HR4.out.fz 0
      have f1 := HR4.out.fz 1
      clear q2
      go_wp2
      go_ret
      refine ⟨Or.inr (Or.inr ⟨by simp, (fun k => by have h9 := HBL.out.2 k; cases h9), rfl, p, n, c, ?_⟩), (HT4.out.setCell rfl _).setCell rfl _⟩
      have hD := HRD.out
      refine ⟨?_, is_turn hD.is hD.nb ((HT4.out.setCell rfl _).setCell rfl _), hD.nc, hD.cm, hD.pa⟩
      rw [HSN.out]
      exact set_block (set_block HR4.out.blk)
end Go.Proofs.Ytadafllhionhhaa
