/-
  last.Get.
-/
import Derived.Test.YtebfhomopdnkkaaEWrite
import Derived.Test.YtebfhomopdnkkaaWGet
namespace Go.Proofs.Ytebfhomopdnkkaa
open Go.RowKit Go.Lib
set_option linter.unusedVariables false

section
variable {w : World} {g : Nat} {x x' : ByteArray} {t r n t' r' n' : Int}
theorem EAt.setX (h : EAt w g false ⟨x, t, r, n⟩) (x' : ByteArray) : EAt (w.setCell ⟨g, 0, none⟩ (.string x')) g false ⟨x', t, r, n⟩ := by
  have := set_block (o := 0) (v := .string x') h
  unfold EAt; rw [this]; rfl
theorem EAt.setT (h : EAt w g false ⟨x, t, r, n⟩) (t' : Int) : EAt (w.setCell ⟨g, 1, none⟩ (.int .i64 t')) g false ⟨x, t', r, n⟩ := by
  have := set_block (o := 1) (v := .int .i64 t') h
  unfold EAt; rw [this]; rfl
theorem EAt.setR (h : EAt w g false ⟨x, t, r, n⟩) (r' : Int) : EAt (w.setCell ⟨g, 2, none⟩ (.int .i64 r')) g false ⟨x, t, r', n⟩ := by
  have := set_block (o := 2) (v := .int .i64 r') h
  unfold EAt; rw [this]; rfl
theorem EAt.setN (h : EAt w g false ⟨x, t, r, n⟩) (n' : Int) : EAt (w.setCell ⟨g, 3, none⟩ (.int .i64 n')) g false ⟨x, t, r, n'⟩ := by
  have := set_block (o := 3) (v := .int .i64 n') h
  unfold EAt; rw [this]; rfl
end
/-- Beside a reader a value is being read. -/
def Mid (w w' : World) (g b : Nat) (S : C.La) (s : Option (List UInt8)) : Prop := (∃ p n c, Rd w' g s p n c) ∧ EAt w' b false S ∧ w.grownBy w' (some g)
/-- Behind the reader's call. -/
theorem Mid.call {w w1 w2 : World} {g b : Nat} {S : C.La} {s s2 : Option (List UInt8)} (h : Mid w w1 g b S s) (hne : g ≠ b) (hr : ∃ p n c, Rd w2 g s2 p n c) (hg : w1.grownBy w2 (some g)) : Mid w w2 g b S s2 :=
  ⟨hr, h.2.1.same (hg.block b h.2.1.lt (fun e => hne (by cases e; rfl))), gtrans h.2.2 hg⟩
/-- Behind the store. -/
theorem Mid.store {w w1 : World} {g b : Nat} {S S' : C.La} {s : Option (List UInt8)} (h : Mid w w1 g b S s) (hne : g ≠ b) (hb : w.heap.size ≤ b) {o : Nat} {v : Value} (hs : EAt (w1.setCell ⟨b, o, none⟩ v) b false S') : Mid w (w1.setCell ⟨b, o, none⟩ v) g b S' s := by
  obtain ⟨⟨p, n, c, hr⟩, h2, h3⟩ := h
  exact ⟨⟨p, n, c, hr.kept (set_grown w1 b o v) h2.nb hne⟩, hs, grown_set h3 hb⟩
def EGet (w : World) (k : Bool) (S : C.La) (s : Option (List UInt8)) (e : Ending) (w' : World) : Prop :=
  (s = none ∧ e = .returned (.pointer none)) ∨ (∃ r b, s = some r ∧ e = .returned (.pointer (some ⟨b, 0, none⟩)) ∧ w.heap.size ≤ b ∧ EAt w' b k S)
theorem rbytes_len' {s s' : Option (List UInt8)} {m : Int} {l : List UInt8} (h : C.rbytes s m = (l, s')) (hl : (s.getD []).length ≤ 100000) : (s'.getD []).length ≤ 100000 := by
  have := (rbytes_len s m).2
  rw [h] at this
  exact Nat.le_trans this hl
set_option maxRecDepth 100000 in
set_option maxHeartbeats 8000000 in
theorem eget_any (w : World) (g : Nat) (s s' : Option (List UInt8)) (p : Option Addr) (n c : Nat) (S : C.La) (h : Rd w g s p n c) (hl : (s.getD []).length ≤ 100000) (hv : C.getL s = (S, s')) :
    Calls Try.prog 13 #[.pointer (some ⟨g, 0, none⟩)] w fun e w' => EGet w false S s' e w' ∧ (∃ p' n' c', Rd w' g s' p' n' c') ∧ w.grownBy w' (some g) := by
  have HG : Hid (g < w.heap.size) := h.lt
  have HX : Hid (Rd w g s p n c) := h
  have HL0 : Hid ((s.getD []).length ≤ 100000) := hl
  obtain ⟨v, s1, h1⟩ : ∃ v s1, C.rnum s 0 1 = (v, s1) := ⟨_, _, rfl⟩
  have HR1 : Hid _ := h1
  have HL1 : Hid ((s1.getD []).length ≤ 100000) := rnum_len' h1 hl
  unfold C.getL at hv
  rw [h1] at hv
  simp only at hv
  clear h hl h1
  have HEND : Hid (∀ w2 b, w.heap.size ≤ b → Mid w w2 g b S s' → (s' = none → EGet w false S s' (.returned (.pointer none)) w2 ∧ (∃ p' n' c', Rd w2 g s' p' n' c') ∧ w.grownBy w2 (some g)) ∧ (s' ≠ none → EGet w false S s' (.returned (.pointer (some ⟨b, 0, none⟩))) w2 ∧ (∃ p' n' c', Rd w2 g s' p' n' c') ∧ w.grownBy w2 (some g))) := fun w2 b hb hm =>
    ⟨fun e => ⟨Or.inl ⟨e, rfl⟩, hm.1, hm.2.2⟩, fun e => ⟨Or.inr (by
      cases s' with
      | none => exact absurd rfl e
      | some r => exact ⟨r, b, rfl, rfl, hb, hm.2.1⟩), hm.1, hm.2.2⟩⟩
  go_enter Try.func13, Try.ntmps13
  go_wp2_with fail
  refine (enew_any w).mono ?_
  rintro e w1 ⟨rfl, he1, hb1⟩
  obtain ⟨b, hbe⟩ : ∃ b, b = w.heap.size := ⟨_, rfl⟩
  rw [← hbe] at he1 ⊢
  have HB : Hid (w.heap.size ≤ b) := Nat.le_of_eq hbe.symm
  have HNE : Hid (g ≠ b) := by have := HG.out; show _ ≠ _; omega
  have HM1 : Hid (Mid w w1 g b C.La.zero s) := ⟨⟨_, _, _, HX.out.below hb1⟩, he1, gbelow hb1⟩
  clear he1 hb1 hbe HX
  obtain ⟨⟨p1, n1, c1, r1⟩, -, -⟩ := HM1.out
  go_wp2_with fail
  refine (rnum_at w1 g s p1 n1 c1 0 1 v s1 r1 HL0.out HR1.out).mono ?_
  rintro e w2 ⟨rfl, hr2, hg2⟩
  have HM2 : Hid (Mid w w2 g b C.La.zero s1) := HM1.out.call HNE.out hr2 hg2
  clear hr2 hg2 HM1 r1
  by_cases hv1 : v = 1
  · rw [if_pos hv1] at hv
    obtain ⟨t, s2, h2⟩ : ∃ t s2, C.rnum s1 0 1099511627776 = (t, s2) := ⟨_, _, rfl⟩
    rw [h2] at hv
    simp only at hv
    obtain ⟨r, s3, h3⟩ : ∃ r s3, C.rnum s2 0 6 = (r, s3) := ⟨_, _, rfl⟩
    rw [h3] at hv
    simp only at hv
    obtain ⟨m, s4, h4⟩ : ∃ n s4, C.rnum s3 1 1099511627776 = (n, s4) := ⟨_, _, rfl⟩
    rw [h4] at hv
    simp only at hv
    obtain ⟨x, s5, h5⟩ : ∃ x s5, C.rbytes s4 100 = (x, s5) := ⟨_, _, rfl⟩
    rw [h5] at hv
    simp only [Prod.mk.injEq] at hv
    obtain ⟨rfl, rfl⟩ := hv
    have HR2 : Hid _ := h2
    have HR3 : Hid _ := h3
    have HR4 : Hid _ := h4
    have HR5 : Hid _ := h5
    have HL2 : Hid ((s2.getD []).length ≤ 100000) := rnum_len' h2 HL1.out
    have HL3 : Hid ((s3.getD []).length ≤ 100000) := rnum_len' h3 HL2.out
    have HL4 : Hid ((s4.getD []).length ≤ 100000) := rnum_len' h4 HL3.out
    subst hv1
    clear h2 h3 h4 h5
    obtain ⟨⟨p2, n2, c2, r2⟩, -, -⟩ := HM2.out
    go_wp2_with fail
    refine (rnum_at w2 g s1 p2 n2 c2 0 1099511627776 t s2 r2 HL1.out HR2.out).mono ?_
    rintro e w3 ⟨rfl, hr3, hg3⟩
    have HM3 : Hid (Mid w w3 g b C.La.zero s2) := HM2.out.call HNE.out hr3 hg3
    have HM4 : Hid (Mid w (w3.setCell ⟨b, 1, none⟩ (.int .i64 t)) g b ⟨ByteArray.empty, t, 0, 0⟩ s2) := HM3.out.store HNE.out HB.out (EAt.setT HM3.out.2.1 t)
    have y1 := HM3.out.2.1.cell 1
    have f1 := HM3.out.2.1.fz 1
    clear hr3 hg3 r2 HM2
    go_wp2_with fail
    clear y1 f1 HM3
    generalize w3.setCell ⟨b, 1, none⟩ (.int .i64 t) = w4 at *
    obtain ⟨⟨p4, n4, c4, r4⟩, -, -⟩ := HM4.out
    refine (rnum_at w4 g s2 p4 n4 c4 0 6 r s3 r4 HL2.out HR3.out).mono ?_
    rintro e w5 ⟨rfl, hr5, hg5⟩
    have HM5 : Hid (Mid w w5 g b ⟨ByteArray.empty, t, 0, 0⟩ s3) := HM4.out.call HNE.out hr5 hg5
    have HM6 : Hid (Mid w (w5.setCell ⟨b, 2, none⟩ (.int .i64 r)) g b ⟨ByteArray.empty, t, r, 0⟩ s3) := HM5.out.store HNE.out HB.out (EAt.setR HM5.out.2.1 r)
    have y1 := HM5.out.2.1.cell 2
    have f1 := HM5.out.2.1.fz 2
    clear hr5 hg5 r4 HM4
    go_wp2_with fail
    clear y1 f1 HM5
    generalize w5.setCell ⟨b, 2, none⟩ (.int .i64 r) = w6 at *
    obtain ⟨⟨p6, n6, c6, r6⟩, -, -⟩ := HM6.out
    refine (rnum_at w6 g s3 p6 n6 c6 1 1099511627776 m s4 r6 HL3.out HR4.out).mono ?_
    rintro e w7 ⟨rfl, hr7, hg7⟩
    have HM7 : Hid (Mid w w7 g b ⟨ByteArray.empty, t, r, 0⟩ s4) := HM6.out.call HNE.out hr7 hg7
    have HM8 : Hid (Mid w (w7.setCell ⟨b, 3, none⟩ (.int .i64 m)) g b ⟨ByteArray.empty, t, r, m⟩ s4) := HM7.out.store HNE.out HB.out (EAt.setN HM7.out.2.1 m)
    have y1 := HM7.out.2.1.cell 3
    have f1 := HM7.out.2.1.fz 3
    clear hr7 hg7 r6 HM6
    go_wp2_with fail
    clear y1 f1 HM7
    generalize w7.setCell ⟨b, 3, none⟩ (.int .i64 m) = w8 at *
    obtain ⟨⟨p8, n8, c8, r8⟩, -, -⟩ := HM8.out
    refine (rtext_at w8 g s4 p8 n8 c8 100 x s5 r8 HL4.out HR5.out).mono ?_
    rintro e w9 ⟨rfl, hr9, hg9⟩
    have HM9 : Hid (Mid w w9 g b ⟨ByteArray.empty, t, r, m⟩ s5) := HM8.out.call HNE.out hr9 hg9
    have HMA : Hid (Mid w (w9.setCell ⟨b, 0, none⟩ (.string ⟨x.toArray⟩)) g b ⟨⟨x.toArray⟩, t, r, m⟩ s5) := HM9.out.store HNE.out HB.out (EAt.setX HM9.out.2.1 ⟨x.toArray⟩)
    have y1 := HM9.out.2.1.cell 0
    have f1 := HM9.out.2.1.fz 0
    clear hr9 hg9 r8 HM8
    go_wp2_with fail
    clear y1 f1 HM9
    generalize w9.setCell ⟨b, 0, none⟩ (.string ⟨x.toArray⟩) = wa at *
    obtain ⟨⟨pa, na, ca, ra⟩, -, -⟩ := HMA.out
    refine (bad_any wa g s5 pa na ca ra).mono ?_
    rintro e wb ⟨rfl, hw⟩
    subst hw
    have HE : Hid _ := HEND.out wb b HB.out HMA.out
    clear ra HMA
    cases s5 with
    | none =>
      go_wp2
      go_ret
      exact HE.out.1 (by first | rfl | trivial)
    | some q =>
      go_wp2
      go_ret
      exact HE.out.2 (by simp)
  · rw [if_neg hv1] at hv
    simp only [Prod.mk.injEq] at hv
    obtain ⟨rfl, rfl⟩ := hv
    have hvb : (v == 1) = false := by simpa using hv1
    clear hv1
    go_wp2_with fail
    obtain ⟨⟨p2, n2, c2, r2⟩, -, -⟩ := HM2.out
    refine (bad_any w2 g s1 p2 n2 c2 r2).mono ?_
    rintro e wb ⟨rfl, hw⟩
    subst hw
    have HE : Hid _ := HEND.out wb b HB.out HM2.out
    clear r2 HM2
    cases s1 with
    | none =>
      go_wp2
      go_ret
      exact HE.out.1 (by first | rfl | trivial)
    | some q =>
      go_wp2
      go_ret
      exact HE.out.2 (by simp)
end Go.Proofs.Ytebfhomopdnkkaa
