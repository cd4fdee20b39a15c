/-
  The document's own: GetLast.
-/
import Derived.Test.YtebfhomopdnkkaaEGet
import Derived.Test.YtebfhomopdnkkaaEDPut
import Derived.Test.YtebfhomopdnkkaaRRead4
namespace Go.Proofs.Ytebfhomopdnkkaa
open Go.RowKit Go.Lib
set_option linter.unusedVariables false

theorem EAt.ne_rs {w : World} {g k : Nat} {b : Bool} {S : C.La} {s : Option (List UInt8)} {p : Option Addr} {n c : Nat} {l : List UInt8} (h : EAt w g b S) (hr : Rs w k p n c l s) : g ≠ k := by
  rintro rfl
  obtain ⟨a, hr, -⟩ := hr
  have h2 := hr.c0
  rw [h.cell 0] at h2
  cases b <;> simp [cellsE, C.La.cells] at h2
/-- While it is being read its mark is ahead of its number. -/
def DAt (w : World) (g : Nat) (z : Bool) (x : ByteArray) (t r n : Int) : Prop := w.heap[g]? = some (.cells #[.bool z, .string x, .int .i64 t, .int .i64 r, .int .i64 n] 43)
section
variable {w w' : World} {g : Nat} {z z' : Bool} {x x' : ByteArray} {t r n t' r' n' : Int}
theorem DAt.lt (h : DAt w g z x t r n) : g < w.heap.size := (Array.getElem?_eq_some_iff.1 h).1
theorem DAt.same (h : DAt w g z x t r n) (hs : w'.heap[g]? = w.heap[g]?) : DAt w' g z x t r n := hs.trans h
theorem DAt.cell (h : DAt w g z x t r n) (i : Nat) : w.cell? ⟨g, i, none⟩ = (#[.bool z, .string x, .int .i64 t, .int .i64 r, .int .i64 n] : Array Value)[i]? := by
  unfold DAt at h; simp [World.cell?, h]
theorem DAt.fz (h : DAt w g z x t r n) (o : Nat) : w.frozen? ⟨g, o, none⟩ = false := by unfold DAt at h; simp [World.frozen?, h]
theorem DAt.nb (h : DAt w g z x t r n) : NB w g := by
  intro o y
  rw [h.cell o]
  rcases o with _ | _ | _ | _ | _ | o <;> simp
theorem DAt.setZ (h : DAt w g z x t r n) (z' : Bool) : DAt (w.setCell ⟨g, 0, none⟩ (.bool z')) g z' x t r n := by
  have := set_block (o := 0) (v := .bool z') h
  unfold DAt; rw [this]; rfl
theorem DAt.setX (h : DAt w g z x t r n) (x' : ByteArray) : DAt (w.setCell ⟨g, 1, none⟩ (.string x')) g z x' t r n := by
  have := set_block (o := 1) (v := .string x') h
  unfold DAt; rw [this]; rfl
theorem DAt.setT (h : DAt w g z x t r n) (t' : Int) : DAt (w.setCell ⟨g, 2, none⟩ (.int .i64 t')) g z x t' r n := by
  have := set_block (o := 2) (v := .int .i64 t') h
  unfold DAt; rw [this]; rfl
theorem DAt.setR (h : DAt w g z x t r n) (r' : Int) : DAt (w.setCell ⟨g, 3, none⟩ (.int .i64 r')) g z x t r' n := by
  have := set_block (o := 3) (v := .int .i64 r') h
  unfold DAt; rw [this]; rfl
theorem DAt.setN (h : DAt w g z x t r n) (n' : Int) : DAt (w.setCell ⟨g, 4, none⟩ (.int .i64 n')) g z x t r n' := by
  have := set_block (o := 4) (v := .int .i64 n') h
  unfold DAt; rw [this]; rfl
end
/-- Beside a reader a value is being read. -/
structure MidD (w w' : World) (g : Nat) (p : Option Addr) (m c : Nat) (l : List UInt8) (s : Option (List UInt8)) (b : Nat) (z : Bool) (x : ByteArray) (t r n : Int) : Prop where
  rs : Rs w' g p m c l s
  at_ : DAt w' b z x t r n
  gr : w.grownBy w' (some g)
section
variable {w w1 w2 : World} {g b m c : Nat} {p : Option Addr} {l : List UInt8} {s s2 : Option (List UInt8)} {z z' : Bool} {x x' : ByteArray} {t r n t' r' n' : Int}
theorem MidD.call (h : MidD w w1 g p m c l s b z x t r n) (hne : g ≠ b) (hr : Rs w2 g p m c l s2) (hg : w1.grownBy w2 (some g)) : MidD w w2 g p m c l s2 b z x t r n :=
  ⟨hr, h.at_.same (hg.block b h.at_.lt (fun e => hne (by cases e; rfl))), gtrans h.gr hg⟩
theorem MidD.store (h : MidD w w1 g p m c l s b z x t r n) (hne : g ≠ b) (hb : w.heap.size ≤ b) {o : Nat} {v : Value} (hs : DAt (w1.setCell ⟨b, o, none⟩ v) b z' x' t' r' n') : MidD w (w1.setCell ⟨b, o, none⟩ v) g p m c l s b z' x' t' r' n' :=
  ⟨h.rs.kept (set_grown w1 b o v) h.at_.nb hne, hs, grown_set h.gr hb⟩
end
set_option maxRecDepth 100000 in
set_option maxHeartbeats 8000000 in
theorem dget_any (w : World) (g : Nat) (p : Option Addr) (q c : Nat) (l : List UInt8) (s s' : Option (List UInt8)) (S : C.La) (h : Rs w g p q c l s) (hl : l.length ≤ 100000) (hv : C.getL s = (S, s')) :
    Calls Try.prog 19 #[.pointer (some ⟨g, 0, none⟩)] w fun e w' => EGet w true S s' e w' ∧ Rs w' g p q c l s' ∧ w.grownBy w' (some g) := by
  have HG : Hid (g < w.heap.size) := h.lt
  have HL : Hid (l.length ≤ 100000) := hl
  obtain ⟨v, s1, h1⟩ : ∃ v s1, C.rnum s 0 1 = (v, s1) := ⟨_, _, rfl⟩
  have HR1 : Hid _ := h1
  have HOK : Hid (∀ q, s' = some q → S.Ok ∧ (C.isL S = true ↔ v = 1)) := fun q e => by
    subst e
    refine ⟨C.getL_ok hv, ?_⟩
    unfold C.getL at hv
    rw [h1] at hv
    simp only at hv
    by_cases hv1 : v = 1
    · have hok := C.getL_ok (s := s) (S := S) (l := q) (by unfold C.getL; rw [h1]; exact hv)
      refine ⟨fun _ => hv1, fun _ => ?_⟩
      rw [if_pos hv1] at hv
      simp only [Prod.mk.injEq] at hv
      obtain ⟨hS, hq⟩ := hv
      obtain ⟨-, q3, e3⟩ := C.rbytes_in (x := _) (l := q) (Prod.ext rfl hq)
      have hi := C.rnum_in (v := _) (l := q3) (Prod.ext rfl e3)
      have : S.n = (C.rnum (C.rnum (C.rnum s1 0 1099511627776).2 0 6).2 1 1099511627776).1 := by rw [← hS]
      have h0 : 1 ≤ S.n := by rw [this]; exact hi.1
      unfold C.isL
      rw [bne_iff_ne]
      omega
    · rw [if_neg hv1] at hv
      simp only [Prod.mk.injEq] at hv
      rw [← hv.1]
      exact ⟨fun e => (by cases e), fun e => absurd e hv1⟩
  unfold C.getL at hv
  rw [h1] at hv
  simp only at hv
  have HX : Hid (Rs w g p q c l s) := h
  clear h hl h1
  have HEND : Hid (∀ w2 b z x t r n, w.heap.size ≤ b → MidD w w2 g p q c l s' b z x t r n → S = ⟨x, t, r, n⟩ → (z = true ↔ v = 1) → (s' = none → EGet w true S s' (.returned (.pointer none)) w2 ∧ Rs w2 g p q c l s' ∧ w.grownBy w2 (some g)) ∧ (s' ≠ none → EGet w true S s' (.returned (.pointer (some ⟨b, 0, none⟩))) w2 ∧ Rs w2 g p q c l s' ∧ w.grownBy w2 (some g))) := fun w2 b z x t r n hb hm hS hz =>
    ⟨fun e => ⟨Or.inl ⟨e, rfl⟩, hm.rs, hm.gr⟩, fun e => ⟨Or.inr (by
      cases hs : s' with
      | none => exact absurd hs e
      | some r' =>
        refine ⟨r', b, rfl, rfl, hb, ?_⟩
        have h2 := (HOK.out r' hs).2
        have h3 := hm.at_
        have h4 : C.isL S = z := by
          cases z <;> cases hq : C.isL S
          · rfl
          · have := hz.2 (h2.1 hq); cases this
          · have := h2.2 (hz.1 rfl); rw [hq] at this; cases this
          · rfl
        unfold EAt
        unfold DAt at h3
        rw [h3]
        subst hS
        simp [cellsE, C.La.cells, h4, tyE]), hm.rs, hm.gr⟩⟩
  have HN0 : Hid _ := heap_alloc_new w (.cells #[.bool false, .string ⟨#[]⟩, .int .i64 0, .int .i64 0, .int .i64 0] 43)
  have HB0 : Hid _ := below_new w (.cells #[.bool false, .string ⟨#[]⟩, .int .i64 0, .int .i64 0, .int .i64 0] 43)
  go_enter Try.func19, Try.ntmps19
  go_wp2_with fail
  obtain ⟨b, hbe⟩ : ∃ b, b = w.heap.size := ⟨_, rfl⟩
  have HM1 : Hid (MidD w (w.alloc (.cells #[.bool false, .string ⟨#[]⟩, .int .i64 0, .int .i64 0, .int .i64 0] 43)) g p q c l s b false ⟨#[]⟩ 0 0 0) := ⟨HX.out.below HB0.out, by rw [hbe]; exact HN0.out, gbelow HB0.out⟩
  rw [← hbe]
  have HB : Hid (w.heap.size ≤ b) := Nat.le_of_eq hbe.symm
  have HNE : Hid (g ≠ b) := by have := HG.out; show _ ≠ _; omega
  clear hbe HX HN0 HB0
  generalize w.alloc (.cells #[.bool false, .string ⟨#[]⟩, .int .i64 0, .int .i64 0, .int .i64 0] 43) = w1 at *
  refine (refrnum_at w1 g p q c l s s1 0 1 v HM1.out.rs HL.out HR1.out).mono ?_
  rintro e w2 ⟨rfl, hr2, hg2⟩
  have HM2 : Hid (MidD w w2 g p q c l s1 b false ⟨#[]⟩ 0 0 0) := HM1.out.call HNE.out hr2 hg2
  clear hr2 hg2 HM1
  by_cases hv1 : v = 1
  · rw [if_pos hv1] at hv
    obtain ⟨t, s2, h2⟩ : ∃ t s2, C.rnum s1 0 1099511627776 = (t, s2) := ⟨_, _, rfl⟩
    rw [h2] at hv
    simp only at hv
    obtain ⟨r, s3, h3⟩ : ∃ r s3, C.rnum s2 0 6 = (r, s3) := ⟨_, _, rfl⟩
    rw [h3] at hv
    simp only at hv
    obtain ⟨m, s4, h4⟩ : ∃ n s4, C.rnum s3 1 1099511627776 = (n, s4) := ⟨_, _, rfl⟩
    rw [h4] at hv
    simp only at hv
    obtain ⟨x, s5, h5⟩ : ∃ x s5, C.rbytes s4 100 = (x, s5) := ⟨_, _, rfl⟩
    rw [h5] at hv
    simp only [Prod.mk.injEq] at hv
    obtain ⟨rfl, rfl⟩ := hv
    have HR2 : Hid _ := h2
    have HR3 : Hid _ := h3
    have HR4 : Hid _ := h4
    have HR5 : Hid _ := h5
    subst hv1
    clear h2 h3 h4 h5
    have y1 := HM2.out.at_.cell 0
    have f1 := HM2.out.at_.fz 0
    have HM3 : Hid (MidD w (w2.setCell ⟨b, 0, none⟩ (.bool true)) g p q c l s1 b true ⟨#[]⟩ 0 0 0) := HM2.out.store HNE.out HB.out (HM2.out.at_.setZ true)
    go_wp2_with fail
    clear y1 f1 HM2
    generalize w2.setCell ⟨b, 0, none⟩ (.bool true) = w3 at *
    refine (refrnum_at w3 g p q c l s1 s2 0 1099511627776 t HM3.out.rs HL.out HR2.out).mono ?_
    rintro e w4 ⟨rfl, hr4, hg4⟩
    have HM4 : Hid (MidD w w4 g p q c l s2 b true ⟨#[]⟩ 0 0 0) := HM3.out.call HNE.out hr4 hg4
    have HM5 : Hid (MidD w (w4.setCell ⟨b, 2, none⟩ (.int .i64 t)) g p q c l s2 b true ⟨#[]⟩ t 0 0) := HM4.out.store HNE.out HB.out (HM4.out.at_.setT t)
    have y1 := HM4.out.at_.cell 2
    have f1 := HM4.out.at_.fz 2
    clear hr4 hg4 HM3
    go_wp2_with fail
    clear y1 f1 HM4
    generalize w4.setCell ⟨b, 2, none⟩ (.int .i64 t) = w5 at *
    refine (refrnum_at w5 g p q c l s2 s3 0 6 r HM5.out.rs HL.out HR3.out).mono ?_
    rintro e w6 ⟨rfl, hr6, hg6⟩
    have HM6 : Hid (MidD w w6 g p q c l s3 b true ⟨#[]⟩ t 0 0) := HM5.out.call HNE.out hr6 hg6
    have HM7 : Hid (MidD w (w6.setCell ⟨b, 3, none⟩ (.int .i64 r)) g p q c l s3 b true ⟨#[]⟩ t r 0) := HM6.out.store HNE.out HB.out (HM6.out.at_.setR r)
    have y1 := HM6.out.at_.cell 3
    have f1 := HM6.out.at_.fz 3
    clear hr6 hg6 HM5
    go_wp2_with fail
    clear y1 f1 HM6
    generalize w6.setCell ⟨b, 3, none⟩ (.int .i64 r) = w7 at *
    refine (refrnum_at w7 g p q c l s3 s4 1 1099511627776 m HM7.out.rs HL.out HR4.out).mono ?_
    rintro e w8 ⟨rfl, hr8, hg8⟩
    have HM8 : Hid (MidD w w8 g p q c l s4 b true ⟨#[]⟩ t r 0) := HM7.out.call HNE.out hr8 hg8
    have HM9 : Hid (MidD w (w8.setCell ⟨b, 4, none⟩ (.int .i64 m)) g p q c l s4 b true ⟨#[]⟩ t r m) := HM8.out.store HNE.out HB.out (HM8.out.at_.setN m)
    have y1 := HM8.out.at_.cell 4
    have f1 := HM8.out.at_.fz 4
    clear hr8 hg8 HM7
    go_wp2_with fail
    clear y1 f1 HM8
    generalize w8.setCell ⟨b, 4, none⟩ (.int .i64 m) = w9 at *
    refine (refbytes_at w9 g p q c l s4 s5 100 x HM9.out.rs HL.out HR5.out).mono ?_
    rintro e wa ⟨⟨px, nx, cx, rfl, hix⟩, hra, hga⟩
    have HMA : Hid (MidD w wa g p q c l s5 b true ⟨#[]⟩ t r m) := HM9.out.call HNE.out hra hga
    have HMB : Hid (MidD w (wa.setCell ⟨b, 1, none⟩ (.string ⟨x.toArray⟩)) g p q c l s5 b true ⟨x.toArray⟩ t r m) := HMA.out.store HNE.out HB.out (HMA.out.at_.setX ⟨x.toArray⟩)
    have hcv := conv_is hix
    have y1 := HMA.out.at_.cell 1
    have f1 := HMA.out.at_.fz 1
    have HE : Hid _ := HEND.out (wa.setCell ⟨b, 1, none⟩ (.string ⟨x.toArray⟩)) b true _ t r m HB.out HMB.out rfl (by first | exact ⟨fun _ => rfl, fun _ => rfl⟩ | simp)
    obtain ⟨aa, hRr, -⟩ := HMB.out.rs
    have hc2 := hRr.c2
    clear hix hra hga HM9 hRr HMA HMB
    cases s5 with
    | none =>
      have hc2' : (wa.setCell ⟨b, 1, none⟩ (.string ⟨x.toArray⟩)).cell? ⟨g, 2, none⟩ = some (.bool true) := hc2
      clear hc2
      go_wp2
      go_ret
      exact HE.out.1 (by first | rfl | trivial)
    | some y =>
      have hc2' : (wa.setCell ⟨b, 1, none⟩ (.string ⟨x.toArray⟩)).cell? ⟨g, 2, none⟩ = some (.bool false) := hc2
      clear hc2
      go_wp2
      go_ret
      exact HE.out.2 (by simp)
  · rw [if_neg hv1] at hv
    simp only [Prod.mk.injEq] at hv
    obtain ⟨rfl, rfl⟩ := hv
    have hvb : (v == 1) = false := by simpa using hv1
    have HE : Hid _ := HEND.out w2 b false _ 0 0 0 HB.out HM2.out rfl ⟨fun e => (by cases e), fun e => absurd e hv1⟩
    clear hv1
    obtain ⟨aa, hRr, -⟩ := HM2.out.rs
    have hc2 := hRr.c2
    clear hRr HM2
    cases s1 with
    | none =>
      have hc2' : w2.cell? ⟨g, 2, none⟩ = some (.bool true) := hc2
      clear hc2
      go_wp2
      go_ret
      exact HE.out.1 (by first | rfl | trivial)
    | some q =>
      have hc2' : w2.cell? ⟨g, 2, none⟩ = some (.bool false) := hc2
      clear hc2
      go_wp2
      go_ret
      exact HE.out.2 (by simp)
end Go.Proofs.Ytebfhomopdnkkaa
