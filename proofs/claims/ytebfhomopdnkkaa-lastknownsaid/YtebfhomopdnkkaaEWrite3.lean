/-
  last.Last.Write, where it is not refused at once.
-/
import Derived.Test.YtebfhomopdnkkaaEWrite2
namespace Go.Proofs.Ytebfhomopdnkkaa
open Go.RowKit Go.Lib Go.Sort
set_option linter.unusedVariables false

theorem noneL_false {a : C.La} (h : C.badL a = false) : C.noneL a.r a.n = false := by
  rw [C.badL_iff] at h
  simp only [C.noneL, Bool.or_eq_false_iff, decide_eq_false_iff_not]
  omega
/-- The walk's word for texts that are alike. -/
theorem txt_eq (y x : ByteArray) : (y.toList == x.toList) = decide (y = x) := by
  rw [ByteArray.toList_eq, ByteArray.toList_eq, Bool.eq_iff_iff, beq_iff_eq, decide_eq_true_eq]
  constructor
  · intro e; cases y; cases x; simp only at e; simp [Array.toList_inj.1 e]
  · rintro rfl; rfl
/-- What a write leaves: the value lies where it lay; new blocks besides. -/
def EPost (w : World) (g : Nat) (S a : C.La) (e : Ending) (w' : World) : Prop :=
  e = .returned (.tuple #[.bool (C.didL S a), .int .i64 (C.errL S a)]) ∧ EAt w' g false (C.wrL S a) ∧ Turn w w' (fun b => b = g)
theorem EAt.set4 {w : World} {g : Nat} {S : C.La} (h : EAt w g false S) (a : C.La) : EAt ((((w.setCell ⟨g, 0, none⟩ (.string a.x)).setCell ⟨g, 1, none⟩ (.int .i64 a.t)).setCell ⟨g, 2, none⟩ (.int .i64 a.r)).setCell ⟨g, 3, none⟩ (.int .i64 a.n)) g false a := by
  have h1 := set_block (o := 0) (v := .string a.x) h
  have h2 := set_block (o := 1) (v := .int .i64 a.t) h1
  have h3 := set_block (o := 2) (v := .int .i64 a.r) h2
  have h4 := set_block (o := 3) (v := .int .i64 a.n) h3
  unfold EAt
  rw [h4]
  simp [cellsE, C.La.cells]
theorem turn4 (w : World) (g : Nat) (i j k l : Nat) (a b c d : Value) : Turn w ((((w.setCell ⟨g, i, none⟩ a).setCell ⟨g, j, none⟩ b).setCell ⟨g, k, none⟩ c).setCell ⟨g, l, none⟩ d) (fun x => x = g) :=
  Turn.setCell (S := fun x => x = g) (Turn.setCell (S := fun x => x = g) (Turn.setCell (S := fun x => x = g) (Turn.setCell (S := fun x => x = g) (Turn.refl w _) rfl a) rfl b) rfl c) rfl d
set_option maxRecDepth 100000 in
set_option maxHeartbeats 8000000 in
theorem write_ok (w : World) (g : Nat) (S a : C.La) (h : EAt w g false S) (hb : C.badL a = false) :
    Calls Try.prog 11 #[.pointer (some ⟨g, 0, none⟩), .string a.x, .int .i64 a.t, .agg #[.int .i64 a.r, .int .i64 a.n]] w (EPost w g S a) := by
  have HD : Hid (C.didL S a = C.ltL S a ∧ C.errL S a = (if C.eqL S a = true ∧ S.x ≠ a.x then 5 else 0) ∧ C.wrL S a = (if C.ltL S a = true then a else S)) := by
    refine ⟨?_, ?_, ?_⟩
    · simp [C.didL, hb]
    · simp [C.errL, hb]
    · simp [C.wrL, hb]
  have hgood := (C.badL_iff a).1 hb
  have HN : Hid (∀ W, _) := fun W => isnone_any a.r a.n W
  rw [noneL_false hb] at HN
  have HC1 : Hid (∀ W, _) := fun W => cmpl_any a.t S.t W
  have HC2 : Hid (∀ W, _) := fun W => ecompare_any (a.r, a.n) (S.r, S.n) W
  obtain ⟨z, hz⟩ : ∃ z, C.ordL S a = z := ⟨_, rfl⟩
  have HZ : Hid ((0 < z ↔ C.ltL S a = true) ∧ (z = 0 ↔ C.eqL S a = true)) := by rw [← hz]; exact ⟨C.ordL_pos S a, C.ordL_zero S a⟩
  unfold C.ordL at hz
  have HC3 : Hid (∀ b W, _) := fun b W => or_any (C.cmp3 a.t S.t) (C.cmpD (a.r, a.n) (S.r, S.n)) b W
  rw [hz] at HC3
  have HCL : Hid (∀ W, _) := fun W => eclone_any a.x W (by have := hgood.1; omega)
  generalize C.cmp3 a.t S.t = q1 at HC1 HC3
  generalize C.cmpD (a.r, a.n) (S.r, S.n) = q2 at HC2 HC3
  have H : Hid (EAt w g false S) := h
  have HG : Hid (g < w.heap.size) := h.lt
  clear hz h hb
  obtain ⟨x, t, r, n⟩ := a
  obtain ⟨u, tt, rr, nn⟩ := S
  simp only at *
  have h1' : ¬ 100 < x.size := by omega
  have h2' : ¬ t < 0 := by omega
  have h3' : ¬ 1099511627776 < t := by omega
  have hxm : x.size ≤ 9223372036854775807 := by omega
  clear hgood
  obtain ⟨w1, hw1⟩ : ∃ w1, w1 = w.alloc (.cells #[.int .i64 r, .int .i64 n] 31) := ⟨_, rfl⟩
  have HB1 : Hid (Below w.heap.size w w1) := by show Below _ _ _; rw [hw1]; exact below_new _ _
  have HQ1 : Hid (w1.heap[w.heap.size]? = some (.cells #[.int .i64 r, .int .i64 n] 31)) := by show _ = _; rw [hw1]; exact heap_alloc_new _ _
  obtain ⟨gb, hgb⟩ : ∃ gb, gb = w.heap.size := ⟨_, rfl⟩
  rw [← hgb] at HQ1
  have HSW : Hid (∀ w', Below w1.heap.size w1 w' → (w'.cell? ⟨g, 1, none⟩ = some (.int .i64 tt) ∧ w'.cell? ⟨g, 2, none⟩ = some (.int .i64 rr) ∧ w'.cell? ⟨g, 3, none⟩ = some (.int .i64 nn)) ∧ w'.cell? ⟨gb, 0, none⟩ = some (.int .i64 r) ∧ w'.cell? ⟨gb, 1, none⟩ = some (.int .i64 n)) := fun w' hw =>
    ⟨(cells4_at (H.out.below (bt HB1.out hw))).2, box2 (keep_on hw HQ1.out)⟩
  go_enter Try.func11, Try.ntmps11
  obtain ⟨y0, y1⟩ := box2 (heap_alloc_new w (.cells #[.int .i64 r, .int .i64 n] 31))
  have HW1 : Hid (w1 = w.alloc (.cells #[.int .i64 r, .int .i64 n] 31)) := hw1
  have HGE : Hid (gb = w.heap.size) := hgb
  clear hw1 hgb
  go_wp2_with fail
  refine (HN.out _).mono ?_
  rintro e w2 ⟨rfl, hb2⟩
  rw [← HW1.out] at hb2
  rw [← HGE.out]
  have HB2 : Hid (Below w1.heap.size w1 w2) := hb2
  have HGB : Hid (g ≠ gb) := by have := HG.out; have := HGE.out; show _ ≠ _; omega
  clear hb2 y0 y1
  go_wp2_with fail
  go_region_held_law (fun w' => (w'.cell? ⟨g, 1, none⟩ = some (.int .i64 tt) ∧ w'.cell? ⟨g, 2, none⟩ = some (.int .i64 rr) ∧ w'.cell? ⟨g, 3, none⟩ = some (.int .i64 nn)) ∧ w'.cell? ⟨gb, 0, none⟩ = some (.int .i64 r) ∧ w'.cell? ⟨gb, 1, none⟩ = some (.int .i64 n))
    ((refine HSW.out _ ?_; repeat (first | exact HB2.out | exact bt hb4' (below_new _ _) | assumption | refine Below.drew ?_)))
    (first
    | (go_at_call 25; refine (HC1.out _).mono ?_; rintro e w3 ⟨rfl, rfl⟩)
    | (go_at_call 26; refine (HC2.out _).mono ?_; rintro e w4 ⟨rfl, hb4⟩; have hb4' : Below w1.heap.size w1 w4 := bt (HB2.out.drew) hb4; clear hb4)
    | (go_at_call 24; refine (HC3.out _ _ (new_cell _ _ _ _ _ (by simp)) (new_cell _ _ _ _ _ (by simp))).mono ?_; rintro e w5 ⟨rfl, rfl⟩))
  generalize hw5 : w4.alloc (.cells #[.int .i64 q1, .int .i64 q2] 3) = w5
  have HB5 : Hid (Below w1.heap.size w1 w5) := by show Below _ _ _; rw [← hw5]; exact bt hb4' (below_new _ _)
  clear hw5 hb4'
  have HT5 : Hid (Turn w w5 (fun b => b = g)) := Turn.of_below (bt HB1.out HB5.out)
  have HE5 : Hid (EAt w5 g false ⟨u, tt, rr, nn⟩) := H.out.below (bt HB1.out HB5.out)
  have y0 : w5.cell? ⟨g, 0, none⟩ = some (.string u) := HE5.out.cell 0
  obtain ⟨hz1, hz2⟩ := HZ.out
  obtain ⟨D1, D2, D3⟩ := HD.out
  clear HD HZ HC1 HC2 HC3 HN HQ1
  by_cases hp : 0 < z
  · have hlt := hz1.1 hp
    have hne : ¬ z = 0 := by omega
    have heq : ¬ C.eqL ⟨u, tt, rr, nn⟩ ⟨x, t, r, n⟩ = true := fun e => hne (hz2.2 e)
    rw [hlt] at D1
    rw [if_neg (fun e => heq e.1)] at D2
    rw [if_pos hlt] at D3
    have hle : ¬ z ≤ 0 := by omega
    have hzb : (z == 0) = false := by simpa using hne
    have HF : Hid (∀ w', EAt w' g false ⟨x, t, r, n⟩ → Turn w w' (fun b => b = g) → EPost w g ⟨u, tt, rr, nn⟩ ⟨x, t, r, n⟩ (.returned (.tuple #[.bool true, .int .i64 0])) w') := fun w' h1 h2 => by
      refine ⟨by rw [D1, D2], ?_, h2⟩
      rw [D3]; exact h1
    have HQ : Hid (∀ w', Below w5.heap.size w5 w' → w'.cell? ⟨gb, 0, none⟩ = some (.int .i64 r) ∧ w'.cell? ⟨gb, 1, none⟩ = some (.int .i64 n)) := fun w' hw => (HSW.out w' (bt HB5.out hw)).2
    obtain ⟨v0, v1⟩ := HQ.out w5.drew ((Below.refl _ _).drew)
    clear D1 D2 D3 hz1 hz2 heq hlt HSW y0
    go_wp2_with fail
    go_region_with (go_at_call 27; refine (HCL.out _).mono ?_; rintro e w6 ⟨rfl, hb6⟩; have hb6' := bt ((Below.refl _ w5).drew) hb6; have he6 := HE5.out.below hb6'; obtain ⟨s0, s1⟩ := HQ.out w6 hb6'; obtain ⟨t0, t1, t2, t3⟩ := cells4_at he6; have f0 := he6.fz 0; have f1 := he6.fz 1; have f2 := he6.fz 2; have f3 := he6.fz 3)
    all_goals
      have HF6 : Hid _ := HF.out _ (he6.set4 ⟨x, t, r, n⟩) ((HT5.out.trans (Turn.of_below (S := fun b => b = g) hb6') fun _ h => Or.inl h).trans (turn4 w6 g 0 1 2 3 (.string x) (.int .i64 t) (.int .i64 r) (.int .i64 n)) fun _ h => Or.inl h)
      clear s0 s1 t0 t1 t2 t3 f0 f1 f2 f3 hb6 hb6' he6
      go_wp2
      exact bodyPost_ret (v := .tuple #[.bool true, .int .i64 0]) (by simp [results, Try.results11, go_sem]) rfl HF6.out
  · have hnl : C.ltL ⟨u, tt, rr, nn⟩ ⟨x, t, r, n⟩ = false := by
      cases hq : C.ltL ⟨u, tt, rr, nn⟩ ⟨x, t, r, n⟩ with
      | false => rfl
      | true => exact absurd (hz1.2 hq) hp
    rw [hnl] at D1 D3
    rw [if_neg (by decide)] at D3
    have HP : Hid (∀ er, C.errL ⟨u, tt, rr, nn⟩ ⟨x, t, r, n⟩ = er → EPost w g ⟨u, tt, rr, nn⟩ ⟨x, t, r, n⟩ (.returned (.tuple #[.bool false, .int .i64 er])) w5) := fun er he => by
      refine ⟨by rw [D1, he], ?_, HT5.out⟩
      rw [D3]; exact HE5.out
    by_cases h0 : z = 0
    · have he := hz2.1 h0
      by_cases hx : x = u
      · rw [if_neg (fun e => e.2 hx.symm)] at D2
        have HF : Hid _ := HP.out 0 D2
        subst hx
        clear D1 D2 D3 hz1 hz2 hnl HP he hp
        subst h0
        have hxx : (x.toList == x.toList) = true := beq_self_eq_true _
        go_wp2
        exact bodyPost_ret (v := .tuple #[.bool false, .int .i64 0]) (by simp [results, Try.results11, go_sem]) rfl HF.out
      · rw [if_pos ⟨he, fun e => hx e.symm⟩] at D2
        have HF : Hid _ := HP.out 5 D2
        clear D1 D2 D3 hz1 hz2 hnl HP he hp
        subst h0
        have hxx : (x.toList == u.toList) = false := by rw [txt_eq]; exact decide_eq_false hx
        go_wp2
        exact bodyPost_ret (v := .tuple #[.bool false, .int .i64 5]) (by simp [results, Try.results11, go_sem]) rfl HF.out
    · have hne : ¬ C.eqL ⟨u, tt, rr, nn⟩ ⟨x, t, r, n⟩ = true := fun e => h0 (hz2.2 e)
      rw [if_neg (fun e => hne e.1)] at D2
      have HF : Hid _ := HP.out 0 D2
      clear D1 D2 D3 hz1 hz2 hnl HP
      have hle : z ≤ 0 := by omega
      have hzb : (z == 0) = false := by simpa using h0
      go_wp2
      exact bodyPost_ret (v := .tuple #[.bool false, .int .i64 0]) (by simp [results, Try.results11, go_sem]) rfl HF.out
theorem ewrite_any (w : World) (g : Nat) (S a : C.La) (h : EAt w g false S) (hx : a.x.size ≤ maxLen) :
    Calls Try.prog 11 #[.pointer (some ⟨g, 0, none⟩), .string a.x, .int .i64 a.t, .agg #[.int .i64 a.r, .int .i64 a.n]] w (EPost w g S a) := by
  cases hb : C.badL a with
  | false => exact write_ok w g S a h hb
  | true =>
    refine (write_bad w g a hb hx).mono ?_
    rintro e w' ⟨rfl, hw⟩
    refine ⟨?_, ?_, Turn.of_below hw⟩
    · simp [C.didL, C.errL, hb]
    · have : C.wrL S a = S := by simp [C.wrL, hb]
      rw [this]; exact h.below hw
end Go.Proofs.Ytebfhomopdnkkaa
