/-
  dots.Dots: New, Has, Vec, Len, Loose; slices.Clone at dots.
-/
import Derived.Test.YtglmmhgmdhdleaaTObj
namespace Go.Proofs.Ytglmmhgmdhdleaa
open Go.RowKit Go.Lib
set_option linter.unusedVariables false

theorem u_dots : Try.prog.underlying 37 = some (.slice 29) := Try.underlying37
theorem OwnD.empty (w : World) : OwnD (w.alloc (.cells #[] 29)) (.slice (some ⟨w.heap.size, 0, none⟩) 0 0) [] := World.ownsRow_lit w #[] 0 (Nat.zero_le _) (Nat.zero_le _) rfl
theorem bel_grown {w0 w w' : World} {o : Option Nat} (h : Below w0.heap.size w0 w) (hg : w.grownBy w' o) (ho : ∀ b, o = some b → w0.heap.size ≤ b) : Below w0.heap.size w0 w' := h.grown hg h.size ho
set_option maxHeartbeats 1000000 in
theorem cloneD_any (v : Value) (l : List C.Dt) (w : World) (h : OwnD w v l) (hl : l.length ≤ 1000000) :
    Calls Try.prog 45 #[v] w fun e w' => (∃ v', e = .returned v' ∧ OwnD w' v' l ∧ ∀ b, v'.ownBlock = some b → w.heap.size ≤ b) ∧ Below w.heap.size w w' := by
  have HO : Hid (OwnD w v l) := h
  have kn := fun (w : World) (a : Option Addr) (n c n' c' : Nat) => Lib.run_eql_slice_nil (P := Try.prog) w 37 29 a n c n' c' u_dots
  rcases h.shape with ⟨rfl, rfl⟩ | ⟨g, cap, cur, rfl, _⟩
  · clear h
    go_enter Try.func45, Try.ntmps45
    go_wp2
    go_ret
    exact ⟨⟨_, rfl, OwnD.nil _, fun b hb => by cases hb⟩, Below.refl _ _⟩
  · clear h
    go_enter Try.func45, Try.ntmps45
    go_wp2_with (at_builtin; go_must (refine wpList_append_src u_dots info_dot rfl (by decide) rfl _ _ rfl rfl (OwnD.empty w) rfl (row_src (HO.out.below (below_new w _))) (rowD_one l) (by simp only [List.length_nil]; unfold maxLen; omega) (by simp only [List.length_nil]; omega) ?_); intro v2 w2 ho2 hg2 hb2)
    go_ret
    refine ⟨⟨v2, rfl, ?_, fun b hb => ?_⟩, bel_grown (below_new w _) hg2 fun b hb => ?_⟩
    · simpa [OwnD, rowD] using ho2
    · rcases hb2 with h | h
      · rw [hb] at h; cases h; exact Nat.le_refl _
      · rw [hb] at h; cases h; simp
    · cases hb; exact Nat.le_refl _
theorem loose_any (w : World) (g : Nat) (c : V7) (v : Value) (l : List C.Dt) (h : DotsAt w g c v l) (hl : l.length ≤ 1000000) :
    Calls Try.prog 20 #[.pointer (some ⟨g, 0, none⟩)] w fun e w' => (∃ v', e = .returned v' ∧ OwnD w' v' l ∧ ∀ b, v'.ownBlock = some b → w.heap.size ≤ b) ∧ Below w.heap.size w w' := by
  obtain ⟨_, _, _, _, _, _, _, y7⟩ := cells8_at h.blk
  have HC : Hid _ := cloneD_any v l w h.row hl
  clear h hl
  go_enter Try.func20, Try.ntmps20
  go_wp2_with fail
  refine Calls.mono HC.out ?_
  rintro e w1 ⟨⟨v', rfl, h1, h2⟩, h3⟩
  have H1 : Hid _ := h1
  have H2 : Hid _ := h2
  have H3 : Hid _ := h3
  clear h1 h2 h3
  go_wp2
  go_ret
  exact ⟨⟨v', rfl, H1.out, H2.out⟩, H3.out⟩
theorem vec_any (w : World) (g : Nat) (c : V7) (v : Value) (l : List C.Dt) (h : DotsAt w g c v l) :
    Calls Try.prog 18 #[.pointer (some ⟨g, 0, none⟩)] w fun e w' => e = .returned c.v ∧ Below w.heap.size w w' := by
  obtain ⟨y0, y1, y2, y3, y4, y5, y6, y7⟩ := cells8_at (h.below (below_new w (.cells #[.int .i64 0, .int .i64 0, .int .i64 0, .int .i64 0, .int .i64 0, .int .i64 0, .int .i64 0] 43))).blk
  clear h
  obtain ⟨x0, x1, x2, x3, x4, x5, x6⟩ := c
  simp only [V7.v]
  go_enter Try.func18, Try.ntmps18
  go_wp2
  refine bodyPost_ret (v := .agg #[.int .i64 x0, .int .i64 x1, .int .i64 x2, .int .i64 x3, .int .i64 x4, .int .i64 x5, .int .i64 x6]) (by simp [results, Try.results18, go_sem]) rfl ⟨rfl, ?_⟩
  repeat' (refine Below.setCell ?_ (Nat.le_refl _) _)
  exact below_new _ _
set_option maxHeartbeats 2000000 in
theorem len_any (w : World) (g : Nat) (c : V7) (v : Value) (l : List C.Dt) (z : Int) (h : DotsAt w g c v l) (hl : l.length ≤ 1000000) (hc : C.good c = true) (hz : C.lenS ⟨c, l⟩ = z) :
    Calls Try.prog 21 #[.pointer (some ⟨g, 0, none⟩)] w fun e w' => e = .returned (.int .i64 z) ∧ w' = w := by
  obtain ⟨y0, y1, y2, y3, y4, y5, y6, y7⟩ := cells8_at h.blk
  obtain ⟨h0, h1, h2, h3, h4, h5, h6⟩ := (C.good_iff c).1 hc
  have hv : ∃ p cap, v = .slice p l.length cap := by
    rcases h.row.shape with ⟨rfl, rfl⟩ | ⟨b, cap, cur, rfl, _⟩
    · exact ⟨none, 0, rfl⟩
    · exact ⟨_, cap, rfl⟩
  obtain ⟨p, cap, rfl⟩ := hv
  have HZ : Hid (z = (l.length : Int) + c.x0 + c.x1 + c.x2 + c.x3 + c.x4 + c.x5 + c.x6) := by show z = _; rw [← hz]; unfold C.lenS C.sum7; simp only; omega
  clear h hc hz
  generalize l.length = n at *
  obtain ⟨x0, x1, x2, x3, x4, x5, x6⟩ := c
  simp only at *
  obtain ⟨i0, i1, i2, i3, i4, i5, i6⟩ := idx7 x0 x1 x2 x3 x4 x5 x6
  go_enter Try.func21, Try.ntmps21
  go_wp2
  refine wp_loop_rounds 8 ?_
  repeat (rw [rounds_succ]; go_wp2)
  go_ret
  exact ⟨by rw [HZ.out]; rfl, rfl⟩
set_option maxHeartbeats 2000000 in
theorem has_obj (w : World) (g : Nat) (c : V7) (v : Value) (l : List C.Dt) (d1 d2 : Int) (x : Bool) (h : DotsAt w g c v l) (hu : C.Up l) (hl : l.length ≤ 1000000) (hx : C.mem ⟨c, l⟩ (d1, d2) = x) :
    Calls Try.prog 16 #[.pointer (some ⟨g, 0, none⟩), .agg #[.int .i64 d1, .int .i64 d2]] w fun e w' => e = .returned (.bool x) ∧ Below w.heap.size w w' := by
  obtain ⟨isIn, hi⟩ : ∃ isIn, l.contains (d1, d2) = isIn := ⟨_, rfl⟩
  obtain ⟨hs, hh⟩ : ∃ hs, C.has c d1 d2 = hs := ⟨_, rfl⟩
  have HX : Hid (x = (hs || isIn)) := by show x = _; rw [← hx, ← hi, ← hh]; rfl
  have HF : Hid (∀ W, Below w.heap.size w W → Calls Try.prog 30 #[.pointer (some ⟨g, 0, none⟩), .agg #[.int .i64 d1, .int .i64 d2]] W fun e w' => e = .returned (.tuple #[.int .i64 (C.place (d1, d2) l : Nat), .bool isIn]) ∧ Below W.heap.size W w') := fun W hW => find_any W g c v l d1 d2 _ _ (h.below hW) hu hl rfl hi
  have HH : Hid (∀ W, Calls Try.prog 29 #[c.v, .agg #[.int .i64 d1, .int .i64 d2]] W fun e w' => e = .returned (.bool hs) ∧ Below W.heap.size W w') := fun W => has_at hh W
  have HD : Hid (DotsAt w g c v l) := h
  clear h hu hl hx hi hh
  obtain ⟨x0, x1, x2, x3, x4, x5, x6⟩ := c
  simp only [V7.v] at *
  go_enter Try.func16, Try.ntmps16
  go_wp2_with fail
  refine (HF.out _ (below_new _ _)).mono ?_
  rintro e w1 ⟨rfl, hb⟩
  have q2 : w1.heap[w.heap.size]? = some (.cells #[.int .i64 d1, .int .i64 d2] 29) := by rw [hb.block _ (by simp)]; exact heap_alloc_new _ _
  have HB : Hid (Below w.heap.size w w1) := bt (below_new _ _) hb
  clear hb
  obtain ⟨z0, z1⟩ := box2_all q2
  obtain ⟨y0, y1, y2, y3, y4, y5, y6, y7⟩ := cells8_all (HD.out.below HB.out).blk
  clear q2
  have hne : Nonempty (NewW w1) := ⟨NewW.start w1⟩
  cases isIn with
  | true =>
    go_wp2_with fail
    refine wp_region_new (by kernel_rfl) (by kernel_rfl) ?_
    repeat (go_big_quiet_step ((first | (exact new_of (HH.out _)))))
    refine wpQuiet_nil ?_
    rintro _ ⟨w2, rfl⟩
    go_wp2
    go_ret
    exact ⟨by rw [HX.out, Bool.or_true]; rfl, bt HB.out w2.h⟩
  | false =>
    go_wp2_with fail
    refine wp_region_new (by kernel_rfl) (by kernel_rfl) ?_
    repeat (go_big_quiet_step ((first | (exact new_of (HH.out _)))))
    refine wpQuiet_nil ?_
    rintro _ ⟨w2, rfl⟩
    go_wp2
    go_ret
    exact ⟨by rw [HX.out, Bool.or_false]; rfl, bt HB.out w2.h⟩
theorem new_any (w : World) : Calls Try.prog 9 #[] w fun e w' => (∃ g, e = .returned (.pointer (some ⟨g, 0, none⟩)) ∧ w.heap.size ≤ g ∧ DotsAt w' g C.zeroS.c (.slice none 0 0) []) ∧ Below w.heap.size w w' := by
  have H := heap_alloc_new w (.cells (cells8 C.zeroS.c (.slice none 0 0)) 59)
  have HN : Hid _ := H
  clear H
  go_enter Try.func9, Try.ntmps9
  go_wp2
  go_ret
  exact ⟨⟨_, rfl, Nat.le_refl _, HN.out, OwnD.nil _⟩, below_new _ _⟩
end Go.Proofs.Ytglmmhgmdhdleaa
