/-
  Several texts in one: TObj, TRead, TDel, TIns, TIns2, TClose, TAdd, TObjs.
-/
import Derived.Test.YtoglhhoniojbaaaTSearch
import Derived.Test.YtoglhhoniojbaaaWBox
import Derived.Lib.Overlaps
import Derived.Laws.Externs
import Derived.Deep.RegionHeldLaw
namespace Go.Proofs.Ytoglhhoniojbaaa
open Go.RowKit Go.Lib
set_option linter.unusedVariables false

def cells8 (c : V7) (v : Value) : Array Value := #[.int .i64 c.x0, .int .i64 c.x1, .int .i64 c.x2, .int .i64 c.x3, .int .i64 c.x4, .int .i64 c.x5, .int .i64 c.x6, v]
theorem get_cells8 (c : V7) (v : Value) {k : Nat} (h : k < 7) : (cells8 c v)[k]? = some (.int .i64 (C.at7 c k)) := by
  rcases C.seven h with rfl | rfl | rfl | rfl | rfl | rfl | rfl <;> rfl
theorem set_cells8 (c : V7) (v : Value) {k : Nat} (h : k < 7) : (cells8 c v).setIfInBounds k (.int .i64 (C.at7 c k + 1)) = cells8 (C.inc c k) v := by
  rcases C.seven h with rfl | rfl | rfl | rfl | rfl | rfl | rfl <;> rfl
theorem set_loose8 (c : V7) (v v' : Value) : (cells8 c v).setIfInBounds 7 v' = cells8 c v' := rfl
/-- The dots at block g: the clock c, the row l as the slice v. -/
structure DotsAt (w : World) (g : Nat) (c : V7) (v : Value) (l : List C.Dt) : Prop where
  blk : w.heap[g]? = some (.cells (cells8 c v) 119)
  row : OwnD w v l
def foot (g : Nat) (v : Value) : Nat → Prop := fun b => b = g ∨ v.ownBlock = some b
theorem DotsAt.lt {w : World} {g : Nat} {c : V7} {v : Value} {l : List C.Dt} (h : DotsAt w g c v l) {b : Nat} (hb : foot g v b) : b < w.heap.size := by
  rcases hb with rfl | hb
  · exact (Array.getElem?_eq_some_iff.1 h.blk).1
  · exact row_lt h.row hb
theorem DotsAt.apart {w : World} {g : Nat} {c : V7} {v : Value} {l : List C.Dt} (h : DotsAt w g c v l) : v.ownBlock ≠ some g := fun e => by
  obtain ⟨cur, hc⟩ := row_type h.row e
  have := h.blk
  rw [hc] at this
  simp at this
theorem DotsAt.same {w w' : World} {g : Nat} {c : V7} {v : Value} {l : List C.Dt} (h : DotsAt w g c v l) (hs : ∀ b, foot g v b → w'.heap[b]? = w.heap[b]?) : DotsAt w' g c v l :=
  ⟨(hs g (Or.inl rfl)).trans h.blk, h.row.same fun b hb => hs b (Or.inr hb)⟩
theorem DotsAt.below {w w' : World} {g : Nat} {c : V7} {v : Value} {l : List C.Dt} (h : DotsAt w g c v l) (hb : Below w.heap.size w w') : DotsAt w' g c v l := h.same fun b hf => hb.block b (h.lt hf)
theorem cells8_at {w : World} {g : Nat} {c : V7} {v : Value} {t : TypeId} {m : Nat × Nat} (h : w.heap[g]? = some (.cells (cells8 c v) t m)) :
    w.cell? ⟨g, 0, none⟩ = some (.int .i64 c.x0) ∧ w.cell? ⟨g, 1, none⟩ = some (.int .i64 c.x1) ∧ w.cell? ⟨g, 2, none⟩ = some (.int .i64 c.x2) ∧ w.cell? ⟨g, 3, none⟩ = some (.int .i64 c.x3) ∧ w.cell? ⟨g, 4, none⟩ = some (.int .i64 c.x4) ∧ w.cell? ⟨g, 5, none⟩ = some (.int .i64 c.x5) ∧ w.cell? ⟨g, 6, none⟩ = some (.int .i64 c.x6) ∧ w.cell? ⟨g, 7, none⟩ = some v := by
  simp [World.cell?, h, cells8]
/-- In whatever world of new memory. -/
theorem cells8_all {w : World} {g : Nat} {c : V7} {v : Value} {t : TypeId} {mk : Nat × Nat} (h : w.heap[g]? = some (.cells (cells8 c v) t mk)) :
    (∀ m : NewW w, m.v.cell? ⟨g, 0, none⟩ = some (.int .i64 c.x0)) ∧ (∀ m : NewW w, m.v.cell? ⟨g, 1, none⟩ = some (.int .i64 c.x1)) ∧ (∀ m : NewW w, m.v.cell? ⟨g, 2, none⟩ = some (.int .i64 c.x2)) ∧ (∀ m : NewW w, m.v.cell? ⟨g, 3, none⟩ = some (.int .i64 c.x3)) ∧ (∀ m : NewW w, m.v.cell? ⟨g, 4, none⟩ = some (.int .i64 c.x4)) ∧ (∀ m : NewW w, m.v.cell? ⟨g, 5, none⟩ = some (.int .i64 c.x5)) ∧ (∀ m : NewW w, m.v.cell? ⟨g, 6, none⟩ = some (.int .i64 c.x6)) ∧ (∀ m : NewW w, m.v.cell? ⟨g, 7, none⟩ = some v) := by
  have key : ∀ m : NewW w, m.v.heap[g]? = some (.cells (cells8 c v) t mk) := fun m => by rw [m.h.block g (Array.getElem?_eq_some_iff.1 h).1]; exact h
  exact ⟨fun m => (cells8_at (key m)).1, fun m => (cells8_at (key m)).2.1, fun m => (cells8_at (key m)).2.2.1, fun m => (cells8_at (key m)).2.2.2.1, fun m => (cells8_at (key m)).2.2.2.2.1, fun m => (cells8_at (key m)).2.2.2.2.2.1, fun m => (cells8_at (key m)).2.2.2.2.2.2.1, fun m => (cells8_at (key m)).2.2.2.2.2.2.2⟩
theorem box_cells {w : World} {b : Nat} {X : Array Value} {t : TypeId} {m : Nat × Nat} (h : w.heap[b]? = some (.cells X t m)) (k : Nat) : w.cell? ⟨b, k, none⟩ = X[k]? := by simp [World.cell?, h]
set_option maxRecDepth 100000 in
set_option maxHeartbeats 2000000 in
theorem isnext_any (c : V7) (d1 d2 : Int) (x : Bool) (w : World) (h0 : 0 ≤ d1) (h7 : d1 < 7) (hb : -1000000000000000 ≤ C.at7 c d1.toNat ∧ C.at7 c d1.toNat ≤ 1000000000000000) (hx : C.nextd c (d1, d2) = x) :
    Calls Try.prog 77 #[c.v, .agg #[.int .i64 d1, .int .i64 d2]] w fun e w' => e = .returned (.bool x) ∧ Below w.heap.size w w' := by
  have hx' : x = (d2 == C.at7 c d1.toNat + 1) := by rw [← hx]; unfold C.nextd; rw [Bool.eq_iff_iff]; simp
  have HX : Hid _ := hx'
  clear hx hx'
  have hk : d1.toNat < 7 := by omega
  have hd : d1 = (d1.toNat : Nat) := by omega
  generalize d1.toNat = k at *
  subst hd
  obtain ⟨y, hy⟩ : ∃ y, C.at7 c k = y := ⟨_, rfl⟩
  rw [hy] at HX hb
  have GY : ∀ (W : World) (b : Nat) (t : TypeId) (m : Nat × Nat), W.heap[b]? = some (.cells #[.int .i64 c.x0, .int .i64 c.x1, .int .i64 c.x2, .int .i64 c.x3, .int .i64 c.x4, .int .i64 c.x5, .int .i64 c.x6] t m) → W.cell? ⟨b, k, none⟩ = some (.int .i64 y) := fun W b t m hh => by
    rw [box_cells hh, ← hy]
    rcases C.seven hk with rfl | rfl | rfl | rfl | rfl | rfl | rfl <;> rfl
  have GYH : Hid _ := GY
  clear GY hy
  obtain ⟨x0, x1, x2, x3, x4, x5, x6⟩ := c
  simp only [V7.v]
  simp only at GYH
  go_enter Try.func77, Try.ntmps77
  go_wp2_with fail
  obtain ⟨W, hW⟩ : ∃ W, W = (w.alloc (.cells #[.int .i64 x0, .int .i64 x1, .int .i64 x2, .int .i64 x3, .int .i64 x4, .int .i64 x5, .int .i64 x6] 28)).alloc (.cells #[.int .i64 (k : Nat), .int .i64 d2] 31) := ⟨_, rfl⟩
  have HB : Hid (Below w.heap.size w W) := by show Below _ _ _; rw [hW]; exact bt (below_new _ _) (below_new _ _)
  obtain ⟨q1, q2⟩ := two_boxes w _ _ (w1 := W) (by rw [hW]; exact Below.refl _ _)
  have hy := GYH.out _ _ _ _ q1
  have z0 := box_cells q2 0
  have z1 := box_cells q2 1
  simp only [List.getElem?_toArray, List.getElem?_cons_succ, List.getElem?_cons_zero] at z0 z1
  rw [← hW]
  clear hW q1 q2 GYH
  have hne : Nonempty (NewW W) := ⟨NewW.start W⟩
  have Y : ∀ m : NewW W, m.v.cell? ⟨w.heap.size, k, none⟩ = some (.int .i64 y) := fun m => by
    rw [m.h.cell (p := ⟨w.heap.size, k, none⟩) (World.block_lt_of_cell? _ _ hy)]; exact hy
  have Z0 : ∀ m : NewW W, m.v.cell? ⟨w.heap.size + 1, 0, none⟩ = some (.int .i64 (k : Nat)) := fun m => by
    rw [m.h.cell (p := ⟨w.heap.size + 1, 0, none⟩) (World.block_lt_of_cell? _ _ z0)]; exact z0
  have Z1 : ∀ m : NewW W, m.v.cell? ⟨w.heap.size + 1, 1, none⟩ = some (.int .i64 d2) := fun m => by
    rw [m.h.cell (p := ⟨w.heap.size + 1, 1, none⟩) (World.block_lt_of_cell? _ _ z1)]; exact z1
  clear hy z0 z1
  have hk' : (k : Int) < 7 := by omega
  refine wp_region_new (by kernel_rfl) (by kernel_rfl) ?_
  repeat (go_big_quiet_step (fail))
  refine wpQuiet_nil ?_
  rintro _ ⟨w2, rfl⟩
  go_wp2
  go_ret
  exact ⟨by rw [HX.out]; rfl, bt HB.out w2.h⟩
theorem search_any (v : Value) (l : List C.Dt) (d1 d2 : Int) (pl : Nat) (isIn : Bool) (w : World) (h : OwnD w v l) (hu : C.Up l) (hl : l.length ≤ 1000000) (hp : C.place (d1, d2) l = pl) (hi : l.contains (d1, d2) = isIn) :
    Calls Try.prog 36 #[v, .agg #[.int .i64 d1, .int .i64 d2], .func (.func 86) #[] #[]] w fun e w' => e = .returned (.tuple #[.int .i64 (pl : Nat), .bool isIn]) ∧ Below w.heap.size w w' := by
  subst hp hi
  rcases h.shape with ⟨rfl, rfl⟩ | ⟨g, cap, cur, rfl, _⟩
  · exact search_nil (d1, d2) w
  · exact search_some g cap l (d1, d2) w h hu hl
set_option maxRecDepth 100000 in
set_option maxHeartbeats 2000000 in
theorem find_any (w : World) (g : Nat) (c : V7) (v : Value) (l : List C.Dt) (d1 d2 : Int) (pl : Nat) (isIn : Bool) (h : DotsAt w g c v l) (hu : C.Up l) (hl : l.length ≤ 1000000) (hp : C.place (d1, d2) l = pl) (hi : l.contains (d1, d2) = isIn) :
    Calls Try.prog 76 #[.pointer (some ⟨g, 0, none⟩), .agg #[.int .i64 d1, .int .i64 d2]] w fun e w' => e = .returned (.tuple #[.int .i64 (pl : Nat), .bool isIn]) ∧ Below w.heap.size w w' := by
  have HS : Hid (∀ W, Below w.heap.size w W → Calls Try.prog 36 #[v, .agg #[.int .i64 d1, .int .i64 d2], .func (.func 86) #[] #[]] W fun e w' => e = .returned (.tuple #[.int .i64 (pl : Nat), .bool isIn]) ∧ Below W.heap.size W w') := fun W hW => search_any v l d1 d2 pl isIn W (h.row.below hW) hu hl hp hi
  have HD : Hid (DotsAt w g c v l) := h
  clear h hu hl hp hi
  go_enter Try.func76, Try.ntmps76
  go_wp2_with fail
  obtain ⟨W, hW⟩ : ∃ W, W = w.alloc (.cells #[.int .i64 d1, .int .i64 d2] 31) := ⟨_, rfl⟩
  have HB : Hid (Below w.heap.size w W) := by show Below _ _ _; rw [hW]; exact below_new _ _
  have q2 : W.heap[w.heap.size]? = some (.cells #[.int .i64 d1, .int .i64 d2] 31) := by rw [hW]; exact heap_alloc_new _ _
  obtain ⟨z0, z1⟩ := box2_all q2
  obtain ⟨_, _, _, _, _, _, _, y7⟩ := cells8_all (HD.out.below HB.out).blk
  rw [← hW]
  clear hW q2
  have hne : Nonempty (NewW W) := ⟨NewW.start W⟩
  refine wp_region_new (by kernel_rfl) (by kernel_rfl) ?_
  repeat (go_big_quiet_step ((first | (exact new_of (HS.out _ (bt HB.out (NewW.h _)))))))
  refine wpQuiet_nil ?_
  rintro _ ⟨w2, rfl⟩
  go_wp2
  go_ret2
  exact ⟨rfl, bt HB.out w2.h⟩
end Go.Proofs.Ytoglhhoniojbaaa

namespace Go.Proofs.Ytoglhhoniojbaaa
open Go.RowKit Go.Lib
set_option linter.unusedVariables false

theorem u_dots : Try.prog.underlying 49 = some (.slice 31) := Try.underlying49
theorem OwnD.empty (w : World) : OwnD (w.alloc (.cells #[] 31)) (.slice (some ⟨w.heap.size, 0, none⟩) 0 0) [] := World.ownsRow_lit w #[] 0 (Nat.zero_le _) (Nat.zero_le _) rfl
theorem bel_grown {w0 w w' : World} {o : Option Nat} (h : Below w0.heap.size w0 w) (hg : w.grownBy w' o) (ho : ∀ b, o = some b → w0.heap.size ≤ b) : Below w0.heap.size w0 w' := h.grown hg h.size ho
set_option maxHeartbeats 1000000 in
theorem cloneD_any (v : Value) (l : List C.Dt) (w : World) (h : OwnD w v l) (hl : l.length ≤ 1000000) :
    Calls Try.prog 39 #[v] w fun e w' => (∃ v', e = .returned v' ∧ OwnD w' v' l ∧ ∀ b, v'.ownBlock = some b → w.heap.size ≤ b) ∧ Below w.heap.size w w' := by
  have HO : Hid (OwnD w v l) := h
  have kn := fun (w : World) (a : Option Addr) (n c n' c' : Nat) => Lib.run_eql_slice_nil (P := Try.prog) w 49 31 a n c n' c' u_dots
  rcases h.shape with ⟨rfl, rfl⟩ | ⟨g, cap, cur, rfl, _⟩
  · clear h
    go_enter Try.func39, Try.ntmps39
    go_wp2
    go_ret
    exact ⟨⟨_, rfl, OwnD.nil _, fun b hb => by cases hb⟩, Below.refl _ _⟩
  · clear h
    go_enter Try.func39, Try.ntmps39
    go_wp2_with (at_builtin; go_must (refine wpList_append_src u_dots info_dot rfl (by decide) rfl _ _ rfl rfl (OwnD.empty w) rfl (row_src (HO.out.below (below_new w _))) (rowD_one l) (by simp only [List.length_nil]; unfold maxLen; omega) (by simp only [List.length_nil]; omega) ?_); intro v2 w2 ho2 hg2 hb2)
    go_ret
    refine ⟨⟨v2, rfl, ?_, fun b hb => ?_⟩, bel_grown (below_new w _) hg2 fun b hb => ?_⟩
    · simpa [OwnD, rowD] using ho2
    · rcases hb2 with h | h
      · rw [hb] at h; cases h; exact Nat.le_refl _
      · rw [hb] at h; cases h; simp
    · cases hb; exact Nat.le_refl _
theorem new_any (w : World) : Calls Try.prog 61 #[] w fun e w' => (∃ g, e = .returned (.pointer (some ⟨g, 0, none⟩)) ∧ w.heap.size ≤ g ∧ DotsAt w' g C.zeroS.c (.slice none 0 0) []) ∧ Below w.heap.size w w' := by
  have H := heap_alloc_new w (.cells (cells8 C.zeroS.c (.slice none 0 0)) 119)
  have HN : Hid _ := H
  clear H
  go_enter Try.func61, Try.ntmps61
  go_wp2
  go_ret
  exact ⟨⟨_, rfl, Nat.le_refl _, HN.out, OwnD.nil _⟩, below_new _ _⟩
end Go.Proofs.Ytoglhhoniojbaaa

namespace Go.Proofs.Ytoglhhoniojbaaa
open Go.RowKit Go.Lib
set_option linter.unusedVariables false

theorem zero_dots (n : Nat) : (Builtin.zeroCells (Value.agg #[.int .i64 0, .int .i64 0]).cells n).toList = rowD (List.replicate n ((0, 0) : C.Dt)) := by
  have e : (Value.agg #[.int .i64 0, .int .i64 0]).cells = #[.int .i64 0, .int .i64 0] := rfl
  rw [e]
  unfold Builtin.zeroCells
  apply List.ext_getElem?
  intro j
  by_cases hj : j < n * 2
  · have hd : j / 2 < n := by omega
    have h1 := rowD_get (List.replicate n ((0, 0) : C.Dt)) (j / 2) (0, 0) (j % 2) (by simp [hd]) (by omega)
    rw [show j / 2 * 2 + j % 2 = j by omega] at h1
    rw [h1]
    have h2 : j % 2 = 0 ∨ j % 2 = 1 := by omega
    rcases h2 with h2 | h2 <;> simp [encD, h2, hj]
  · have h1 : (rowD (List.replicate n ((0, 0) : C.Dt))).length ≤ j := by rw [rowD_length, List.length_replicate]; omega
    rw [List.getElem?_eq_none h1, List.getElem?_eq_none (by simp; omega)]
theorem zv_dot (w : World) : (zeroValue 31).run Try.prog w = .ok (.agg #[.int .i64 0, .int .i64 0]) w := by kernel_rfl
theorem drew_grown {w w' : World} {o : Option Nat} (h : w.drew.grownBy w' o) : w.grownBy w' o := ⟨h.os, h.tape, h.output, h.size, h.block⟩
set_option maxRecDepth 100000 in
set_option maxHeartbeats 4000000 in
theorem delete_any (g cap i j : Nat) (l : List C.Dt) (w : World) (h : OwnD w (.slice (some ⟨g, 0, none⟩) l.length cap) l) (hij : i ≤ j) (hj : j ≤ l.length) (hl : l.length ≤ 1000000) :
    Calls Try.prog 87 #[.slice (some ⟨g, 0, none⟩) l.length cap, .int .i64 (i : Nat), .int .i64 (j : Nat)] w fun e w' =>
      e = .returned (.slice (some ⟨g, 0, none⟩) (l.take i ++ l.drop j).length cap) ∧ OwnD w' (.slice (some ⟨g, 0, none⟩) (l.take i ++ l.drop j).length cap) (l.take i ++ l.drop j) ∧ w.grownBy w' (some g) := by
  rcases h.shape with ⟨h1, _⟩ | ⟨g', cap', cur, hv, hg, hn, hm, hs, ht⟩
  · cases h1
  cases hv
  have hlen : (l.take i ++ l.drop j).length = i + (l.length - j) := by simp; omega
  rw [hlen]
  by_cases heq : i = j
  · subst heq
    have e1 : l.take i ++ l.drop i = l := List.take_append_drop i l
    have HO : Hid (OwnD w (.slice (some ⟨g, 0, none⟩) l.length cap) l) := h
    rw [e1, show i + (l.length - i) = l.length by omega]
    have hcap63 : cap ≤ 9223372036854775807 := Nat.le_trans hm (by decide)
    clear h hg ht hs hm hlen e1
    generalize hN : l.length = n at *
    have HNN : Hid (l.length = n) := hN
    clear hN
    by_cases hni : n = i
    · subst hni
      go_enter Try.func87, Try.ntmps87
      go_wp2
      all_goals
        go_ret
        exact ⟨rfl, HO.out, ⟨rfl, rfl, rfl, Nat.le_refl _, fun _ _ _ => rfl⟩⟩
    · go_enter Try.func87, Try.ntmps87
      go_wp2
      all_goals
        go_ret
        exact ⟨rfl, HO.out, ⟨rfl, rfl, rfl, Nat.le_refl _, fun _ _ _ => rfl⟩⟩
  · have hlt : i < j := by omega
    have hcap63 : cap ≤ 9223372036854775807 := Nat.le_trans hm (by decide)
    obtain ⟨X1, hX1⟩ : ∃ X1, X1 = over cur (i * 2) (rowD (l.drop j)) := ⟨_, rfl⟩
    obtain ⟨X2, hX2⟩ : ∃ X2, X2 = over X1 ((i + (l.length - j)) * 2) (rowD (List.replicate (j - i) ((0, 0) : C.Dt))) := ⟨_, rfl⟩
    have lr1 : (rowD (l.drop j)).length = (l.length - j) * 2 := by rw [rowD_length, List.length_drop]
    have lr2 : (rowD (List.replicate (j - i) ((0, 0) : C.Dt))).length = (j - i) * 2 := by rw [rowD_length, List.length_replicate]
    have lx1 : X1.length = cap * 2 := by rw [hX1, over_length _ _ _ (by omega)]; exact hs
    have lx2 : X2.length = cap * 2 := by rw [hX2, over_length _ _ _ (by omega)]; exact lx1
    have hg1 : (w.drew.setRow g X1.toArray).heap[g]? = some (.cells X1.toArray 31) := set_over (w := w.drew) hg
    have hg2 : ((w.drew.setRow g X1.toArray).setRow g X2.toArray).heap[g]? = some (.cells X2.toArray 31) := set_over hg1
    have hdrop : cur.drop (j * 2) = rowD (l.drop j) ++ cur.drop (l.length * 2) := by
      have e : cur = rowD l ++ cur.drop (l.length * 2) := by rw [← ht, List.take_append_drop]
      conv => lhs; rw [e]
      rw [List.drop_append_of_le_length (by rw [rowD_length]; omega), rowD_drop l j hj]
    have hsrc : ∀ c', SrcAt w.drew 2 (.slice (some ⟨g, j * 2, none⟩) (l.length - j) c') (l.length - j) (rowD (l.drop j)) := fun c' =>
      seg_src (w := w.drew) (cur := cur) hg _ lr1 fun k u hk => by
        have hkl := (List.getElem?_eq_some_iff.1 hk).1
        rw [← List.getElem?_drop, hdrop, List.getElem?_append_left hkl]; exact hk
    have hr1 : ∀ ty c', (Builtin.append_ #[49, 49] ty #[.slice (some ⟨g, 0, none⟩) i cap, .slice (if cap = j then some ⟨g, 0, none⟩ else some ⟨g, j * 2, none⟩) (l.length - j) c']).run Try.prog w.drew = .ok (.slice (some ⟨g, 0, none⟩) (i + (l.length - j)) cap) (w.drew.setRow g X1.toArray) := fun ty c' => by
      rw [hX1]
      refine run_room_k u_dots size_dot ty (w := w.drew) hg (size := 2) ?_ (rowD_one _) (by omega) (by omega)
      by_cases hcj : cap = j
      · have e1 : l.drop j = [] := List.drop_eq_nil_of_le (by omega)
        have e2 : l.length - j = 0 := by omega
        rw [e1, e2]; exact no_src _ _ _ _
      · rw [if_neg hcj]; exact hsrc c'
    have hr2 : ∀ ty c', (Builtin.clear_ #[49] ty #[.slice (some ⟨g, (i + (l.length - j)) * 2, none⟩) (l.length - (i + (l.length - j))) c']).run Try.prog (w.drew.setRow g X1.toArray) = .ok (.tuple #[]) ((w.drew.setRow g X1.toArray).setRow g X2.toArray) := fun ty c' => by
      rw [hX2]
      exact run_clear_k u_dots zv_dot ty hg1 (by rw [zero_dots]; congr 2; omega) (rowD_one _) (by omega) (by omega)
    have htake : X2.take ((i + (l.length - j)) * 2) = rowD (l.take i ++ l.drop j) := by
      rw [hX2, over, List.append_assoc, List.take_append_of_le_length (by rw [List.length_take]; omega), List.take_of_length_le (by rw [List.length_take]; omega), hX1, over]
      have e1 : cur.take (i * 2) = rowD (l.take i) := by
        rw [← rowD_take l i (by omega), ← ht, List.take_take]; congr 1; omega
      rw [e1, List.take_append_of_le_length (by rw [List.length_append, rowD_length, lr1, List.length_take]; omega), List.take_of_length_le (by rw [List.length_append, rowD_length, lr1, List.length_take]; omega), rowD_append]
    have HO : Hid (OwnD ((w.drew.setRow g X1.toArray).setRow g X2.toArray) (.slice (some ⟨g, 0, none⟩) (i + (l.length - j)) cap) (l.take i ++ l.drop j)) := by
      have := OwnD.make (l := l.take i ++ l.drop j) (cap := cap) hg2 (by rw [hlen]; omega) hm lx2 (by rw [hlen]; exact htake)
      rw [hlen] at this; exact this
    have HG : Hid (w.grownBy ((w.drew.setRow g X1.toArray).setRow g X2.toArray) (some g)) := (drew_grown (row_grown w.drew g _)).trans (row_grown _ g _)
    have HR1 : Hid _ := hr1
    have HR2 : Hid _ := hr2
    have hic : i ≤ cap := by omega
    have hjc : j ≤ cap := by omega
    clear hX1 hX2 lr1 lr2 lx1 lx2 hg1 hg2 hdrop hsrc hr1 hr2 htake h hg ht hs hm hlen
    generalize hN : l.length = n at *
    have HNN : Hid (l.length = n) := hN
    clear hN
    go_enter Try.func87, Try.ntmps87
    go_wp2_with fail
    go_region_law (refine step_append_eq rfl _ _ 49 49 rfl (.slice (some ⟨g, 0, none⟩) i cap) (.slice (if cap = j then some ⟨g, 0, none⟩ else some ⟨g, j * 2, none⟩) (n - j) (cap - j)) (by simp [Act.eval, Act.put]) (by simp [Act.eval, Act.put]) (HR1.out _ _) ?_)
    have hr2 := HR2.out
    go_wp2
    all_goals
      go_ret
      first
        | exact ⟨rfl, HO.out, HG.out⟩
        | (have hcj : cap = j := by assumption
           subst hcj
           exact ⟨rfl, HO.out, HG.out⟩)
end Go.Proofs.Ytoglhhoniojbaaa

namespace Go.Proofs.Ytoglhhoniojbaaa
open Go.RowKit Go.Lib
set_option linter.unusedVariables false

theorem two_src {w : World} {vb : Nat} {d1 d2 : Int} {t : TypeId} {mk : Nat × Nat} {c : Nat} (h : w.heap[vb]? = some (.cells #[.int .i64 d1, .int .i64 d2] t mk)) : SrcAt w 2 (.slice (some ⟨vb, 0, none⟩) 1 c) 1 (rowD [(d1, d2)]) :=
  ⟨some ⟨vb, 0, none⟩, c, rfl, rfl, (fun e => by cases e), fun a ha j u hj => by
    cases ha
    rw [WideShapes.add_plain]
    have hj2 : j < 2 := (List.getElem?_eq_some_iff.1 hj).1
    have : j = 0 ∨ j = 1 := by omega
    rcases this with rfl | rfl <;> simpa [World.cell?, h, rowD, encD] using hj⟩
theorem two_mem {d1 d2 : Int} : ∀ u ∈ rowD [(d1, d2)], u.oneCell' = true := rowD_one _
/-- At the end. -/
theorem insert_end (v : Value) (l : List C.Dt) (d1 d2 : Int) (vb : Nat) (w : World) (h : OwnD w v l) (hvb : w.heap[vb]? = some (.cells #[.int .i64 d1, .int .i64 d2] 31)) (hl : l.length ≤ 1000000) :
    Calls Try.prog 38 #[v, .int .i64 (l.length : Nat), .slice (some ⟨vb, 0, none⟩) 1 1] w fun e w' => ∃ v', e = .returned v' ∧ OwnD w' v' (l ++ [(d1, d2)]) ∧ w.grownBy w' v.ownBlock ∧ (v'.ownBlock = v.ownBlock ∨ v'.ownBlock = some w.heap.size) := by
  have HS : Hid _ := two_src (c := 1) hvb
  have HO : Hid (OwnD w v l) := h
  rcases h.shape with ⟨rfl, rfl⟩ | ⟨g, cap, cur, rfl, _, hn, hm, _⟩
  · clear h hvb
    go_enter Try.func38, Try.ntmps38
    go_wp2_with (at_builtin; go_must (refine wpList_append_src u_dots info_dot rfl (by decide) rfl _ _ rfl rfl HO.out rfl HS.out two_mem (by simp only [List.length_nil]; unfold maxLen; omega) (by simp only [List.length_nil]; omega) ?_); intro v2 w2 ho2 hg2 hb2)
    go_ret
    exact ⟨v2, rfl, by simpa [OwnD, rowD, encD] using ho2, hg2, hb2⟩
  · clear h hvb
    have hcap63 : cap ≤ 9223372036854775807 := Nat.le_trans hm (by decide)
    generalize hN : l.length = n at *
    have HN : Hid (l.length = n) := hN
    clear hN hm
    by_cases hcn : cap = n
    · subst hcn
      go_enter Try.func38, Try.ntmps38
      go_wp2_with (at_builtin; go_must (refine wpList_append_src u_dots info_dot rfl (by decide) rfl _ _ rfl rfl HO.out rfl HS.out two_mem (by rw [HN.out]; unfold maxLen; omega) (by rw [HN.out]; omega) ?_); intro v2 w2 ho2 hg2 hb2)
      go_ret
      exact ⟨v2, rfl, by unfold OwnD; rw [← rowD_append]; simpa using ho2, hg2, hb2⟩
    · go_enter Try.func38, Try.ntmps38
      go_wp2_with (at_builtin; go_must (refine wpList_append_src u_dots info_dot rfl (by decide) rfl _ _ rfl rfl HO.out rfl HS.out two_mem (by rw [HN.out]; unfold maxLen; omega) (by rw [HN.out]; omega) ?_); intro v2 w2 ho2 hg2 hb2)
      go_ret
      exact ⟨v2, rfl, by unfold OwnD; rw [← rowD_append]; simpa using ho2, hg2, hb2⟩
theorem overlaps_no (w : World) (vb g o la ca lb cb : Nat) (d1 d2 : Int) (cur : List Value) (hne : vb ≠ g) (hvb : w.heap[vb]? = some (.cells #[.int .i64 d1, .int .i64 d2] 31)) (hg : w.heap[g]? = some (.cells cur.toArray 31)) (hc : 0 < cur.length) :
    (callFunc 66 #[.slice (some ⟨vb, 0, none⟩) la ca, .slice (some ⟨g, o, none⟩) lb cb]).run Try.prog w = .ok (.value (.bool false)) w := by
  rw [run_callFunc_extern Try.func66 (by kernel_rfl) (by kernel_rfl) (by kernel_rfl) (e := Extern.SlicesOverlaps.overlaps #[49, 49] #[4]) (by kernel_rfl),
    Lib.run_overlaps_apart w 49 4 31 u_dots 2 Try.sizeOf31 ⟨vb, 0, none⟩ ⟨g, o, none⟩ la ca lb cb hne 31 31 2 cur.length (by simp [World.shape?, hvb]) (by simp [World.shape?, hg]) (by omega) (by simp [World.frozen?, hvb]) (by simp [World.frozen?, hvb])]
  rfl
end Go.Proofs.Ytoglhhoniojbaaa

namespace Go.Proofs.Ytoglhhoniojbaaa
open Go.RowKit Go.Lib
set_option linter.unusedVariables false

/-- A piece laid behind the first k, the rest behind it. -/
theorem ins_take {cur X1 X2 : List Value} {l : List C.Dt} {i : Nat} {d : C.Dt} {N : Nat} (hi : i ≤ l.length) (ht : cur.take (i * 2) = rowD (l.take i)) (hlen : (l.length + 1) * 2 ≤ cur.length) (h1 : X1 = over cur ((i + 1) * 2) (rowD (l.drop i))) (h2 : X2 = over X1 (i * 2) (rowD [d])) :
    X2.take ((l.length + 1) * 2) = rowD (l.take i ++ d :: l.drop i) ∧ X2.length = cur.length ∧ X1.length = cur.length := by
  have lr : (rowD (l.drop i)).length = (l.length - i) * 2 := by rw [rowD_length, List.length_drop]
  have lt : (cur.take (i * 2)).length = i * 2 := by rw [List.length_take]; omega
  have l2 : (rowD [d]).length = 2 := rfl
  have lx1 : X1.length = cur.length := by rw [h1, over_length _ _ _ (by omega)]
  have lx2 : X2.length = cur.length := by rw [h2, over_length _ _ _ (by omega), lx1]
  refine ⟨?_, lx2, lx1⟩
  have e1 : X1.take (i * 2) = cur.take (i * 2) := by
    rw [h1, over, List.append_assoc, List.take_append_of_le_length (by rw [List.length_take]; omega), List.take_take]
    congr 1; omega
  have e2 : X1.drop (i * 2 + 2) = rowD (l.drop i) ++ cur.drop ((i + 1) * 2 + (l.length - i) * 2) := by
    have l3 : (cur.take ((i + 1) * 2)).length = i * 2 + 2 := by rw [List.length_take]; omega
    rw [h1, over, List.append_assoc, List.drop_append_of_le_length (by omega), List.drop_eq_nil_of_le (by omega), lr]
    rfl
  have e3 : X2 = rowD (l.take i) ++ (rowD [d] ++ (rowD (l.drop i) ++ cur.drop ((i + 1) * 2 + (l.length - i) * 2))) := by
    rw [h2, over, l2, e1, e2, ht, List.append_assoc]
  rw [e3, ← List.append_assoc, ← List.append_assoc, rowD_append, rowD_append]
  have l4 : (rowD (l.take i ++ [d] ++ l.drop i)).length = (l.length + 1) * 2 := by
    rw [rowD_length]; simp; omega
  rw [List.take_append_of_le_length (by omega), List.take_of_length_le (by omega)]
  simp
set_option maxRecDepth 100000 in
set_option maxHeartbeats 4000000 in
theorem insert_room (g cap i : Nat) (l : List C.Dt) (d1 d2 : Int) (vb : Nat) (w : World) (h : OwnD w (.slice (some ⟨g, 0, none⟩) l.length cap) l) (hvb : w.heap[vb]? = some (.cells #[.int .i64 d1, .int .i64 d2] 31)) (hne : vb ≠ g) (hi : i < l.length) (hr : l.length < cap) (hl : l.length ≤ 1000000) :
    Calls Try.prog 38 #[.slice (some ⟨g, 0, none⟩) l.length cap, .int .i64 (i : Nat), .slice (some ⟨vb, 0, none⟩) 1 1] w fun e w' => e = .returned (.slice (some ⟨g, 0, none⟩) (l.length + 1) cap) ∧ OwnD w' (.slice (some ⟨g, 0, none⟩) (l.length + 1) cap) (l.take i ++ (d1, d2) :: l.drop i) ∧ w.grownBy w' (some g) := by
  rcases h.shape with ⟨h1, _⟩ | ⟨g', cap', cur, hv, hg, hn, hm, hs, ht⟩
  · cases h1
  cases hv
  obtain ⟨X1, hX1⟩ : ∃ X1, X1 = over cur ((i + 1) * 2) (rowD (l.drop i)) := ⟨_, rfl⟩
  obtain ⟨X2, hX2⟩ : ∃ X2, X2 = over X1 (i * 2) (rowD [(d1, d2)]) := ⟨_, rfl⟩
  have hti : cur.take (i * 2) = rowD (l.take i) := by rw [← rowD_take l i (by omega), ← ht, List.take_take]; congr 1; omega
  obtain ⟨htk, lx2, lx1⟩ := ins_take (N := 0) (by omega) hti (by omega) hX1 hX2
  have lr : (rowD (l.drop i)).length = (l.length - i) * 2 := by rw [rowD_length, List.length_drop]
  have hg1 : (w.drew.setRow g X1.toArray).heap[g]? = some (.cells X1.toArray 31) := set_over (w := w.drew) hg
  have hg2 : ((w.drew.setRow g X1.toArray).setRow g X2.toArray).heap[g]? = some (.cells X2.toArray 31) := set_over hg1
  have hv1 : (w.drew.setRow g X1.toArray).heap[vb]? = some (.cells #[.int .i64 d1, .int .i64 d2] 31) := by rw [setRow_other w.drew g vb _ (fun e => hne e)]; exact hvb
  have hdrop : cur.drop (i * 2) = rowD (l.drop i) ++ cur.drop (l.length * 2) := by
    have e : cur = rowD l ++ cur.drop (l.length * 2) := by rw [← ht, List.take_append_drop]
    conv => lhs; rw [e]
    rw [List.drop_append_of_le_length (by rw [rowD_length]; omega), rowD_drop l i (by omega)]
  have hsrc : ∀ c', SrcAt w.drew 2 (.slice (some ⟨g, i * 2, none⟩) (l.length - i) c') (l.length - i) (rowD (l.drop i)) := fun c' =>
    seg_src (w := w.drew) (cur := cur) hg _ lr fun k u hk => by
      have hkl := (List.getElem?_eq_some_iff.1 hk).1
      rw [← List.getElem?_drop, hdrop, List.getElem?_append_left hkl]; exact hk
  have hr1 : ∀ ty dc c', (Builtin.copy_ #[49, 49] ty #[.slice (some ⟨g, (i + 1) * 2, none⟩) (l.length - i) dc, .slice (some ⟨g, i * 2, none⟩) (l.length + 1 - i) c']).run Try.prog w.drew = .ok (goInt (l.length - i : Nat)) (w.drew.setRow g X1.toArray) := fun ty dc c' => by
    rw [hX1]
    exact run_copy_k u_dots size_dot ty (w := w.drew) hg (hsrc c') (rowD_one _) (by simp only [Nat.min_def]; split <;> omega) (by omega)
  have hr2 : ∀ ty dc, (Builtin.copy_ #[49, 49] ty #[.slice (some ⟨g, i * 2, none⟩) (l.length + 1 - i) dc, .slice (some ⟨vb, 0, none⟩) 1 1]).run Try.prog (w.drew.setRow g X1.toArray) = .ok (goInt (1 : Nat)) ((w.drew.setRow g X1.toArray).setRow g X2.toArray) := fun ty dc => by
    rw [hX2]
    exact run_copy_k u_dots size_dot ty hg1 (two_src hv1) two_mem (by simp only [Nat.min_def]; split <;> omega) (by have : (rowD [(d1, d2)]).length = 2 := rfl; omega)
  have hov : ∀ lb cb, _ := fun lb cb => overlaps_no w vb g ((i + 1) * 2) 1 1 lb cb d1 d2 cur hne hvb hg (by omega)
  have HO : Hid (OwnD ((w.drew.setRow g X1.toArray).setRow g X2.toArray) (.slice (some ⟨g, 0, none⟩) (l.length + 1) cap) (l.take i ++ (d1, d2) :: l.drop i)) := by
    have e : (l.take i ++ (d1, d2) :: l.drop i).length = l.length + 1 := by simp; omega
    have := OwnD.make (l := l.take i ++ (d1, d2) :: l.drop i) (cap := cap) hg2 (by rw [e]; omega) hm (by omega) (by rw [e]; exact htk)
    rw [e] at this; exact this
  have HG : Hid (w.grownBy ((w.drew.setRow g X1.toArray).setRow g X2.toArray) (some g)) := (drew_grown (row_grown w.drew g _)).trans (row_grown _ g _)
  have HR1 : Hid _ := hr1
  have HR2 : Hid _ := hr2
  have hcap63 : cap ≤ 9223372036854775807 := Nat.le_trans hm (by decide)
  clear hX1 hX2 hti htk lx1 lx2 lr hg1 hg2 hv1 hdrop hsrc hr1 hr2 h hg ht hs hm hvb
  generalize hN : l.length = n at *
  have HNN : Hid (l.length = n) := hN
  clear hN
  have hz2 : ¬ ((i : Int) = (n : Int)) := by omega
  have hw1 : IntKind.i64.wrap ((i : Int) + 1) = (i : Int) + 1 := by rw [IntKind.wrap_i64]; omega
  have hb1 : (0 : Int) ≤ (i : Int) + 1 := by omega
  have hb3 : (i : Int) ≤ (n : Int) + 1 := by omega
  have hin : i ≤ n := by omega
  have hic : i ≤ cap := by omega
  have hb2 : ¬ (cap = i + 1) := by omega
  have hb4 : ¬ (cap = i) := by omega
  go_enter Try.func38, Try.ntmps38
  go_wp2_with (simp only [hov])
  go_region_law (refine step_copy_eq rfl _ _ 49 49 rfl (.slice (some ⟨g, (i + 1) * 2, none⟩) (n - i) (cap - (i + 1))) (.slice (some ⟨g, i * 2, none⟩) (n + 1 - i) (cap - i)) (by simp [Act.eval, Act.put]) (by simp [Act.eval, Act.put]) (HR1.out _ _ _) ?_)
  have hr2 := HR2.out
  go_wp2
  go_ret
  exact ⟨rfl, HO.out, HG.out⟩
set_option maxRecDepth 100000 in
set_option maxHeartbeats 4000000 in
theorem insert_grow (g i : Nat) (l : List C.Dt) (d1 d2 : Int) (vb : Nat) (w : World) (h : OwnD w (.slice (some ⟨g, 0, none⟩) l.length l.length) l) (hvb : w.heap[vb]? = some (.cells #[.int .i64 d1, .int .i64 d2] 31)) (hi : i < l.length) (hl : l.length ≤ 1000000) :
    Calls Try.prog 38 #[.slice (some ⟨g, 0, none⟩) l.length l.length, .int .i64 (i : Nat), .slice (some ⟨vb, 0, none⟩) 1 1] w fun e w' => (∃ cap, e = .returned (.slice (some ⟨w.heap.size, 0, none⟩) (l.length + 1) cap) ∧ OwnD w' (.slice (some ⟨w.heap.size, 0, none⟩) (l.length + 1) cap) (l.take i ++ (d1, d2) :: l.drop i)) ∧ Below w.heap.size w w' := by
  rcases h.shape with ⟨h1, _⟩ | ⟨g', cap', cur, hv, hg, hn, hm, hs, ht⟩
  · cases h1
  cases hv
  obtain ⟨i0, hi0, hz0, hz1, hz2⟩ := info_parts info_dot
  obtain ⟨G, hG⟩ : ∃ G, G = grownCap w (l.length + 1) l.length 31 := ⟨_, rfl⟩
  have hGn : l.length + 1 ≤ G := by rw [hG]; exact grownCap_ge w _ _ _
  have hGm : G ≤ maxLen := by rw [hG]; exact grownCap_le_maxLen w _ _ _ (by unfold maxLen; omega)
  obtain ⟨R0, hR0⟩ : ∃ R0 : List Value, R0 = rowD (l.take i) ++ (Builtin.zeroCells (Value.agg #[.int .i64 0, .int .i64 0]).cells (l.length + 1 - i)).toList ++ (Builtin.zeroCells (Value.agg #[.int .i64 0, .int .i64 0]).cells (G - (l.length + 1))).toList := ⟨_, rfl⟩
  have hR0l : R0.length = G * 2 := by
    rw [hR0, zero_dots, zero_dots]
    simp only [List.length_append, rowD_length, List.length_replicate, List.length_take]
    omega
  have hR0t : R0.take (i * 2) = rowD (l.take i) := by
    rw [hR0, List.append_assoc, List.take_append_of_le_length (by rw [rowD_length, List.length_take]; omega), List.take_of_length_le (by rw [rowD_length, List.length_take]; omega)]
  have hold : (Builtin.firstCells i0.size i (.slice (some ⟨g, 0, none⟩) i l.length)).run Try.prog w.drew = .ok (rowD (l.take i)).toArray w.drew := by
    rw [hz1]
    refine run_load_src (P := Try.prog) (w := w.drew) (p := some ⟨g, 0, none⟩) (m := i) (c := l.length) (news := rowD (l.take i)) (seg_src (w := w.drew) (cur := cur) hg _ (by rw [rowD_length, List.length_take]; omega) fun k u hk => ?_) i _ ?_ (Nat.le_refl _)
    · have hkl := (List.getElem?_eq_some_iff.1 hk).1
      rw [rowD_length, List.length_take] at hkl
      rw [Nat.zero_add, ← hk, ← rowD_take l i (by omega), ← ht, List.take_take, List.getElem?_take, if_pos (by omega)]
    · exact (List.take_of_length_le (by rw [rowD_length, List.length_take]; omega)).symm
  obtain ⟨W1, hW1⟩ : ∃ W1, W1 = w.drew.alloc (.cells R0.toArray 31) := ⟨_, rfl⟩
  have hrz : ∀ ty, (Builtin.append_ #[49, 3] ty #[.slice (some ⟨g, 0, none⟩) i l.length, .int .i64 ((l.length : Int) + 1 - (i : Int))]).run Try.prog w = .ok (.slice (some ⟨w.heap.size, 0, none⟩) (l.length + 1) G) W1 := fun ty => by
    have hh := Lib.run_append_grow_zeros w 49 3 ty 31 i0 _ .i64 .i64 u_dots Try.underlying3 hi0 hz0 (some ⟨g, 0, none⟩) i l.length (rowD (l.take i)) hold (l.length + 1 - i) (by omega) (by omega) (by omega) (by omega) (by rw [hz2]; omega) (by
      rw [hz2, show i + (l.length + 1 - i) = l.length + 1 by omega]; exact growslice_fits (by omega) (by omega))
    rw [show i + (l.length + 1 - i) = l.length + 1 by omega, ← hG] at hh
    have e1 : (((l.length + 1 - i : Nat) : Int)) = (l.length : Int) + 1 - (i : Int) := by omega
    rw [e1] at hh
    rw [hh, hW1, hR0]
    congr 3
    simp
  have q1 : W1.heap[w.heap.size]? = some (.cells R0.toArray 31) := by rw [hW1]; exact heap_alloc_new w.drew _
  have hb1 : Below w.heap.size w W1 := by rw [hW1]; exact (Below.refl _ w).drew.alloc (by simp) _
  have hgs : g < w.heap.size := (Array.getElem?_eq_some_iff.1 hg).1
  have hvs : vb < w.heap.size := (Array.getElem?_eq_some_iff.1 hvb).1
  obtain ⟨X2, hX2⟩ : ∃ X2, X2 = over R0 (i * 2) (rowD [(d1, d2)]) := ⟨_, rfl⟩
  obtain ⟨X1, hX1⟩ : ∃ X1, X1 = over X2 ((i + 1) * 2) (rowD (l.drop i)) := ⟨_, rfl⟩
  have l2 : (rowD [(d1, d2)]).length = 2 := rfl
  have lr : (rowD (l.drop i)).length = (l.length - i) * 2 := by rw [rowD_length, List.length_drop]
  have lx2 : X2.length = G * 2 := by rw [hX2, over_length _ _ _ (by omega)]; exact hR0l
  have lx1 : X1.length = G * 2 := by rw [hX1, over_length _ _ _ (by omega)]; exact lx2
  have htk : X1.take ((l.length + 1) * 2) = rowD (l.take i ++ (d1, d2) :: l.drop i) := by
    have e1 : X2.take ((i + 1) * 2) = rowD (l.take i ++ [(d1, d2)]) := by
      have l4 : (rowD (l.take i ++ [(d1, d2)])).length = (i + 1) * 2 := by rw [rowD_length]; simp; omega
      rw [hX2, over, hR0t, rowD_append, List.take_append_of_le_length (by omega), List.take_of_length_le (by omega)]
    have e2 : (l.take i ++ (d1, d2) :: l.drop i) = (l.take i ++ [(d1, d2)]) ++ l.drop i := by simp
    have l5 : (rowD (l.take i ++ [(d1, d2)] ++ l.drop i)).length = (l.length + 1) * 2 := by rw [rowD_length]; simp; omega
    rw [hX1, over, e1, rowD_append, e2, List.take_append_of_le_length (by omega), List.take_of_length_le (by omega)]
  have hdrop : cur.drop (i * 2) = rowD (l.drop i) ++ cur.drop (l.length * 2) := by
    have e : cur = rowD l ++ cur.drop (l.length * 2) := by rw [← ht, List.take_append_drop]
    conv => lhs; rw [e]
    rw [List.drop_append_of_le_length (by rw [rowD_length]; omega), rowD_drop l i (by omega)]
  have hrA : ∀ (W : World), W.heap = W1.heap → ∀ ty dc, (Builtin.copy_ #[49, 49] ty #[.slice (some ⟨w.heap.size, i * 2, none⟩) (l.length + 1 - i) dc, .slice (some ⟨vb, 0, none⟩) 1 1]).run Try.prog W = .ok (goInt (1 : Nat)) (W.setRow w.heap.size X2.toArray) := fun W hW ty dc => by
    rw [hX2]
    exact run_copy_k u_dots size_dot ty (by rw [hW]; exact q1) (two_src (w := W) (by rw [hW, hb1.block vb hvs]; exact hvb)) two_mem (by simp only [Nat.min_def]; split <;> omega) (by omega)
  have hrB : ∀ (W : World), W.heap = (W1.setRow w.heap.size X2.toArray).heap → ∀ ty dc sc, (Builtin.copy_ #[49, 49] ty #[.slice (some ⟨w.heap.size, (i + 1) * 2, none⟩) (l.length - i) dc, .slice (some ⟨g, i * 2, none⟩) (l.length - i) sc]).run Try.prog W = .ok (goInt (l.length - i : Nat)) (W.setRow w.heap.size X1.toArray) := fun W hW ty dc sc => by
    rw [hX1]
    have q2 : W.heap[w.heap.size]? = some (.cells X2.toArray 31) := by rw [hW]; exact set_over q1
    have q3 : W.heap[g]? = some (.cells cur.toArray 31) := by rw [hW, setRow_other W1 w.heap.size g _ (by omega), hb1.block g hgs]; exact hg
    refine run_copy_k u_dots size_dot ty q2 (seg_src (cur := cur) q3 _ lr fun k u hk => ?_) (rowD_one _) (by simp only [Nat.min_def]; split <;> omega) (by omega)
    have hkl := (List.getElem?_eq_some_iff.1 hk).1
    rw [← List.getElem?_drop, hdrop, List.getElem?_append_left hkl]; exact hk
  have HF : Hid (∀ W : World, W.heap = ((W1.setRow w.heap.size X2.toArray).setRow w.heap.size X1.toArray).heap → OwnD W (.slice (some ⟨w.heap.size, 0, none⟩) (l.length + 1) G) (l.take i ++ (d1, d2) :: l.drop i)) := fun W hW => by
    have e : (l.take i ++ (d1, d2) :: l.drop i).length = l.length + 1 := by simp; omega
    have q2 : W.heap[w.heap.size]? = some (.cells X1.toArray 31) := by rw [hW]; exact set_over (set_over q1)
    have := OwnD.make (l := l.take i ++ (d1, d2) :: l.drop i) (cap := G) q2 (by rw [e]; exact hGn) hGm lx1 (by rw [e]; exact htk)
    rw [e] at this; exact this
  have HBW : Hid (Below w.heap.size w ((W1.setRow w.heap.size X2.toArray).setRow w.heap.size X1.toArray)) := by
    refine ⟨hb1.os, hb1.tape, hb1.output, ?_, fun k hk => ?_⟩
    · have := hb1.size; simpa [World.setRow] using this
    · rw [setRow_other _ w.heap.size k _ (by omega), setRow_other _ w.heap.size k _ (by omega)]; exact hb1.block k hk
  have HZ : Hid _ := hrz
  have HA : Hid _ := hrA
  have HB : Hid _ := hrB
  have hG63 : G ≤ 9223372036854775807 := Nat.le_trans hGm (by decide)
  clear hG hGm hR0 hR0l hR0t hold hW1 hrz q1 hb1 hgs hvs hX1 hX2 l2 lr lx1 lx2 htk hdrop hrA hrB h hg ht hs hm hn hvb hi0 hz0 hz1 hz2
  generalize hN : l.length = n at *
  have HNN : Hid (l.length = n) := hN
  clear hN
  have hz2 : ¬ ((i : Int) = (n : Int)) := by omega
  have hw1 : IntKind.i64.wrap ((i : Int) + 1) = (i : Int) + 1 := by rw [IntKind.wrap_i64]; omega
  have hc1 : (0 : Int) ≤ (i : Int) + 1 := by omega
  have hc3 : (i : Int) ≤ (n : Int) + 1 := by omega
  have hin : i ≤ n := by omega
  have hGi : ¬ (G = i + 1) := by omega
  have hGj : ¬ (G = i) := by omega
  have hni : ¬ (n = i) := by omega
  go_enter Try.func38, Try.ntmps38
  have hrA := HA.out W1 rfl
  go_wp2_with (at_builtin; go_must (refine Lib.wpList_append_run _ rfl _ _ _ _ rfl _ _ rfl rfl _ _ (HZ.out _) ?_))
  go_region_law (refine step_copy_eq rfl _ _ 49 49 rfl (.slice (some ⟨w.heap.size, (i + 1) * 2, none⟩) (n - i) (G - (i + 1))) (.slice (some ⟨g, i * 2, none⟩) (n - i) (n - i)) (by simp [Act.eval, Act.put]) (by simp [Act.eval, Act.put]) (HB.out (W1.setRow w.heap.size X2.toArray).drew rfl _ _ _) ?_)
  go_wp2
  go_ret
  exact ⟨⟨G, rfl, HF.out _ rfl⟩, bel_alike HBW.out rfl rfl rfl rfl⟩
theorem bel_grow {w w' : World} (h : Below w.heap.size w w') (o : Option Nat) : w.grownBy w' o := ⟨h.os, h.tape, h.output, h.size, fun k hk _ => h.block k hk⟩
/-- slices.Insert of one dot. -/
theorem insert_any (v : Value) (l : List C.Dt) (i : Nat) (d1 d2 : Int) (vb : Nat) (w : World) (h : OwnD w v l) (hvb : w.heap[vb]? = some (.cells #[.int .i64 d1, .int .i64 d2] 31)) (hne : v.ownBlock ≠ some vb) (hi : i ≤ l.length) (hl : l.length ≤ 1000000) :
    Calls Try.prog 38 #[v, .int .i64 (i : Nat), .slice (some ⟨vb, 0, none⟩) 1 1] w fun e w' => ∃ v', e = .returned v' ∧ OwnD w' v' (l.take i ++ (d1, d2) :: l.drop i) ∧ w.grownBy w' v.ownBlock ∧ (v'.ownBlock = v.ownBlock ∨ v'.ownBlock = some w.heap.size) := by
  rcases Nat.lt_or_ge i l.length with hlt | hge
  · rcases h.shape with ⟨_, rfl⟩ | ⟨g, cap, cur, rfl, _, hn, _⟩
    · simp at hlt
    · by_cases hr : l.length < cap
      · refine (insert_room g cap i l d1 d2 vb w h hvb (fun e => hne (by subst e; rfl)) hlt hr hl).mono ?_
        rintro e w' ⟨rfl, h1, h2⟩
        exact ⟨_, rfl, h1, h2, Or.inl rfl⟩
      · obtain rfl : cap = l.length := by omega
        refine (insert_grow g i l d1 d2 vb w h hvb hlt hl).mono ?_
        rintro e w' ⟨⟨c, rfl, h1⟩, h2⟩
        exact ⟨_, rfl, h1, bel_grow h2 _, Or.inr rfl⟩
  · obtain rfl : i = l.length := by omega
    rw [List.take_of_length_le (Nat.le_refl _), List.drop_eq_nil_of_le (Nat.le_refl _)]
    exact insert_end v l d1 d2 vb w h hvb hl
end Go.Proofs.Ytoglhhoniojbaaa

namespace Go.Proofs.Ytoglhhoniojbaaa
open Go.RowKit Go.Lib
set_option linter.unusedVariables false

theorem delete_nil (w : World) : Calls Try.prog 87 #[.slice none 0 0, .int .i64 0, .int .i64 0] w fun e w' => e = .returned (.slice none 0 0) ∧ w' = w := by
  go_enter Try.func87, Try.ntmps87
  go_wp2
  go_ret
  exact ⟨rfl, rfl⟩
theorem deleteV (v : Value) (i j : Nat) (l : List C.Dt) (w : World) (h : OwnD w v l) (hij : i ≤ j) (hj : j ≤ l.length) (hl : l.length ≤ 1000000) :
    Calls Try.prog 87 #[v, .int .i64 (i : Nat), .int .i64 (j : Nat)] w fun e w' => ∃ v', e = .returned v' ∧ OwnD w' v' (l.take i ++ l.drop j) ∧ w.grownBy w' v.ownBlock ∧ v'.ownBlock = v.ownBlock := by
  rcases h.shape with ⟨rfl, rfl⟩ | ⟨g, cap, cur, rfl, _⟩
  · obtain rfl : j = 0 := by simpa using hj
    obtain rfl : i = 0 := by omega
    refine (delete_nil w).mono ?_
    rintro e w' ⟨rfl, rfl⟩
    exact ⟨_, rfl, h, ⟨rfl, rfl, rfl, Nat.le_refl _, fun _ _ _ => rfl⟩, rfl⟩
  · refine (delete_any g cap i j l w h hij hj hl).mono ?_
    rintro e w' ⟨rfl, h1, h2⟩
    exact ⟨_, rfl, h1, h2, rfl⟩
theorem OwnD.slice {w : World} {v : Value} {l : List C.Dt} (h : OwnD w v l) : ∃ q n c, v = .slice q n c := by
  rcases h.shape with ⟨rfl, _⟩ | ⟨g, cap, cur, rfl, _⟩
  · exact ⟨_, _, _, rfl⟩
  · exact ⟨_, _, _, rfl⟩
namespace C
theorem close_step {c : V7} {l : List Dt} {k : Nat} {x : Dt} (hx : l[k]? = some x) (hn : nextd c x = true) : closeL c (l.drop k) = closeL (inc c x.1.toNat) (l.drop (k + 1)) := by
  obtain ⟨hk, rfl⟩ := List.getElem?_eq_some_iff.1 hx
  rw [List.drop_eq_getElem_cons hk, closeL, if_pos hn]
theorem close_stop {c : V7} {l : List Dt} {k : Nat} (h : ∀ x, l[k]? = some x → nextd c x = false) : closeL c (l.drop k) = (c, l.drop k) := by
  rcases Nat.lt_or_ge k l.length with hk | hk
  · have := h l[k] (List.getElem?_eq_getElem hk)
    rw [List.drop_eq_getElem_cons hk, closeL, if_neg (by rw [this]; simp)]
  · rw [List.drop_eq_nil_of_le hk]; rfl
end C
theorem held8 {w w' : World} {g : Nat} {c : V7} {v : Value} {t : TypeId} (h : w.heap[g]? = some (.cells (cells8 c v) t)) (hb : Below w.heap.size w w') (k : Nat) : w'.cell? ⟨g, k, none⟩ = (cells8 c v)[k]? ∧ w'.frozen? ⟨g, k, none⟩ = false := by
  have q : w'.heap[g]? = some (.cells (cells8 c v) t) := by rw [hb.block g (Array.getElem?_eq_some_iff.1 h).1]; exact h
  exact ⟨box_cells q k, by simp [World.frozen?, q]⟩
/-- What is left to tell where the gap ends. -/
theorem close_end {w wr w2 w3 : World} {g : Nat} {ck : V7} {v v' : Value} {l : List C.Dt} {p k : Nat} {R : V7 × List C.Dt} (hT : Turn w wr (fun b => b = g)) (hD : DotsAt wr g ck v l) (hw : w.heap.size ≤ wr.heap.size) (hb : Below wr.heap.size wr w2) (hk : R = (ck, l.drop k)) (h1 : OwnD w3 v' (l.take p ++ l.drop k)) (h2 : w2.grownBy w3 v.ownBlock) (h3 : v'.ownBlock = v.ownBlock) :
    (∃ v'', DotsAt (w3.setCell ⟨g, 7, none⟩ v') g R.1 v'' (l.take p ++ R.2) ∧ v''.ownBlock = v.ownBlock) ∧ Turn w (w3.setCell ⟨g, 7, none⟩ v') (foot g v) := by
  have hD2 := hD.below hb
  have hgl : g < w2.heap.size := (Array.getElem?_eq_some_iff.1 hD2.blk).1
  have q : w3.heap[g]? = some (.cells (cells8 ck v) 119) := (h2.block g hgl (fun e => hD2.apart e.symm)).trans hD2.blk
  subst hk
  refine ⟨⟨v', ⟨?_, ?_⟩, h3⟩, ?_⟩
  · rw [set_block q]; rfl
  · exact h1.same fun b hv => set_other fun e => by subst e; rw [h3] at hv; exact hD2.apart hv
  · have t1 : Turn w wr (foot g v) := hT.mono fun b hb => Or.inl hb
    have t2 : Turn wr w2 (foot g v) := Turn.of_below hb
    have t3 : Turn w2 w3 (foot g v) := Turn.of_grown h2 fun b hb => Or.inr hb
    exact ((t1.trans t2 fun x hx => Or.inl hx).trans t3 fun x hx => Or.inl hx).setCell (Or.inl rfl) _
theorem close_cell {w2 w3 : World} {g : Nat} {ck : V7} {v : Value} {l : List C.Dt} (hD2 : DotsAt w2 g ck v l) (h2 : w2.grownBy w3 v.ownBlock) : w3.cell? ⟨g, 7, none⟩ = some v ∧ w3.frozen? ⟨g, 7, none⟩ = false := by
  have hgl : g < w2.heap.size := (Array.getElem?_eq_some_iff.1 hD2.blk).1
  have q : w3.heap[g]? = some (.cells (cells8 ck v) 119) := (h2.block g hgl (fun e => hD2.apart e.symm)).trans hD2.blk
  exact held8 q (Below.refl _ _) 7
set_option maxRecDepth 100000 in
set_option maxHeartbeats 8000000 in
theorem close_any (w : World) (g : Nat) (c : V7) (v : Value) (l : List C.Dt) (p : Nat) (h : DotsAt w g c v l) (hp : p ≤ l.length) (hl : l.length ≤ 1000000) (hg : C.good c = true) (hm : ∀ d ∈ l, C.may d = true) :
    Calls Try.prog 78 #[.pointer (some ⟨g, 0, none⟩), .int .i64 (p : Nat)] w fun e w' => e = .returned (.tuple #[]) ∧ (∃ v', DotsAt w' g (C.closeL c (l.drop p)).1 v' (l.take p ++ (C.closeL c (l.drop p)).2) ∧ v'.ownBlock = v.ownBlock) ∧ Turn w w' (foot g v) := by
  obtain ⟨n, hn⟩ : ∃ n, n = l.length := ⟨_, rfl⟩
  have HN : Hid (n = l.length) := hn
  have hv : ∃ q cap, v = .slice q n cap := by
    rcases h.row.shape with ⟨rfl, rfl⟩ | ⟨b, cap, cur, rfl, _⟩
    · exact ⟨none, 0, by rw [hn]; rfl⟩
    · exact ⟨_, cap, by rw [hn]⟩
  have HD : Hid (DotsAt w g c v l) := h
  have HM : Hid (∀ d ∈ l, C.may d = true) := hm
  have HG : Hid (C.good c = true) := hg
  rw [← hn] at hp hl
  obtain ⟨R, hR⟩ : ∃ R, R = C.closeL c (l.drop p) := ⟨_, rfl⟩
  have HR : Hid (R = C.closeL c (l.drop p)) := hR
  rw [← hR]
  clear h hm hg hn hR
  have HV : Hid (∃ q cap, v = .slice q n cap) := hv
  clear hv
  go_enter Try.func78, Try.ntmps78
  go_wp2_with fail
  go_loopw [4] (fun s4 wr => ∃ (k : Nat) (ck : V7), s4 = .int .i64 k ∧ p ≤ k ∧ k ≤ n ∧ Hid (R = C.closeL ck (l.drop k)) ∧ Hid (C.good ck = true) ∧ Hid (DotsAt wr g ck v l) ∧ Hid (Turn w wr (fun b => b = g))) (fun s4 _ => n - (intOf s4).toNat)
  case atStart => exact ⟨p, c, rfl, Nat.le_refl _, hp, HR.out, HG.out, HD.out, Turn.refl _ _⟩
  case round =>
    obtain ⟨k, ck, rfl, hpk, hkn, HK, HC, HDk, HT⟩ := hrel
    have hne : Nonempty (NewW wr) := ⟨NewW.start wr⟩
    obtain ⟨y0, y1, y2, y3, y4, y5, y6, y7⟩ := cells8_all HDk.out.blk
    by_cases hlt : k < n
    · obtain ⟨x, hx⟩ : ∃ x, l[k]? = some x := ⟨_, List.getElem?_eq_getElem (by have := HN.out; omega)⟩
      have hmx := (C.may_iff x).1 (HM.out x (List.mem_of_getElem? hx))
      obtain ⟨gb, cap, hvs⟩ := HDk.out.row.at (by have := HN.out; omega)
      rw [← HN.out] at hvs
      subst hvs
      have hc : ∀ m : NewW wr, m.v.cell? ⟨gb, k * 2, none⟩ = some (.int .i64 x.1) ∧ m.v.cell? ⟨gb, k * 2 + 1, none⟩ = some (.int .i64 x.2) := fun m => (HDk.out.row.below m.h).cell _ _ hx
      have hc0 : ∀ m : NewW wr, m.v.cell? ⟨gb, k * 2, none⟩ = some (.int .i64 x.1) := fun m => (hc m).1
      have hc1 : ∀ m : NewW wr, m.v.cell? ⟨gb, k * 2 + 1, none⟩ = some (.int .i64 x.2) := fun m => (hc m).2
      clear hc
      have HX : Hid (l[k]? = some x) := hx
      clear hx
      have hga := C.good_at7 HC.out x.1.toNat
      obtain ⟨b, hb⟩ : ∃ b, C.nextd ck x = b := ⟨_, rfl⟩
      have HBn : Hid (C.nextd ck x = b) := hb
      have HI : Hid (∀ W, Calls Try.prog 77 #[ck.v, .agg #[.int .i64 x.1, .int .i64 x.2]] W fun e w' => e = .returned (.bool b) ∧ Below W.heap.size W w') := fun W => isnext_any ck x.1 x.2 b W hmx.1 hmx.2.1 (by omega) hb
      clear hb
      have hg1 : decide ((k : Int) < (n : Int)) = true := by simp; omega
      simp only [V7.v] at HI
      go_wp2_with fail
      refine wp_region_new (by kernel_rfl) (by kernel_rfl) ?_
      repeat (go_big_quiet_step ((first | (exact new_of (HI.out _)))))
      refine wpQuiet_nil ?_
      rintro _ ⟨w2, rfl⟩
      cases b with
      | true =>
        have hr7 : x.1.toNat < 7 := by omega
        have hrx : x.1 = (x.1.toNat : Nat) := by omega
        have HX2 : Hid (R = C.closeL (C.inc ck x.1.toNat) (l.drop (k + 1))) := by show R = _; rw [HK.out]; exact C.close_step HX.out HBn.out
        have HC2 : Hid (C.good (C.inc ck x.1.toNat) = true) := C.good_inc HC.out hr7 (by have := (C.nextd_iff _ _).1 HBn.out; omega)
        obtain ⟨x1, x2⟩ := x
        simp only at hr7 hrx HX2 HC2 hga hc0 hc1 hmx
        generalize x1.toNat = r at *
        subst hrx
        obtain ⟨y, hy⟩ : ∃ y, C.at7 ck r = y := ⟨_, rfl⟩
        rw [hy] at hga
        have hD2 := HDk.out.below w2.h
        have HD2 : Hid _ := hD2
        have c7 : w2.v.cell? ⟨g, 7, none⟩ = some (.slice (some ⟨gb, 0, none⟩) n cap) := (held8 hD2.blk (Below.refl _ _) 7).1
        have cr : w2.v.cell? ⟨g, r, none⟩ = some (.int .i64 y) := by rw [(held8 hD2.blk (Below.refl _ _) r).1, get_cells8 _ _ hr7, hy]
        have fr : w2.v.frozen? ⟨g, r, none⟩ = false := (held8 hD2.blk (Below.refl _ _) r).2
        have cx := hc0 w2
        have hr7' : (r : Int) < 7 := by omega
        clear hD2 y0 y1 y2 y3 y4 y5 y6 y7 hc0 hc1 hne HI
        have HY : Hid (C.at7 ck r = y) := hy
        clear hy
        go_wp2_with fail
        go_region
        all_goals
          go_wp2
          go_roundw
          case rel =>
            refine ⟨k + 1, C.inc ck r, by go_num, by omega, by omega, HX2.out, HC2.out, ?_, ?_⟩
            · refine ⟨?_, ?_⟩
              · rw [← HY.out, ← set_cells8 _ _ hr7]; exact set_block HD2.out.blk
              · exact HD2.out.row.same fun b hv => set_other fun e => by subst e; exact HD2.out.apart hv
            · exact ((HT.out.trans (Turn.of_below w2.h) fun x hx => Or.inl hx).drew).setCell rfl _
          case measure => simp [intOf]; omega
      | false =>
        have HE : Hid (R = (ck, l.drop k)) := by
          show R = _
          rw [HK.out, C.close_stop]
          intro z hz
          rw [HX.out] at hz; cases hz; exact HBn.out
        have HD2 : Hid _ := HDk.out.below w2.h
        clear y0 y1 y2 y3 y4 y5 y6 hc0 hc1 hne HI
        have z7 := y7 w2
        clear y7
        go_wp2_with fail
        refine (deleteV _ p k l _ HD2.out.row hpk (by have := HN.out; omega) (by rw [← HN.out]; exact hl)).mono ?_
        rintro e w3 ⟨v', rfl, h1, h2, h3⟩
        obtain ⟨qq, nn, cc, rfl⟩ := h1.slice
        obtain ⟨q7, f7⟩ := close_cell HD2.out h2
        have HF : Hid _ := close_end (p := p) HT.out HDk.out HT.out.size w2.h HE.out h1 h2 h3
        clear h1 h2 h3
        go_wp2
        go_end0
        exact ⟨rfl, HF.out.1, HF.out.2⟩
    · obtain rfl : k = n := by omega
      have HE : Hid (R = (ck, l.drop k)) := by
        show R = _
        rw [HK.out, C.close_stop]
        intro z hz
        rw [List.getElem?_eq_none (by rw [← HN.out]; exact Nat.le_refl _)] at hz; cases hz
      have hg1 : decide ((k : Int) < (k : Int)) = false := by simp
      obtain ⟨qv, cap, hvs⟩ := HV.out
      subst hvs
      go_wp2_with fail
      refine wp_region_new (by kernel_rfl) (by kernel_rfl) ?_
      repeat (go_big_quiet_step (fail))
      refine wpQuiet_nil ?_
      rintro _ ⟨w2, rfl⟩
      have HD2 : Hid _ := HDk.out.below w2.h
      clear y0 y1 y2 y3 y4 y5 y6 hne
      have z7 := y7 w2
      clear y7
      go_wp2_with fail
      refine (deleteV _ p k l _ HD2.out.row hpk (by have := HN.out; omega) (by rw [← HN.out]; exact hl)).mono ?_
      rintro e w3 ⟨v', rfl, h1, h2, h3⟩
      obtain ⟨qq, nn, cc, rfl⟩ := h1.slice
      obtain ⟨q7, f7⟩ := close_cell HD2.out h2
      have HF : Hid _ := close_end (p := p) HT.out HDk.out HT.out.size w2.h HE.out h1 h2 h3
      clear h1 h2 h3
      go_wp2
      go_end0
      exact ⟨rfl, HF.out.1, HF.out.2⟩
end Go.Proofs.Ytoglhhoniojbaaa

namespace Go.Proofs.Ytoglhhoniojbaaa
open Go.RowKit Go.Lib
set_option linter.unusedVariables false

def errM (d : C.Dt) : Int := if C.may d then 0 else 1
def AddRet (w : World) (g : Nat) (v : Value) (s' : C.Ds) (w' : World) : Prop :=
  (∃ v', DotsAt w' g s'.c v' s'.l ∧ (v'.ownBlock = v.ownBlock ∨ ∀ b, v'.ownBlock = some b → w.heap.size ≤ b)) ∧ Turn w w' (foot g v)
theorem AddRet.same {w w' : World} {g : Nat} {v : Value} {s : C.Ds} (h : DotsAt w g s.c v s.l) (hb : Below w.heap.size w w') : AddRet w g v s w' := ⟨⟨v, h.below hb, Or.inl rfl⟩, Turn.of_below hb⟩
theorem add_fin {w wX w5 : World} {g : Nat} {c : V7} {v v' : Value} {l l' : List C.Dt} (hb : Below w.heap.size w wX) (hX : DotsAt wX g c v l) (h1 : OwnD w5 v' l') (h2 : wX.grownBy w5 v.ownBlock) (h3 : v'.ownBlock = v.ownBlock ∨ v'.ownBlock = some wX.heap.size) : AddRet w g v ⟨c, l'⟩ (w5.setCell ⟨g, 7, none⟩ v') := by
  have hgl : g < wX.heap.size := (Array.getElem?_eq_some_iff.1 hX.blk).1
  have q : w5.heap[g]? = some (.cells (cells8 c v) 119) := (h2.block g hgl (fun e => hX.apart e.symm)).trans hX.blk
  have hng : ∀ b, v'.ownBlock = some b → b ≠ g := fun b hv e => by
    subst e
    rcases h3 with h3 | h3
    · rw [h3] at hv; exact hX.apart hv
    · rw [h3] at hv; cases hv; omega
  refine ⟨⟨v', ⟨?_, h1.same fun b hv => set_other (hng b hv)⟩, ?_⟩, ?_⟩
  · rw [set_block q]; rfl
  · rcases h3 with h3 | h3
    · exact Or.inl h3
    · exact Or.inr fun b hv => by rw [h3] at hv; cases hv; exact hb.size
  · exact ((Turn.of_below hb).trans (Turn.of_grown (S := foot g v) h2 fun b hb => Or.inr hb) fun x hx => Or.inl hx).setCell (Or.inl rfl) _
set_option maxRecDepth 100000 in
set_option maxHeartbeats 4000000 in
theorem add_bad (w : World) (g : Nat) (d1 d2 : Int) (hm : C.may (d1, d2) = false) :
    Calls Try.prog 62 #[.pointer (some ⟨g, 0, none⟩), .agg #[.int .i64 d1, .int .i64 d2]] w fun e w' => e = .returned (.tuple #[.bool false, .int .i64 1]) ∧ Below w.heap.size w w' := by
  have h : ¬ (0 ≤ d1 ∧ d1 < 7 ∧ 1 ≤ d2 ∧ d2 ≤ 1099511627776) := fun k => by rw [(C.may_iff (d1, d2)).2 k] at hm; cases hm
  clear hm
  by_cases h1 : d1 < 0
  · clear h
    go_enter Try.func62, Try.ntmps62
    go_wp2
    go_ret2
    exact ⟨rfl, below_new _ _⟩
  by_cases h2 : 7 ≤ d1
  · clear h
    go_enter Try.func62, Try.ntmps62
    go_wp2
    go_ret2
    exact ⟨rfl, below_new _ _⟩
  by_cases h3 : d2 < 1
  · clear h
    go_enter Try.func62, Try.ntmps62
    go_wp2
    go_ret2
    exact ⟨rfl, below_new _ _⟩
  · have h4 : 1099511627776 < d2 := by omega
    clear h
    go_enter Try.func62, Try.ntmps62
    go_wp2
    go_ret2
    exact ⟨rfl, below_new _ _⟩
set_option maxRecDepth 100000 in
set_option maxHeartbeats 8000000 in
theorem add_may (w : World) (g : Nat) (s : C.Ds) (v : Value) (d1 d2 : Int) (h : DotsAt w g s.c v s.l) (hs : s.Ok) (hl : s.l.length < 1000) (hm : C.may (d1, d2) = true) :
    Calls Try.prog 62 #[.pointer (some ⟨g, 0, none⟩), .agg #[.int .i64 d1, .int .i64 d2]] w fun e w' => e = .returned (.tuple #[.bool (!C.mem s (d1, d2)), .int .i64 0]) ∧ AddRet w g v (C.addS s (d1, d2)) w' := by
  obtain ⟨hm1, hm2, hm3, hm4⟩ := (C.may_iff _).1 hm
  simp only at hm1 hm2 hm3 hm4
  have HM : Hid (C.may (d1, d2) = true) := hm
  have HS : Hid s.Ok := hs
  have HD : Hid (DotsAt w g s.c v s.l) := h
  have HL : Hid (s.l.length < 1000) := hl
  obtain ⟨isIn, hi⟩ : ∃ isIn, s.l.contains (d1, d2) = isIn := ⟨_, rfl⟩
  obtain ⟨hh, hhh⟩ : ∃ hh, C.has s.c d1 d2 = hh := ⟨_, rfl⟩
  obtain ⟨nx, hnx⟩ : ∃ nx, C.nextd s.c (d1, d2) = nx := ⟨_, rfl⟩
  obtain ⟨pl, hpl⟩ : ∃ pl, C.place (d1, d2) s.l = pl := ⟨_, rfl⟩
  have HMEM : Hid (C.mem s (d1, d2) = (hh || isIn)) := by show C.mem s (d1, d2) = _; rw [← hi, ← hhh]; rfl
  have HNX : Hid (C.nextd s.c (d1, d2) = nx) := hnx
  have HPL : Hid (C.place (d1, d2) s.l = pl) := hpl
  have HPN : Hid (pl ≤ s.l.length) := by show pl ≤ _; rw [← hpl]; exact C.place_le _ _
  have hga := C.good_at7 hs.good d1.toNat
  have HF : Hid (∀ W, Below w.heap.size w W → Calls Try.prog 76 #[.pointer (some ⟨g, 0, none⟩), .agg #[.int .i64 d1, .int .i64 d2]] W fun e w' => e = .returned (.tuple #[.int .i64 (pl : Nat), .bool isIn]) ∧ Below W.heap.size W w') := fun W hW => find_any W g s.c v s.l d1 d2 _ _ (h.below hW) hs.up (by omega) hpl hi
  have HH : Hid (∀ W, Calls Try.prog 28 #[s.c.v, .agg #[.int .i64 d1, .int .i64 d2]] W fun e w' => e = .returned (.bool hh) ∧ Below W.heap.size W w') := fun W => has_at hhh W
  have HI : Hid (∀ W, Calls Try.prog 77 #[s.c.v, .agg #[.int .i64 d1, .int .i64 d2]] W fun e w' => e = .returned (.bool nx) ∧ Below W.heap.size W w') := fun W => isnext_any s.c d1 d2 nx W hm1 hm2 (by omega) hnx
  clear h hs hi hhh hnx hpl hm hl
  simp only [V7.v] at HH HI
  go_enter Try.func62, Try.ntmps62
  go_wp2_with fail
  refine (HF.out _ (below_new _ _)).mono ?_
  rintro e w1 ⟨rfl, hb⟩
  have q2 : w1.heap[w.heap.size]? = some (.cells #[.int .i64 d1, .int .i64 d2] 31) := by rw [hb.block _ (by simp)]; exact heap_alloc_new _ _
  have HB : Hid (Below w.heap.size w w1) := bt (below_new _ _) hb
  have HQ : Hid (w1.heap[w.heap.size]? = some (.cells #[.int .i64 d1, .int .i64 d2] 31)) := q2
  clear hb HF
  obtain ⟨z0, z1⟩ := box2_all q2
  obtain ⟨y0, y1, y2, y3, y4, y5, y6, y7⟩ := cells8_all (HD.out.below HB.out).blk
  clear q2
  have hne : Nonempty (NewW w1) := ⟨NewW.start w1⟩
  cases isIn with
  | true =>
    go_wp2_with fail
    refine wp_region_new (by kernel_rfl) (by kernel_rfl) ?_
    repeat (go_big_quiet_step ((first | (exact new_of (HH.out _)))))
    refine wpQuiet_nil ?_
    rintro _ ⟨w2, rfl⟩
    go_wp2
    go_ret2
    have hmem : C.mem s (d1, d2) = true := by rw [HMEM.out, Bool.or_true]
    refine ⟨by rw [hmem]; rfl, ?_⟩
    rw [C.add_there HS.out HM.out hmem]
    exact AddRet.same HD.out (bt HB.out w2.h)
  | false =>
    go_wp2_with fail
    refine wp_region_new (by kernel_rfl) (by kernel_rfl) ?_
    repeat (go_big_quiet_step ((first | (exact new_of (HH.out _)))))
    refine wpQuiet_nil ?_
    rintro _ ⟨w2, rfl⟩
    cases hh with
    | true =>
      go_wp2
      go_ret2
      have hmem : C.mem s (d1, d2) = true := by rw [HMEM.out, Bool.true_or]
      refine ⟨by rw [hmem]; rfl, ?_⟩
      rw [C.add_there HS.out HM.out hmem]
      exact AddRet.same HD.out (bt HB.out w2.h)
    | false =>
      have HMF : Hid (C.mem s (d1, d2) = false) := by show _ = _; rw [HMEM.out]; rfl
      go_wp2_with fail
      refine wp_region_more (by kernel_rfl) (by kernel_rfl) ?_
      repeat (go_big_quiet_step ((first | (exact new_of (HI.out _)))))
      refine wpQuiet_nil ?_
      rintro _ ⟨w3, rfl⟩
      have HD3 : Hid (DotsAt w3.v g s.c v s.l) := HD.out.below (bt HB.out w3.h)
      have HB3 : Hid (Below w.heap.size w w3.v) := bt HB.out w3.h
      have x0 := z0 w3
      have x1 := z1 w3
      have x7 := y7 w3
      clear y0 y1 y2 y3 y4 y5 y6 y7 z0 z1 HH HI
      cases nx with
      | true =>
        have hr7 : d1.toNat < 7 := by omega
        have hrx : d1 = (d1.toNat : Nat) := by omega
        have HADD := C.add_next HS.out HM.out HMF.out HNX.out
        simp only at HADD
        rw [HPL.out] at HADD
        have HA : Hid _ := HADD
        have HC2 : Hid (C.good (C.inc s.c d1.toNat) = true) := C.good_inc HS.out.good hr7 (by have := (C.nextd_iff _ _).1 HNX.out; simp only at this; omega)
        clear HADD
        generalize d1.toNat = r at *
        subst hrx
        obtain ⟨y, hy⟩ : ∃ y, C.at7 s.c r = y := ⟨_, rfl⟩
        rw [hy] at hga
        have cr : w3.v.cell? ⟨g, r, none⟩ = some (.int .i64 y) := by rw [(held8 HD3.out.blk (Below.refl _ _) r).1, get_cells8 _ _ hr7, hy]
        have fr : w3.v.frozen? ⟨g, r, none⟩ = false := (held8 HD3.out.blk (Below.refl _ _) r).2
        have hr7' : (r : Int) < 7 := by omega
        have HY : Hid (C.at7 s.c r = y) := hy
        clear hy hne
        go_wp2_with fail
        go_region
        have HD4 : Hid (DotsAt (w3.v.drew.setCell ⟨g, r, none⟩ (.int .i64 (y + 1))) g (C.inc s.c r) v s.l) := by
          refine ⟨?_, ?_⟩
          · rw [← HY.out, ← set_cells8 _ _ hr7]; exact set_block (w := w3.v.drew) HD3.out.blk
          · exact HD3.out.row.same fun b hv => set_other (w := w3.v.drew) fun e => by subst e; exact HD3.out.apart hv
        have HT4 : Hid (Turn w (w3.v.drew.setCell ⟨g, r, none⟩ (.int .i64 (y + 1))) (foot g v)) := ((Turn.of_below HB3.out).drew).setCell (Or.inl rfl) _
        go_wp2_with fail
        refine (close_any _ g (C.inc s.c r) v s.l pl HD4.out HPN.out (by have := HL.out; omega) HC2.out (fun x hx => C.far_may HS.out.good (HS.out.far x hx))).mono ?_
        rintro e w5 ⟨rfl, ⟨v', h1, h2⟩, h3⟩
        have HR : Hid (AddRet w g v (C.addS s ((r : Int), d2)) w5) := by
          show AddRet w g v _ w5
          rw [HA.out]
          exact ⟨⟨v', h1, Or.inl h2⟩, HT4.out.trans h3 fun x hx => Or.inl hx⟩
        clear h1 h2 h3
        go_wp2
        go_ret2
        exact ⟨by rw [HMF.out]; rfl, HR.out⟩
      | false =>
        have HADD := C.add_loose HS.out HM.out HMF.out HNX.out
        rw [HPL.out] at HADD
        have HA : Hid _ := HADD
        clear HADD
        obtain ⟨qv, nv, cv, hvs⟩ := HD3.out.row.slice
        have hnv : nv = s.l.length := by
          rcases HD3.out.row.shape with ⟨k1, k2⟩ | ⟨gb, cap, cur, k1, _⟩
          · rw [hvs] at k1; cases k1; rw [k2]; rfl
          · rw [hvs] at k1; cases k1; rfl
        subst hvs
        have hnl : ¬ ((nv : Int) = 1000) := by have := HL.out; omega
        have HX3 : Hid (DotsAt (w3.v.drew.alloc (.cells #[.int .i64 d1, .int .i64 d2] 31)) g s.c (.slice qv nv cv) s.l) := HD3.out.below (bel_alike (below_new w3.v _) rfl rfl rfl rfl)
        have HBX : Hid (Below w.heap.size w (w3.v.drew.alloc (.cells #[.int .i64 d1, .int .i64 d2] 31))) := bt HB3.out (bel_alike (below_new w3.v _) rfl rfl rfl rfl)
        have HNB : Hid ((Value.slice qv nv cv).ownBlock ≠ some w3.v.heap.size) := fun e => by have := row_lt HD3.out.row e; omega
        have x7a : (w3.v.alloc (.cells #[.int .i64 d1, .int .i64 d2] 31)).cell? ⟨g, 7, none⟩ = some (.slice qv nv cv) := (held8 HX3.out.blk (Below.refl _ _) 7).1
        clear hnv hne
        go_wp2_with fail
        go_region_with ((go_at_call 38; refine (insert_any (.slice qv nv cv) s.l pl d1 d2 w3.v.heap.size (w3.v.drew.alloc (.cells #[.int .i64 d1, .int .i64 d2] 31)) HX3.out.row (heap_alloc_new w3.v.drew _) HNB.out HPN.out (by have := HL.out; omega)).mono ?_; rintro e w5 ⟨v', rfl, h1, h2, h3⟩; obtain ⟨qq, nn, cc, rfl⟩ := h1.slice; obtain ⟨q7, f7⟩ := close_cell HX3.out h2; have H1 : Hid _ := h1; have H2 : Hid _ := h2; have H3 : Hid _ := h3; clear h1 h2 h3))
        all_goals
          go_wp2
          go_ret2
          refine ⟨by rw [HMF.out]; rfl, ?_⟩
          rw [HA.out]
          exact add_fin HBX.out HX3.out H1.out H2.out H3.out
theorem add_any (w : World) (g : Nat) (s : C.Ds) (v : Value) (d1 d2 : Int) (h : DotsAt w g s.c v s.l) (hs : s.Ok) (hl : s.l.length < 1000) :
    Calls Try.prog 62 #[.pointer (some ⟨g, 0, none⟩), .agg #[.int .i64 d1, .int .i64 d2]] w fun e w' => e = .returned (.tuple #[.bool (C.may (d1, d2) && !C.mem s (d1, d2)), .int .i64 (errM (d1, d2))]) ∧ AddRet w g v (C.addM s (d1, d2)) w' := by
  unfold errM C.addM
  cases hm : C.may (d1, d2) with
  | true => simpa using add_may w g s v d1 d2 h hs hl hm
  | false =>
    refine (add_bad w g d1 d2 hm).mono ?_
    rintro e w' ⟨rfl, hb⟩
    exact ⟨by simp, by simpa using AddRet.same h hb⟩
end Go.Proofs.Ytoglhhoniojbaaa

namespace Go.Proofs.Ytoglhhoniojbaaa
open Go.RowKit Go.Lib
set_option linter.unusedVariables false

/-- An object: its block, its loose ones' slice, what it holds. -/
structure DObj where
  g : Nat
  v : Value
  s : C.Ds
structure Objs (w0 w : World) (L : List DObj) : Prop where
  at_ : ∀ o ∈ L, DotsAt w o.g o.s.c o.v o.s.l ∧ o.s.Ok ∧ ∀ b, foot o.g o.v b → w0.heap.size ≤ b
  apart : L.Pairwise fun o p => ∀ b, foot o.g o.v b → ¬ foot p.g p.v b
  bel : Below w0.heap.size w0 w
theorem Objs.nil {w0 w : World} (h : Below w0.heap.size w0 w) : Objs w0 w [] := ⟨fun o h => (by cases h), List.Pairwise.nil, h⟩
theorem Objs.below {w0 w w' : World} {L : List DObj} (h : Objs w0 w L) (hb : Below w.heap.size w w') : Objs w0 w' L :=
  ⟨fun o ho => ⟨(h.at_ o ho).1.below hb, (h.at_ o ho).2⟩, h.apart, bt h.bel hb⟩
theorem Objs.get {w0 w : World} {L1 L2 : List DObj} {o : DObj} (h : Objs w0 w (L1 ++ o :: L2)) : DotsAt w o.g o.s.c o.v o.s.l ∧ o.s.Ok := ⟨(h.at_ o (by simp)).1, (h.at_ o (by simp)).2.1⟩
theorem Objs.step {w0 w w' : World} {L1 L2 : List DObj} {g : Nat} {v : Value} {s s' : C.Ds} (h : Objs w0 w (L1 ++ ⟨g, v, s⟩ :: L2)) (hs : s'.Ok) (hr : AddRet w g v s' w') : ∃ v', Objs w0 w' (L1 ++ ⟨g, v', s'⟩ :: L2) := by
  obtain ⟨⟨v', h1, h2⟩, ht⟩ := hr
  have hx := h.at_ ⟨g, v, s⟩ (by simp)
  obtain ⟨p1, p2, p3⟩ := List.pairwise_append.1 h.apart
  obtain ⟨p4, p5⟩ := List.pairwise_cons.1 p2
  have hge : ∀ b, foot g v' b → foot g v b ∨ w.heap.size ≤ b := fun b hb => by
    rcases hb with rfl | hb
    · exact Or.inl (Or.inl rfl)
    · rcases h2 with h2 | h2
      · exact Or.inl (Or.inr (h2 ▸ hb))
      · exact Or.inr (h2 b hb)
  have hwb := h.bel.size
  have old : ∀ o ∈ L1 ++ L2, DotsAt w o.g o.s.c o.v o.s.l ∧ o.s.Ok ∧ (∀ b, foot o.g o.v b → w0.heap.size ≤ b) ∧ ∀ b, foot o.g o.v b → ¬ foot g v b := fun o ho => by
    rcases List.mem_append.1 ho with ho | ho
    · have := h.at_ o (by simp [ho])
      exact ⟨this.1, this.2.1, this.2.2, fun b hb => p3 o ho ⟨g, v, s⟩ (by simp) b hb⟩
    · have := h.at_ o (by simp [ho])
      exact ⟨this.1, this.2.1, this.2.2, fun b hb hb' => p4 o ho b hb' hb⟩
  have new : ∀ o ∈ L1 ++ L2, ∀ b, foot o.g o.v b → ¬ foot g v' b := fun o ho b hb hb' => by
    obtain ⟨a1, _, _, a4⟩ := old o ho
    rcases hge b hb' with k | k
    · exact a4 b hb k
    · have := a1.lt hb; omega
  refine ⟨v', fun o ho => ?_, ?_, ?_⟩
  · have : o = ⟨g, v', s'⟩ ∨ o ∈ L1 ++ L2 := by
      simp only [List.mem_append, List.mem_cons] at ho ⊢
      rcases ho with ho | ho | ho
      · exact Or.inr (Or.inl ho)
      · exact Or.inl ho
      · exact Or.inr (Or.inr ho)
    rcases this with rfl | ho'
    · refine ⟨h1, hs, fun b hb => ?_⟩
      rcases hge b hb with k | k
      · exact hx.2.2 b k
      · omega
    · obtain ⟨a1, a2, a3, a4⟩ := old o ho'
      exact ⟨a1.same fun b hb => ht.block b (a1.lt hb) (a4 b hb), a2, a3⟩
  · refine List.pairwise_append.2 ⟨p1, List.pairwise_cons.2 ⟨fun o ho b hb hb' => new o (by simp [ho]) b hb' hb, p5⟩, fun o ho p hp b hb hb' => ?_⟩
    rcases List.mem_cons.1 hp with rfl | hp
    · exact new o (by simp [ho]) b hb hb'
    · exact p3 o ho p (by simp [hp]) b hb hb'
  · exact h.bel.trans (ht.below hwb hx.2.2)
theorem Objs.more {w0 w w' : World} {L : List DObj} {o : DObj} (h : Objs w0 w L) (hb : Below w.heap.size w w') (ho : DotsAt w' o.g o.s.c o.v o.s.l) (hok : o.s.Ok) (hf : ∀ b, foot o.g o.v b → w.heap.size ≤ b) : Objs w0 w' (L ++ [o]) := by
  have h' := h.below hb
  have hsz := h.bel.size
  refine ⟨fun p hp => ?_, List.pairwise_append.2 ⟨h.apart, List.pairwise_singleton _ _, fun p hp q hq b hbp hbq => ?_⟩, h'.bel⟩
  · rcases List.mem_append.1 hp with hp | hp
    · exact h'.at_ p hp
    · obtain rfl : p = o := by simpa using hp
      exact ⟨ho, hok, fun b hb => by have := hf b hb; omega⟩
  · obtain rfl : q = o := by simpa using hq
    have := hf b hbq
    have := (h.at_ p hp).1.lt hbp
    omega
theorem o_new {w0 w : World} {L : List DObj} (h : Objs w0 w L) : Calls Try.prog 61 #[] w fun e w' => ∃ g, e = .returned (.pointer (some ⟨g, 0, none⟩)) ∧ Objs w0 w' (L ++ [⟨g, .slice none 0 0, C.zeroS⟩]) ∧ Below w.heap.size w w' :=
  (new_any w).mono fun e w' ⟨⟨g, he, hg, hd⟩, hb⟩ => ⟨g, he, h.more (o := ⟨g, .slice none 0 0, C.zeroS⟩) hb hd C.zero_ok (by
    intro b hf
    rcases hf with rfl | hf
    · exact hg
    · cases hf), hb⟩
theorem o_add (L1 L2 : List DObj) {w0 w : World} (g : Nat) (v : Value) (s s' : C.Ds) (d1 d2 : Int) (b : Bool) (er : Int) (h : Objs w0 w (L1 ++ ⟨g, v, s⟩ :: L2)) (hl : s.l.length < 1000) (hb : (C.may (d1, d2) && !C.mem s (d1, d2)) = b) (he : errM (d1, d2) = er) (hs : C.addM s (d1, d2) = s') :
    Calls Try.prog 62 #[.pointer (some ⟨g, 0, none⟩), .agg #[.int .i64 d1, .int .i64 d2]] w fun e w' => e = .returned (.tuple #[.bool b, .int .i64 er]) ∧ (∃ v', Objs w0 w' (L1 ++ ⟨g, v', s'⟩ :: L2)) ∧ Turn w w' (foot g v) := by
  subst hb he hs
  obtain ⟨h1, h2⟩ := h.get
  refine (add_any w g s v d1 d2 h1 h2 hl).mono ?_
  rintro e w' ⟨rfl, hr⟩
  exact ⟨rfl, h.step (C.addM_ok h2 _) hr, hr.2⟩
theorem OwnD.len {w : World} {v : Value} {l : List C.Dt} (h : OwnD w v l) : ∃ q c, v = .slice q l.length c := by
  rcases h.shape with ⟨rfl, rfl⟩ | ⟨g, cap, cur, rfl, _⟩
  · exact ⟨_, _, rfl⟩
  · exact ⟨_, _, rfl⟩
end Go.Proofs.Ytoglhhoniojbaaa
