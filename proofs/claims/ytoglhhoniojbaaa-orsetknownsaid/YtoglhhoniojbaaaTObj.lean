/-
  dots.Dots as it lies; isNext, find, Has, Vec.
-/
import Derived.Test.YtoglhhoniojbaaaTSearch
import Derived.Test.YtoglhhoniojbaaaWBox
namespace Go.Proofs.Ytoglhhoniojbaaa
open Go.RowKit Go.Lib
set_option linter.unusedVariables false

def cells8 (c : V7) (v : Value) : Array Value := #[.int .i64 c.x0, .int .i64 c.x1, .int .i64 c.x2, .int .i64 c.x3, .int .i64 c.x4, .int .i64 c.x5, .int .i64 c.x6, v]
theorem get_cells8 (c : V7) (v : Value) {k : Nat} (h : k < 7) : (cells8 c v)[k]? = some (.int .i64 (C.at7 c k)) := by
  rcases C.seven h with rfl | rfl | rfl | rfl | rfl | rfl | rfl <;> rfl
theorem set_cells8 (c : V7) (v : Value) {k : Nat} (h : k < 7) : (cells8 c v).setIfInBounds k (.int .i64 (C.at7 c k + 1)) = cells8 (C.inc c k) v := by
  rcases C.seven h with rfl | rfl | rfl | rfl | rfl | rfl | rfl <;> rfl
theorem set_loose8 (c : V7) (v v' : Value) : (cells8 c v).setIfInBounds 7 v' = cells8 c v' := rfl
/-- The dots at block g: the clock c, the row l as the slice v. -/
structure DotsAt (w : World) (g : Nat) (c : V7) (v : Value) (l : List C.Dt) : Prop where
  blk : w.heap[g]? = some (.cells (cells8 c v) 119)
  row : OwnD w v l
def foot (g : Nat) (v : Value) : Nat → Prop := fun b => b = g ∨ v.ownBlock = some b
theorem DotsAt.lt {w : World} {g : Nat} {c : V7} {v : Value} {l : List C.Dt} (h : DotsAt w g c v l) {b : Nat} (hb : foot g v b) : b < w.heap.size := by
  rcases hb with rfl | hb
  · exact (Array.getElem?_eq_some_iff.1 h.blk).1
  · exact row_lt h.row hb
theorem DotsAt.apart {w : World} {g : Nat} {c : V7} {v : Value} {l : List C.Dt} (h : DotsAt w g c v l) : v.ownBlock ≠ some g := fun e => by
  obtain ⟨cur, hc⟩ := row_type h.row e
  have := h.blk
  rw [hc] at this
  simp at this
theorem DotsAt.same {w w' : World} {g : Nat} {c : V7} {v : Value} {l : List C.Dt} (h : DotsAt w g c v l) (hs : ∀ b, foot g v b → w'.heap[b]? = w.heap[b]?) : DotsAt w' g c v l :=
  ⟨(hs g (Or.inl rfl)).trans h.blk, h.row.same fun b hb => hs b (Or.inr hb)⟩
theorem DotsAt.below {w w' : World} {g : Nat} {c : V7} {v : Value} {l : List C.Dt} (h : DotsAt w g c v l) (hb : Below w.heap.size w w') : DotsAt w' g c v l := h.same fun b hf => hb.block b (h.lt hf)
theorem cells8_at {w : World} {g : Nat} {c : V7} {v : Value} {t : TypeId} {m : Nat × Nat} (h : w.heap[g]? = some (.cells (cells8 c v) t m)) :
    w.cell? ⟨g, 0, none⟩ = some (.int .i64 c.x0) ∧ w.cell? ⟨g, 1, none⟩ = some (.int .i64 c.x1) ∧ w.cell? ⟨g, 2, none⟩ = some (.int .i64 c.x2) ∧ w.cell? ⟨g, 3, none⟩ = some (.int .i64 c.x3) ∧ w.cell? ⟨g, 4, none⟩ = some (.int .i64 c.x4) ∧ w.cell? ⟨g, 5, none⟩ = some (.int .i64 c.x5) ∧ w.cell? ⟨g, 6, none⟩ = some (.int .i64 c.x6) ∧ w.cell? ⟨g, 7, none⟩ = some v := by
  simp [World.cell?, h, cells8]
/-- In whatever world of new memory. -/
theorem cells8_all {w : World} {g : Nat} {c : V7} {v : Value} {t : TypeId} {mk : Nat × Nat} (h : w.heap[g]? = some (.cells (cells8 c v) t mk)) :
    (∀ m : NewW w, m.v.cell? ⟨g, 0, none⟩ = some (.int .i64 c.x0)) ∧ (∀ m : NewW w, m.v.cell? ⟨g, 1, none⟩ = some (.int .i64 c.x1)) ∧ (∀ m : NewW w, m.v.cell? ⟨g, 2, none⟩ = some (.int .i64 c.x2)) ∧ (∀ m : NewW w, m.v.cell? ⟨g, 3, none⟩ = some (.int .i64 c.x3)) ∧ (∀ m : NewW w, m.v.cell? ⟨g, 4, none⟩ = some (.int .i64 c.x4)) ∧ (∀ m : NewW w, m.v.cell? ⟨g, 5, none⟩ = some (.int .i64 c.x5)) ∧ (∀ m : NewW w, m.v.cell? ⟨g, 6, none⟩ = some (.int .i64 c.x6)) ∧ (∀ m : NewW w, m.v.cell? ⟨g, 7, none⟩ = some v) := by
  have key : ∀ m : NewW w, m.v.heap[g]? = some (.cells (cells8 c v) t mk) := fun m => by rw [m.h.block g (Array.getElem?_eq_some_iff.1 h).1]; exact h
  exact ⟨fun m => (cells8_at (key m)).1, fun m => (cells8_at (key m)).2.1, fun m => (cells8_at (key m)).2.2.1, fun m => (cells8_at (key m)).2.2.2.1, fun m => (cells8_at (key m)).2.2.2.2.1, fun m => (cells8_at (key m)).2.2.2.2.2.1, fun m => (cells8_at (key m)).2.2.2.2.2.2.1, fun m => (cells8_at (key m)).2.2.2.2.2.2.2⟩
theorem box_cells {w : World} {b : Nat} {X : Array Value} {t : TypeId} {m : Nat × Nat} (h : w.heap[b]? = some (.cells X t m)) (k : Nat) : w.cell? ⟨b, k, none⟩ = X[k]? := by simp [World.cell?, h]
set_option maxRecDepth 100000 in
set_option maxHeartbeats 2000000 in
theorem isnext_any (c : V7) (d1 d2 : Int) (x : Bool) (w : World) (h0 : 0 ≤ d1) (h7 : d1 < 7) (hb : -1000000000000000 ≤ C.at7 c d1.toNat ∧ C.at7 c d1.toNat ≤ 1000000000000000) (hx : C.nextd c (d1, d2) = x) :
    Calls Try.prog 77 #[c.v, .agg #[.int .i64 d1, .int .i64 d2]] w fun e w' => e = .returned (.bool x) ∧ Below w.heap.size w w' := by
  have hx' : x = (d2 == C.at7 c d1.toNat + 1) := by rw [← hx]; unfold C.nextd; rw [Bool.eq_iff_iff]; simp
  have HX : Hid _ := hx'
  clear hx hx'
  have hk : d1.toNat < 7 := by omega
  have hd : d1 = (d1.toNat : Nat) := by omega
  generalize d1.toNat = k at *
  subst hd
  obtain ⟨y, hy⟩ : ∃ y, C.at7 c k = y := ⟨_, rfl⟩
  rw [hy] at HX hb
  have GY : ∀ (W : World) (b : Nat) (t : TypeId) (m : Nat × Nat), W.heap[b]? = some (.cells #[.int .i64 c.x0, .int .i64 c.x1, .int .i64 c.x2, .int .i64 c.x3, .int .i64 c.x4, .int .i64 c.x5, .int .i64 c.x6] t m) → W.cell? ⟨b, k, none⟩ = some (.int .i64 y) := fun W b t m hh => by
    rw [box_cells hh, ← hy]
    rcases C.seven hk with rfl | rfl | rfl | rfl | rfl | rfl | rfl <;> rfl
  have GYH : Hid _ := GY
  clear GY hy
  obtain ⟨x0, x1, x2, x3, x4, x5, x6⟩ := c
  simp only [V7.v]
  simp only at GYH
  go_enter Try.func77, Try.ntmps77
  go_wp2_with fail
  obtain ⟨W, hW⟩ : ∃ W, W = (w.alloc (.cells #[.int .i64 x0, .int .i64 x1, .int .i64 x2, .int .i64 x3, .int .i64 x4, .int .i64 x5, .int .i64 x6] 28)).alloc (.cells #[.int .i64 (k : Nat), .int .i64 d2] 31) := ⟨_, rfl⟩
  have HB : Hid (Below w.heap.size w W) := by show Below _ _ _; rw [hW]; exact bt (below_new _ _) (below_new _ _)
  obtain ⟨q1, q2⟩ := two_boxes w _ _ (w1 := W) (by rw [hW]; exact Below.refl _ _)
  have hy := GYH.out _ _ _ _ q1
  have z0 := box_cells q2 0
  have z1 := box_cells q2 1
  simp only [List.getElem?_toArray, List.getElem?_cons_succ, List.getElem?_cons_zero] at z0 z1
  rw [← hW]
  clear hW q1 q2 GYH
  have hne : Nonempty (NewW W) := ⟨NewW.start W⟩
  have Y : ∀ m : NewW W, m.v.cell? ⟨w.heap.size, k, none⟩ = some (.int .i64 y) := fun m => by
    rw [m.h.cell (p := ⟨w.heap.size, k, none⟩) (World.block_lt_of_cell? _ _ hy)]; exact hy
  have Z0 : ∀ m : NewW W, m.v.cell? ⟨w.heap.size + 1, 0, none⟩ = some (.int .i64 (k : Nat)) := fun m => by
    rw [m.h.cell (p := ⟨w.heap.size + 1, 0, none⟩) (World.block_lt_of_cell? _ _ z0)]; exact z0
  have Z1 : ∀ m : NewW W, m.v.cell? ⟨w.heap.size + 1, 1, none⟩ = some (.int .i64 d2) := fun m => by
    rw [m.h.cell (p := ⟨w.heap.size + 1, 1, none⟩) (World.block_lt_of_cell? _ _ z1)]; exact z1
  clear hy z0 z1
  have hk' : (k : Int) < 7 := by omega
  refine wp_region_new (by kernel_rfl) (by kernel_rfl) ?_
  repeat (go_big_quiet_step (fail))
  refine wpQuiet_nil ?_
  rintro _ ⟨w2, rfl⟩
  go_wp2
  go_ret
  exact ⟨by rw [HX.out]; rfl, bt HB.out w2.h⟩
theorem search_any (v : Value) (l : List C.Dt) (d1 d2 : Int) (pl : Nat) (isIn : Bool) (w : World) (h : OwnD w v l) (hu : C.Up l) (hl : l.length ≤ 1000000) (hp : C.place (d1, d2) l = pl) (hi : l.contains (d1, d2) = isIn) :
    Calls Try.prog 36 #[v, .agg #[.int .i64 d1, .int .i64 d2], .func (.func 86) #[] #[]] w fun e w' => e = .returned (.tuple #[.int .i64 (pl : Nat), .bool isIn]) ∧ Below w.heap.size w w' := by
  subst hp hi
  rcases h.shape with ⟨rfl, rfl⟩ | ⟨g, cap, cur, rfl, _⟩
  · exact search_nil (d1, d2) w
  · exact search_some g cap l (d1, d2) w h hu hl
set_option maxRecDepth 100000 in
set_option maxHeartbeats 2000000 in
theorem find_any (w : World) (g : Nat) (c : V7) (v : Value) (l : List C.Dt) (d1 d2 : Int) (pl : Nat) (isIn : Bool) (h : DotsAt w g c v l) (hu : C.Up l) (hl : l.length ≤ 1000000) (hp : C.place (d1, d2) l = pl) (hi : l.contains (d1, d2) = isIn) :
    Calls Try.prog 76 #[.pointer (some ⟨g, 0, none⟩), .agg #[.int .i64 d1, .int .i64 d2]] w fun e w' => e = .returned (.tuple #[.int .i64 (pl : Nat), .bool isIn]) ∧ Below w.heap.size w w' := by
  have HS : Hid (∀ W, Below w.heap.size w W → Calls Try.prog 36 #[v, .agg #[.int .i64 d1, .int .i64 d2], .func (.func 86) #[] #[]] W fun e w' => e = .returned (.tuple #[.int .i64 (pl : Nat), .bool isIn]) ∧ Below W.heap.size W w') := fun W hW => search_any v l d1 d2 pl isIn W (h.row.below hW) hu hl hp hi
  have HD : Hid (DotsAt w g c v l) := h
  clear h hu hl hp hi
  go_enter Try.func76, Try.ntmps76
  go_wp2_with fail
  obtain ⟨W, hW⟩ : ∃ W, W = w.alloc (.cells #[.int .i64 d1, .int .i64 d2] 31) := ⟨_, rfl⟩
  have HB : Hid (Below w.heap.size w W) := by show Below _ _ _; rw [hW]; exact below_new _ _
  have q2 : W.heap[w.heap.size]? = some (.cells #[.int .i64 d1, .int .i64 d2] 31) := by rw [hW]; exact heap_alloc_new _ _
  obtain ⟨z0, z1⟩ := box2_all q2
  obtain ⟨_, _, _, _, _, _, _, y7⟩ := cells8_all (HD.out.below HB.out).blk
  rw [← hW]
  clear hW q2
  have hne : Nonempty (NewW W) := ⟨NewW.start W⟩
  refine wp_region_new (by kernel_rfl) (by kernel_rfl) ?_
  repeat (go_big_quiet_step ((first | (exact new_of (HS.out _ (bt HB.out (NewW.h _)))))))
  refine wpQuiet_nil ?_
  rintro _ ⟨w2, rfl⟩
  go_wp2
  go_ret2
  exact ⟨rfl, bt HB.out w2.h⟩
end Go.Proofs.Ytoglhhoniojbaaa
