/-
  dots.Dots.Add.
-/
import Derived.Test.YtoglhhoniojbaaaTClose
namespace Go.Proofs.Ytoglhhoniojbaaa
open Go.RowKit Go.Lib
set_option linter.unusedVariables false

def errM (d : C.Dt) : Int := if C.may d then 0 else 1
def AddRet (w : World) (g : Nat) (v : Value) (s' : C.Ds) (w' : World) : Prop :=
  (∃ v', DotsAt w' g s'.c v' s'.l ∧ (v'.ownBlock = v.ownBlock ∨ ∀ b, v'.ownBlock = some b → w.heap.size ≤ b)) ∧ Turn w w' (foot g v)
theorem AddRet.same {w w' : World} {g : Nat} {v : Value} {s : C.Ds} (h : DotsAt w g s.c v s.l) (hb : Below w.heap.size w w') : AddRet w g v s w' := ⟨⟨v, h.below hb, Or.inl rfl⟩, Turn.of_below hb⟩
theorem add_fin {w wX w5 : World} {g : Nat} {c : V7} {v v' : Value} {l l' : List C.Dt} (hb : Below w.heap.size w wX) (hX : DotsAt wX g c v l) (h1 : OwnD w5 v' l') (h2 : wX.grownBy w5 v.ownBlock) (h3 : v'.ownBlock = v.ownBlock ∨ v'.ownBlock = some wX.heap.size) : AddRet w g v ⟨c, l'⟩ (w5.setCell ⟨g, 7, none⟩ v') := by
  have hgl : g < wX.heap.size := (Array.getElem?_eq_some_iff.1 hX.blk).1
  have q : w5.heap[g]? = some (.cells (cells8 c v) 119) := (h2.block g hgl (fun e => hX.apart e.symm)).trans hX.blk
  have hng : ∀ b, v'.ownBlock = some b → b ≠ g := fun b hv e => by
    subst e
    rcases h3 with h3 | h3
    · rw [h3] at hv; exact hX.apart hv
    · rw [h3] at hv; cases hv; omega
  refine ⟨⟨v', ⟨?_, h1.same fun b hv => set_other (hng b hv)⟩, ?_⟩, ?_⟩
  · rw [set_block q]; rfl
  · rcases h3 with h3 | h3
    · exact Or.inl h3
    · exact Or.inr fun b hv => by rw [h3] at hv; cases hv; exact hb.size
  · exact ((Turn.of_below hb).trans (Turn.of_grown (S := foot g v) h2 fun b hb => Or.inr hb) fun x hx => Or.inl hx).setCell (Or.inl rfl) _
set_option maxRecDepth 100000 in
set_option maxHeartbeats 4000000 in
theorem add_bad (w : World) (g : Nat) (d1 d2 : Int) (hm : C.may (d1, d2) = false) :
    Calls Try.prog 62 #[.pointer (some ⟨g, 0, none⟩), .agg #[.int .i64 d1, .int .i64 d2]] w fun e w' => e = .returned (.tuple #[.bool false, .int .i64 1]) ∧ Below w.heap.size w w' := by
  have h : ¬ (0 ≤ d1 ∧ d1 < 7 ∧ 1 ≤ d2 ∧ d2 ≤ 1099511627776) := fun k => by rw [(C.may_iff (d1, d2)).2 k] at hm; cases hm
  clear hm
  by_cases h1 : d1 < 0
  · clear h
    go_enter Try.func62, Try.ntmps62
    go_wp2
    go_ret2
    exact ⟨rfl, below_new _ _⟩
  by_cases h2 : 7 ≤ d1
  · clear h
    go_enter Try.func62, Try.ntmps62
    go_wp2
    go_ret2
    exact ⟨rfl, below_new _ _⟩
  by_cases h3 : d2 < 1
  · clear h
    go_enter Try.func62, Try.ntmps62
    go_wp2
    go_ret2
    exact ⟨rfl, below_new _ _⟩
  · have h4 : 1099511627776 < d2 := by omega
    clear h
    go_enter Try.func62, Try.ntmps62
    go_wp2
    go_ret2
    exact ⟨rfl, below_new _ _⟩
set_option maxRecDepth 100000 in
set_option maxHeartbeats 8000000 in
theorem add_may (w : World) (g : Nat) (s : C.Ds) (v : Value) (d1 d2 : Int) (h : DotsAt w g s.c v s.l) (hs : s.Ok) (hl : s.l.length < 1000) (hm : C.may (d1, d2) = true) :
    Calls Try.prog 62 #[.pointer (some ⟨g, 0, none⟩), .agg #[.int .i64 d1, .int .i64 d2]] w fun e w' => e = .returned (.tuple #[.bool (!C.mem s (d1, d2)), .int .i64 0]) ∧ AddRet w g v (C.addS s (d1, d2)) w' := by
  obtain ⟨hm1, hm2, hm3, hm4⟩ := (C.may_iff _).1 hm
  simp only at hm1 hm2 hm3 hm4
  have HM : Hid (C.may (d1, d2) = true) := hm
  have HS : Hid s.Ok := hs
  have HD : Hid (DotsAt w g s.c v s.l) := h
  have HL : Hid (s.l.length < 1000) := hl
  obtain ⟨isIn, hi⟩ : ∃ isIn, s.l.contains (d1, d2) = isIn := ⟨_, rfl⟩
  obtain ⟨hh, hhh⟩ : ∃ hh, C.has s.c d1 d2 = hh := ⟨_, rfl⟩
  obtain ⟨nx, hnx⟩ : ∃ nx, C.nextd s.c (d1, d2) = nx := ⟨_, rfl⟩
  obtain ⟨pl, hpl⟩ : ∃ pl, C.place (d1, d2) s.l = pl := ⟨_, rfl⟩
  have HMEM : Hid (C.mem s (d1, d2) = (hh || isIn)) := by show C.mem s (d1, d2) = _; rw [← hi, ← hhh]; rfl
  have HNX : Hid (C.nextd s.c (d1, d2) = nx) := hnx
  have HPL : Hid (C.place (d1, d2) s.l = pl) := hpl
  have HPN : Hid (pl ≤ s.l.length) := by show pl ≤ _; rw [← hpl]; exact C.place_le _ _
  have hga := C.good_at7 hs.good d1.toNat
  have HF : Hid (∀ W, Below w.heap.size w W → Calls Try.prog 76 #[.pointer (some ⟨g, 0, none⟩), .agg #[.int .i64 d1, .int .i64 d2]] W fun e w' => e = .returned (.tuple #[.int .i64 (pl : Nat), .bool isIn]) ∧ Below W.heap.size W w') := fun W hW => find_any W g s.c v s.l d1 d2 _ _ (h.below hW) hs.up (by omega) hpl hi
  have HH : Hid (∀ W, Calls Try.prog 28 #[s.c.v, .agg #[.int .i64 d1, .int .i64 d2]] W fun e w' => e = .returned (.bool hh) ∧ Below W.heap.size W w') := fun W => has_at hhh W
  have HI : Hid (∀ W, Calls Try.prog 77 #[s.c.v, .agg #[.int .i64 d1, .int .i64 d2]] W fun e w' => e = .returned (.bool nx) ∧ Below W.heap.size W w') := fun W => isnext_any s.c d1 d2 nx W hm1 hm2 (by omega) hnx
  clear h hs hi hhh hnx hpl hm hl
  simp only [V7.v] at HH HI
  go_enter Try.func62, Try.ntmps62
  go_wp2_with fail
  refine (HF.out _ (below_new _ _)).mono ?_
  rintro e w1 ⟨rfl, hb⟩
  have q2 : w1.heap[w.heap.size]? = some (.cells #[.int .i64 d1, .int .i64 d2] 31) := by rw [hb.block _ (by simp)]; exact heap_alloc_new _ _
  have HB : Hid (Below w.heap.size w w1) := bt (below_new _ _) hb
  have HQ : Hid (w1.heap[w.heap.size]? = some (.cells #[.int .i64 d1, .int .i64 d2] 31)) := q2
  clear hb HF
  obtain ⟨z0, z1⟩ := box2_all q2
  obtain ⟨y0, y1, y2, y3, y4, y5, y6, y7⟩ := cells8_all (HD.out.below HB.out).blk
  clear q2
  have hne : Nonempty (NewW w1) := ⟨NewW.start w1⟩
  cases isIn with
  | true =>
    go_wp2_with fail
    refine wp_region_new (by kernel_rfl) (by kernel_rfl) ?_
    repeat (go_big_quiet_step ((first | (exact new_of (HH.out _)))))
    refine wpQuiet_nil ?_
    rintro _ ⟨w2, rfl⟩
    go_wp2
    go_ret2
    have hmem : C.mem s (d1, d2) = true := by rw [HMEM.out, Bool.or_true]
    refine ⟨by rw [hmem]; rfl, ?_⟩
    rw [C.add_there HS.out HM.out hmem]
    exact AddRet.same HD.out (bt HB.out w2.h)
  | false =>
    go_wp2_with fail
    refine wp_region_new (by kernel_rfl) (by kernel_rfl) ?_
    repeat (go_big_quiet_step ((first | (exact new_of (HH.out _)))))
    refine wpQuiet_nil ?_
    rintro _ ⟨w2, rfl⟩
    cases hh with
    | true =>
      go_wp2
      go_ret2
      have hmem : C.mem s (d1, d2) = true := by rw [HMEM.out, Bool.true_or]
      refine ⟨by rw [hmem]; rfl, ?_⟩
      rw [C.add_there HS.out HM.out hmem]
      exact AddRet.same HD.out (bt HB.out w2.h)
    | false =>
      have HMF : Hid (C.mem s (d1, d2) = false) := by show _ = _; rw [HMEM.out]; rfl
      go_wp2_with fail
      refine wp_region_more (by kernel_rfl) (by kernel_rfl) ?_
      repeat (go_big_quiet_step ((first | (exact new_of (HI.out _)))))
      refine wpQuiet_nil ?_
      rintro _ ⟨w3, rfl⟩
      have HD3 : Hid (DotsAt w3.v g s.c v s.l) := HD.out.below (bt HB.out w3.h)
      have HB3 : Hid (Below w.heap.size w w3.v) := bt HB.out w3.h
      have x0 := z0 w3
      have x1 := z1 w3
      have x7 := y7 w3
      clear y0 y1 y2 y3 y4 y5 y6 y7 z0 z1 HH HI
      cases nx with
      | true =>
        have hr7 : d1.toNat < 7 := by omega
        have hrx : d1 = (d1.toNat : Nat) := by omega
        have HADD := C.add_next HS.out HM.out HMF.out HNX.out
        simp only at HADD
        rw [HPL.out] at HADD
        have HA : Hid _ := HADD
        have HC2 : Hid (C.good (C.inc s.c d1.toNat) = true) := C.good_inc HS.out.good hr7 (by have := (C.nextd_iff _ _).1 HNX.out; simp only at this; omega)
        clear HADD
        generalize d1.toNat = r at *
        subst hrx
        obtain ⟨y, hy⟩ : ∃ y, C.at7 s.c r = y := ⟨_, rfl⟩
        rw [hy] at hga
        have cr : w3.v.cell? ⟨g, r, none⟩ = some (.int .i64 y) := by rw [(held8 HD3.out.blk (Below.refl _ _) r).1, get_cells8 _ _ hr7, hy]
        have fr : w3.v.frozen? ⟨g, r, none⟩ = false := (held8 HD3.out.blk (Below.refl _ _) r).2
        have hr7' : (r : Int) < 7 := by omega
        have HY : Hid (C.at7 s.c r = y) := hy
        clear hy hne
        go_wp2_with fail
        go_region
        have HD4 : Hid (DotsAt (w3.v.drew.setCell ⟨g, r, none⟩ (.int .i64 (y + 1))) g (C.inc s.c r) v s.l) := by
          refine ⟨?_, ?_⟩
          · rw [← HY.out, ← set_cells8 _ _ hr7]; exact set_block (w := w3.v.drew) HD3.out.blk
          · exact HD3.out.row.same fun b hv => set_other (w := w3.v.drew) fun e => by subst e; exact HD3.out.apart hv
        have HT4 : Hid (Turn w (w3.v.drew.setCell ⟨g, r, none⟩ (.int .i64 (y + 1))) (foot g v)) := ((Turn.of_below HB3.out).drew).setCell (Or.inl rfl) _
        go_wp2_with fail
        refine (close_any _ g (C.inc s.c r) v s.l pl HD4.out HPN.out (by have := HL.out; omega) HC2.out (fun x hx => C.far_may HS.out.good (HS.out.far x hx))).mono ?_
        rintro e w5 ⟨rfl, ⟨v', h1, h2⟩, h3⟩
        have HR : Hid (AddRet w g v (C.addS s ((r : Int), d2)) w5) := by
          show AddRet w g v _ w5
          rw [HA.out]
          exact ⟨⟨v', h1, Or.inl h2⟩, HT4.out.trans h3 fun x hx => Or.inl hx⟩
        clear h1 h2 h3
        go_wp2
        go_ret2
        exact ⟨by rw [HMF.out]; rfl, HR.out⟩
      | false =>
        have HADD := C.add_loose HS.out HM.out HMF.out HNX.out
        rw [HPL.out] at HADD
        have HA : Hid _ := HADD
        clear HADD
        obtain ⟨qv, nv, cv, hvs⟩ := HD3.out.row.slice
        have hnv : nv = s.l.length := by
          rcases HD3.out.row.shape with ⟨k1, k2⟩ | ⟨gb, cap, cur, k1, _⟩
          · rw [hvs] at k1; cases k1; rw [k2]; rfl
          · rw [hvs] at k1; cases k1; rfl
        subst hvs
        have hnl : ¬ ((nv : Int) = 1000) := by have := HL.out; omega
        have HX3 : Hid (DotsAt (w3.v.drew.alloc (.cells #[.int .i64 d1, .int .i64 d2] 31)) g s.c (.slice qv nv cv) s.l) := HD3.out.below (bel_alike (below_new w3.v _) rfl rfl rfl rfl)
        have HBX : Hid (Below w.heap.size w (w3.v.drew.alloc (.cells #[.int .i64 d1, .int .i64 d2] 31))) := bt HB3.out (bel_alike (below_new w3.v _) rfl rfl rfl rfl)
        have HNB : Hid ((Value.slice qv nv cv).ownBlock ≠ some w3.v.heap.size) := fun e => by have := row_lt HD3.out.row e; omega
        have x7a : (w3.v.alloc (.cells #[.int .i64 d1, .int .i64 d2] 31)).cell? ⟨g, 7, none⟩ = some (.slice qv nv cv) := (held8 HX3.out.blk (Below.refl _ _) 7).1
        clear hnv hne
        go_wp2_with fail
        go_region_with ((go_at_call 38; refine (insert_any (.slice qv nv cv) s.l pl d1 d2 w3.v.heap.size (w3.v.drew.alloc (.cells #[.int .i64 d1, .int .i64 d2] 31)) HX3.out.row (heap_alloc_new w3.v.drew _) HNB.out HPN.out (by have := HL.out; omega)).mono ?_; rintro e w5 ⟨v', rfl, h1, h2, h3⟩; obtain ⟨qq, nn, cc, rfl⟩ := h1.slice; obtain ⟨q7, f7⟩ := close_cell HX3.out h2; have H1 : Hid _ := h1; have H2 : Hid _ := h2; have H3 : Hid _ := h3; clear h1 h2 h3))
        all_goals
          go_wp2
          go_ret2
          refine ⟨by rw [HMF.out]; rfl, ?_⟩
          rw [HA.out]
          exact add_fin HBX.out HX3.out H1.out H2.out H3.out
theorem add_any (w : World) (g : Nat) (s : C.Ds) (v : Value) (d1 d2 : Int) (h : DotsAt w g s.c v s.l) (hs : s.Ok) (hl : s.l.length < 1000) :
    Calls Try.prog 62 #[.pointer (some ⟨g, 0, none⟩), .agg #[.int .i64 d1, .int .i64 d2]] w fun e w' => e = .returned (.tuple #[.bool (C.may (d1, d2) && !C.mem s (d1, d2)), .int .i64 (errM (d1, d2))]) ∧ AddRet w g v (C.addM s (d1, d2)) w' := by
  unfold errM C.addM
  cases hm : C.may (d1, d2) with
  | true => simpa using add_may w g s v d1 d2 h hs hl hm
  | false =>
    refine (add_bad w g d1 d2 hm).mono ?_
    rintro e w' ⟨rfl, hb⟩
    exact ⟨by simp, by simpa using AddRet.same h hb⟩
end Go.Proofs.Ytoglhhoniojbaaa
