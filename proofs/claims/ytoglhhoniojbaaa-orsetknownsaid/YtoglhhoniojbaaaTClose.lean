/-
  dots.Dots.closeGap.
-/
import Derived.Test.YtoglhhoniojbaaaTIns2
import Derived.Deep.RegionHeldLaw
namespace Go.Proofs.Ytoglhhoniojbaaa
open Go.RowKit Go.Lib
set_option linter.unusedVariables false

theorem delete_nil (w : World) : Calls Try.prog 87 #[.slice none 0 0, .int .i64 0, .int .i64 0] w fun e w' => e = .returned (.slice none 0 0) ∧ w' = w := by
  go_enter Try.func87, Try.ntmps87
  go_wp2
  go_ret
  exact ⟨rfl, rfl⟩
theorem deleteV (v : Value) (i j : Nat) (l : List C.Dt) (w : World) (h : OwnD w v l) (hij : i ≤ j) (hj : j ≤ l.length) (hl : l.length ≤ 1000000) :
    Calls Try.prog 87 #[v, .int .i64 (i : Nat), .int .i64 (j : Nat)] w fun e w' => ∃ v', e = .returned v' ∧ OwnD w' v' (l.take i ++ l.drop j) ∧ w.grownBy w' v.ownBlock ∧ v'.ownBlock = v.ownBlock := by
  rcases h.shape with ⟨rfl, rfl⟩ | ⟨g, cap, cur, rfl, _⟩
  · obtain rfl : j = 0 := by simpa using hj
    obtain rfl : i = 0 := by omega
    refine (delete_nil w).mono ?_
    rintro e w' ⟨rfl, rfl⟩
    exact ⟨_, rfl, h, ⟨rfl, rfl, rfl, Nat.le_refl _, fun _ _ _ => rfl⟩, rfl⟩
  · refine (delete_any g cap i j l w h hij hj hl).mono ?_
    rintro e w' ⟨rfl, h1, h2⟩
    exact ⟨_, rfl, h1, h2, rfl⟩
theorem OwnD.slice {w : World} {v : Value} {l : List C.Dt} (h : OwnD w v l) : ∃ q n c, v = .slice q n c := by
  rcases h.shape with ⟨rfl, _⟩ | ⟨g, cap, cur, rfl, _⟩
  · exact ⟨_, _, _, rfl⟩
  · exact ⟨_, _, _, rfl⟩
namespace C
theorem close_step {c : V7} {l : List Dt} {k : Nat} {x : Dt} (hx : l[k]? = some x) (hn : nextd c x = true) : closeL c (l.drop k) = closeL (inc c x.1.toNat) (l.drop (k + 1)) := by
  obtain ⟨hk, rfl⟩ := List.getElem?_eq_some_iff.1 hx
  rw [List.drop_eq_getElem_cons hk, closeL, if_pos hn]
theorem close_stop {c : V7} {l : List Dt} {k : Nat} (h : ∀ x, l[k]? = some x → nextd c x = false) : closeL c (l.drop k) = (c, l.drop k) := by
  rcases Nat.lt_or_ge k l.length with hk | hk
  · have := h l[k] (List.getElem?_eq_getElem hk)
    rw [List.drop_eq_getElem_cons hk, closeL, if_neg (by rw [this]; simp)]
  · rw [List.drop_eq_nil_of_le hk]; rfl
end C
theorem held8 {w w' : World} {g : Nat} {c : V7} {v : Value} {t : TypeId} (h : w.heap[g]? = some (.cells (cells8 c v) t)) (hb : Below w.heap.size w w') (k : Nat) : w'.cell? ⟨g, k, none⟩ = (cells8 c v)[k]? ∧ w'.frozen? ⟨g, k, none⟩ = false := by
  have q : w'.heap[g]? = some (.cells (cells8 c v) t) := by rw [hb.block g (Array.getElem?_eq_some_iff.1 h).1]; exact h
  exact ⟨box_cells q k, by simp [World.frozen?, q]⟩
/-- What is left to tell where the gap ends. -/
theorem close_end {w wr w2 w3 : World} {g : Nat} {ck : V7} {v v' : Value} {l : List C.Dt} {p k : Nat} {R : V7 × List C.Dt} (hT : Turn w wr (fun b => b = g)) (hD : DotsAt wr g ck v l) (hw : w.heap.size ≤ wr.heap.size) (hb : Below wr.heap.size wr w2) (hk : R = (ck, l.drop k)) (h1 : OwnD w3 v' (l.take p ++ l.drop k)) (h2 : w2.grownBy w3 v.ownBlock) (h3 : v'.ownBlock = v.ownBlock) :
    (∃ v'', DotsAt (w3.setCell ⟨g, 7, none⟩ v') g R.1 v'' (l.take p ++ R.2) ∧ v''.ownBlock = v.ownBlock) ∧ Turn w (w3.setCell ⟨g, 7, none⟩ v') (foot g v) := by
  have hD2 := hD.below hb
  have hgl : g < w2.heap.size := (Array.getElem?_eq_some_iff.1 hD2.blk).1
  have q : w3.heap[g]? = some (.cells (cells8 ck v) 119) := (h2.block g hgl (fun e => hD2.apart e.symm)).trans hD2.blk
  subst hk
  refine ⟨⟨v', ⟨?_, ?_⟩, h3⟩, ?_⟩
  · rw [set_block q]; rfl
  · exact h1.same fun b hv => set_other fun e => by subst e; rw [h3] at hv; exact hD2.apart hv
  · have t1 : Turn w wr (foot g v) := hT.mono fun b hb => Or.inl hb
    have t2 : Turn wr w2 (foot g v) := Turn.of_below hb
    have t3 : Turn w2 w3 (foot g v) := Turn.of_grown h2 fun b hb => Or.inr hb
    exact ((t1.trans t2 fun x hx => Or.inl hx).trans t3 fun x hx => Or.inl hx).setCell (Or.inl rfl) _
theorem close_cell {w2 w3 : World} {g : Nat} {ck : V7} {v : Value} {l : List C.Dt} (hD2 : DotsAt w2 g ck v l) (h2 : w2.grownBy w3 v.ownBlock) : w3.cell? ⟨g, 7, none⟩ = some v ∧ w3.frozen? ⟨g, 7, none⟩ = false := by
  have hgl : g < w2.heap.size := (Array.getElem?_eq_some_iff.1 hD2.blk).1
  have q : w3.heap[g]? = some (.cells (cells8 ck v) 119) := (h2.block g hgl (fun e => hD2.apart e.symm)).trans hD2.blk
  exact held8 q (Below.refl _ _) 7
set_option maxRecDepth 100000 in
set_option maxHeartbeats 8000000 in
theorem close_any (w : World) (g : Nat) (c : V7) (v : Value) (l : List C.Dt) (p : Nat) (h : DotsAt w g c v l) (hp : p ≤ l.length) (hl : l.length ≤ 1000000) (hg : C.good c = true) (hm : ∀ d ∈ l, C.may d = true) :
    Calls Try.prog 78 #[.pointer (some ⟨g, 0, none⟩), .int .i64 (p : Nat)] w fun e w' => e = .returned (.tuple #[]) ∧ (∃ v', DotsAt w' g (C.closeL c (l.drop p)).1 v' (l.take p ++ (C.closeL c (l.drop p)).2) ∧ v'.ownBlock = v.ownBlock) ∧ Turn w w' (foot g v) := by
  obtain ⟨n, hn⟩ : ∃ n, n = l.length := ⟨_, rfl⟩
  have HN : Hid (n = l.length) := hn
  have hv : ∃ q cap, v = .slice q n cap := by
    rcases h.row.shape with ⟨rfl, rfl⟩ | ⟨b, cap, cur, rfl, _⟩
    · exact ⟨none, 0, by rw [hn]; rfl⟩
    · exact ⟨_, cap, by rw [hn]⟩
  have HD : Hid (DotsAt w g c v l) := h
  have HM : Hid (∀ d ∈ l, C.may d = true) := hm
  have HG : Hid (C.good c = true) := hg
  rw [← hn] at hp hl
  obtain ⟨R, hR⟩ : ∃ R, R = C.closeL c (l.drop p) := ⟨_, rfl⟩
  have HR : Hid (R = C.closeL c (l.drop p)) := hR
  rw [← hR]
  clear h hm hg hn hR
  have HV : Hid (∃ q cap, v = .slice q n cap) := hv
  clear hv
  go_enter Try.func78, Try.ntmps78
  go_wp2_with fail
  go_loopw [4] (fun s4 wr => ∃ (k : Nat) (ck : V7), s4 = .int .i64 k ∧ p ≤ k ∧ k ≤ n ∧ Hid (R = C.closeL ck (l.drop k)) ∧ Hid (C.good ck = true) ∧ Hid (DotsAt wr g ck v l) ∧ Hid (Turn w wr (fun b => b = g))) (fun s4 _ => n - (intOf s4).toNat)
  case atStart => exact ⟨p, c, rfl, Nat.le_refl _, hp, HR.out, HG.out, HD.out, Turn.refl _ _⟩
  case round =>
    obtain ⟨k, ck, rfl, hpk, hkn, HK, HC, HDk, HT⟩ := hrel
    have hne : Nonempty (NewW wr) := ⟨NewW.start wr⟩
    obtain ⟨y0, y1, y2, y3, y4, y5, y6, y7⟩ := cells8_all HDk.out.blk
    by_cases hlt : k < n
    · obtain ⟨x, hx⟩ : ∃ x, l[k]? = some x := ⟨_, List.getElem?_eq_getElem (by have := HN.out; omega)⟩
      have hmx := (C.may_iff x).1 (HM.out x (List.mem_of_getElem? hx))
      obtain ⟨gb, cap, hvs⟩ := HDk.out.row.at (by have := HN.out; omega)
      rw [← HN.out] at hvs
      subst hvs
      have hc : ∀ m : NewW wr, m.v.cell? ⟨gb, k * 2, none⟩ = some (.int .i64 x.1) ∧ m.v.cell? ⟨gb, k * 2 + 1, none⟩ = some (.int .i64 x.2) := fun m => (HDk.out.row.below m.h).cell _ _ hx
      have hc0 : ∀ m : NewW wr, m.v.cell? ⟨gb, k * 2, none⟩ = some (.int .i64 x.1) := fun m => (hc m).1
      have hc1 : ∀ m : NewW wr, m.v.cell? ⟨gb, k * 2 + 1, none⟩ = some (.int .i64 x.2) := fun m => (hc m).2
      clear hc
      have HX : Hid (l[k]? = some x) := hx
      clear hx
      have hga := C.good_at7 HC.out x.1.toNat
      obtain ⟨b, hb⟩ : ∃ b, C.nextd ck x = b := ⟨_, rfl⟩
      have HBn : Hid (C.nextd ck x = b) := hb
      have HI : Hid (∀ W, Calls Try.prog 77 #[ck.v, .agg #[.int .i64 x.1, .int .i64 x.2]] W fun e w' => e = .returned (.bool b) ∧ Below W.heap.size W w') := fun W => isnext_any ck x.1 x.2 b W hmx.1 hmx.2.1 (by omega) hb
      clear hb
      have hg1 : decide ((k : Int) < (n : Int)) = true := by simp; omega
      simp only [V7.v] at HI
      go_wp2_with fail
      refine wp_region_new (by kernel_rfl) (by kernel_rfl) ?_
      repeat (go_big_quiet_step ((first | (exact new_of (HI.out _)))))
      refine wpQuiet_nil ?_
      rintro _ ⟨w2, rfl⟩
      cases b with
      | true =>
        have hr7 : x.1.toNat < 7 := by omega
        have hrx : x.1 = (x.1.toNat : Nat) := by omega
        have HX2 : Hid (R = C.closeL (C.inc ck x.1.toNat) (l.drop (k + 1))) := by show R = _; rw [HK.out]; exact C.close_step HX.out HBn.out
        have HC2 : Hid (C.good (C.inc ck x.1.toNat) = true) := C.good_inc HC.out hr7 (by have := (C.nextd_iff _ _).1 HBn.out; omega)
        obtain ⟨x1, x2⟩ := x
        simp only at hr7 hrx HX2 HC2 hga hc0 hc1 hmx
        generalize x1.toNat = r at *
        subst hrx
        obtain ⟨y, hy⟩ : ∃ y, C.at7 ck r = y := ⟨_, rfl⟩
        rw [hy] at hga
        have hD2 := HDk.out.below w2.h
        have HD2 : Hid _ := hD2
        have c7 : w2.v.cell? ⟨g, 7, none⟩ = some (.slice (some ⟨gb, 0, none⟩) n cap) := (held8 hD2.blk (Below.refl _ _) 7).1
        have cr : w2.v.cell? ⟨g, r, none⟩ = some (.int .i64 y) := by rw [(held8 hD2.blk (Below.refl _ _) r).1, get_cells8 _ _ hr7, hy]
        have fr : w2.v.frozen? ⟨g, r, none⟩ = false := (held8 hD2.blk (Below.refl _ _) r).2
        have cx := hc0 w2
        have hr7' : (r : Int) < 7 := by omega
        clear hD2 y0 y1 y2 y3 y4 y5 y6 y7 hc0 hc1 hne HI
        have HY : Hid (C.at7 ck r = y) := hy
        clear hy
        go_wp2_with fail
        go_region
        all_goals
          go_wp2
          go_roundw
          case rel =>
            refine ⟨k + 1, C.inc ck r, by go_num, by omega, by omega, HX2.out, HC2.out, ?_, ?_⟩
            · refine ⟨?_, ?_⟩
              · rw [← HY.out, ← set_cells8 _ _ hr7]; exact set_block HD2.out.blk
              · exact HD2.out.row.same fun b hv => set_other fun e => by subst e; exact HD2.out.apart hv
            · exact ((HT.out.trans (Turn.of_below w2.h) fun x hx => Or.inl hx).drew).setCell rfl _
          case measure => simp [intOf]; omega
      | false =>
        have HE : Hid (R = (ck, l.drop k)) := by
          show R = _
          rw [HK.out, C.close_stop]
          intro z hz
          rw [HX.out] at hz; cases hz; exact HBn.out
        have HD2 : Hid _ := HDk.out.below w2.h
        clear y0 y1 y2 y3 y4 y5 y6 hc0 hc1 hne HI
        have z7 := y7 w2
        clear y7
        go_wp2_with fail
        refine (deleteV _ p k l _ HD2.out.row hpk (by have := HN.out; omega) (by rw [← HN.out]; exact hl)).mono ?_
        rintro e w3 ⟨v', rfl, h1, h2, h3⟩
        obtain ⟨qq, nn, cc, rfl⟩ := h1.slice
        obtain ⟨q7, f7⟩ := close_cell HD2.out h2
        have HF : Hid _ := close_end (p := p) HT.out HDk.out HT.out.size w2.h HE.out h1 h2 h3
        clear h1 h2 h3
        go_wp2
        go_end0
        exact ⟨rfl, HF.out.1, HF.out.2⟩
    · obtain rfl : k = n := by omega
      have HE : Hid (R = (ck, l.drop k)) := by
        show R = _
        rw [HK.out, C.close_stop]
        intro z hz
        rw [List.getElem?_eq_none (by rw [← HN.out]; exact Nat.le_refl _)] at hz; cases hz
      have hg1 : decide ((k : Int) < (k : Int)) = false := by simp
      obtain ⟨qv, cap, hvs⟩ := HV.out
      subst hvs
      go_wp2_with fail
      refine wp_region_new (by kernel_rfl) (by kernel_rfl) ?_
      repeat (go_big_quiet_step (fail))
      refine wpQuiet_nil ?_
      rintro _ ⟨w2, rfl⟩
      have HD2 : Hid _ := HDk.out.below w2.h
      clear y0 y1 y2 y3 y4 y5 y6 hne
      have z7 := y7 w2
      clear y7
      go_wp2_with fail
      refine (deleteV _ p k l _ HD2.out.row hpk (by have := HN.out; omega) (by rw [← HN.out]; exact hl)).mono ?_
      rintro e w3 ⟨v', rfl, h1, h2, h3⟩
      obtain ⟨qq, nn, cc, rfl⟩ := h1.slice
      obtain ⟨q7, f7⟩ := close_cell HD2.out h2
      have HF : Hid _ := close_end (p := p) HT.out HDk.out HT.out.size w2.h HE.out h1 h2 h3
      clear h1 h2 h3
      go_wp2
      go_end0
      exact ⟨rfl, HF.out.1, HF.out.2⟩
end Go.Proofs.Ytoglhhoniojbaaa
