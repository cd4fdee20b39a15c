/-
  VecLattice: merged and least as a lattice has them.
-/
import Derived.Test.YtmjkablhambelaaWNew
import Derived.Test.YtmjkablhambelaaWBox
import Derived.Deep.RegionWith
import Derived.Deep.CutRange
namespace Go.Proofs.Ytmjkablhambelaa
open Go.RowKit Go.Lib
set_option linter.unusedVariables false

namespace C
theorem max_le_l (x y : Int) : x ≤ max x y := by omega
theorem ext7 {a b : V7} (h0 : a.x0 = b.x0) (h1 : a.x1 = b.x1) (h2 : a.x2 = b.x2) (h3 : a.x3 = b.x3) (h4 : a.x4 = b.x4) (h5 : a.x5 = b.x5) (h6 : a.x6 = b.x6) : a = b := (eq_iff a b).2 ⟨h0, h1, h2, h3, h4, h5, h6⟩
theorem le_mrg (a b : V7) : le a (mrg a b) = true := (le_iff _ _).2 (by simp only [mrg]; omega)
theorem lst_le (a b : V7) : le (lst a b) b = true := (le_iff _ _).2 (by simp only [lst]; omega)
theorem mrg_comm (a b : V7) : mrg a b = mrg b a := by apply ext7 <;> simp only [mrg] <;> omega
theorem lst_comm (a b : V7) : lst a b = lst b a := by apply ext7 <;> simp only [lst] <;> omega
theorem mrg_assoc (a b c : V7) : mrg a (mrg b c) = mrg (mrg a b) c := by apply ext7 <;> simp only [mrg] <;> omega
theorem lst_assoc (a b c : V7) : lst a (lst b c) = lst (lst a b) c := by apply ext7 <;> simp only [lst] <;> omega
theorem mrg_lst (a b : V7) : mrg a (lst a b) = a := by apply ext7 <;> simp only [mrg, lst] <;> omega
theorem lst_mrg (a b : V7) : lst a (mrg a b) = a := by apply ext7 <;> simp only [mrg, lst] <;> omega
theorem mrg_eq (a b : V7) : same (mrg a b) b = le a b := by
  rw [Bool.eq_iff_iff, same_iff, le_iff, eq_iff]
  simp only [mrg]
  omega
theorem cmp_turn (a b : V7) : ((cmp a b == 1) == (cmp b a == -1)) = true := by
  have h := le_both a b
  rw [cmp_eq, cmp_eq]
  by_cases e : a = b
  · subst e; rw [same_self]; rfl
  · have e' : ¬ b = a := fun k => e k.symm
    rw [if_neg (not_same e), if_neg (not_same e')]
    have hn : ¬ (le a b && le b a) = true := fun k => e (h.1 k)
    revert hn
    cases le a b <;> cases le b a <;> simp
end C
theorem heap_of_drew (w : World) : w.drew.heap = w.heap := rfl
theorem heap_of_alloc (w : World) (o : Obj) (k : Nat) : (w.alloc o).heap[k]? = if k = w.heap.size then some o else w.heap[k]? := by
  by_cases h : k = w.heap.size
  · rw [if_pos h, h]; exact heap_alloc_new _ _
  · rw [if_neg h]
    rcases Nat.lt_or_ge k w.heap.size with h1 | h1
    · exact (below_new w o).block k h1
    · rw [Array.getElem?_eq_none h1, Array.getElem?_eq_none (by simp; omega)]
theorem size_of_alloc (w : World) (o : Obj) : (w.alloc o).heap.size = w.heap.size + 1 := by simp
theorem bA {w1 c : World} {o : Obj} (h : Below w1.heap.size w1 c) : Below w1.heap.size w1 (c.alloc o) := bt h (below_new _ _)
theorem bS {w1 c : World} {b k : Nat} {v : Value} (h : Below w1.heap.size w1 c) (hb : w1.heap.size ≤ b) : Below w1.heap.size w1 (c.setCell ⟨b, k, none⟩ v) := Below.setCell h hb v
set_option maxRecDepth 100000 in
set_option maxHeartbeats 8000000 in
theorem lattice_law (a b c : V7) (w : World) : Calls Try.prog 5 #[a.v, b.v, c.v] w fun e w' => e = .returned (.bool true) ∧ Below w.heap.size w w' := by
  obtain ⟨m, hm⟩ : ∃ m, C.mrg a b = m := ⟨_, rfl⟩
  obtain ⟨s, hs⟩ : ∃ s, C.lst a b = s := ⟨_, rfl⟩
  have KM : ∀ w, _ := fun w => merge_nat hm w
  have KS : ∀ w, _ := fun w => least_nat hs w
  obtain ⟨f, hf⟩ : ∃ f, C.mrg m c = f := ⟨_, rfl⟩
  obtain ⟨d, hd⟩ : ∃ d, C.mrg b c = d := ⟨_, rfl⟩
  obtain ⟨g, hg⟩ : ∃ g, C.lst s c = g := ⟨_, rfl⟩
  obtain ⟨h, hh⟩ : ∃ h, C.lst b c = h := ⟨_, rfl⟩
  obtain ⟨L, hL⟩ : ∃ L, C.le a b = L := ⟨_, rfl⟩
  obtain ⟨x, hx⟩ : ∃ x, C.cmp a b = x := ⟨_, rfl⟩
  obtain ⟨y, hy⟩ : ∃ y, C.cmp b a = y := ⟨_, rfl⟩
  have k1 : C.le a m = true := by subst hm; exact C.le_mrg a b
  have k2 : C.le s b = true := by subst hs; exact C.lst_le a b
  have k3 : C.mrg b a = m := by subst hm; exact C.mrg_comm b a
  have k4 : C.lst b a = s := by subst hs; exact C.lst_comm b a
  have k7 : C.mrg a d = f := by subst hd hf hm; exact C.mrg_assoc a b c
  have k10 : C.lst a h = g := by subst hh hg hs; exact C.lst_assoc a b c
  have k11 : C.mrg a s = a := by subst hs; exact C.mrg_lst a b
  have k12 : C.lst a m = a := by subst hm; exact C.lst_mrg a b
  have hML : C.same m b = L := by subst hm hL; exact C.mrg_eq a b
  have hxy : ((x == 1) == (y == -1)) = true := by subst hx hy; exact C.cmp_turn a b
  have hLL : (L == L) = true := beq_self_eq_true L
  have E1 : ∀ w, _ := fun w => eq_vec (a := m) (b := m) (x := true) (C.same_self _) w
  have E2 : ∀ w, _ := fun w => eq_vec (a := s) (b := s) (x := true) (C.same_self _) w
  have E3 : ∀ w, _ := fun w => eq_vec (a := f) (b := f) (x := true) (C.same_self _) w
  have E4 : ∀ w, _ := fun w => eq_vec (a := g) (b := g) (x := true) (C.same_self _) w
  have E5 : ∀ w, _ := fun w => eq_vec (a := a) (b := a) (x := true) (C.same_self _) w
  have E6 : ∀ w, _ := fun w => eq_vec hML w
  have F1 : ∀ w, _ := fun w => le_at k1 w
  have F2 : ∀ w, _ := fun w => le_at k2 w
  have F3 : ∀ w, _ := fun w => merge_at k3 w
  have F4 : ∀ w, _ := fun w => least_at k4 w
  have F5 : ∀ w, _ := fun w => merge_at hf w
  have F6 : ∀ w, _ := fun w => merge_at hd w
  have F7 : ∀ w, _ := fun w => merge_at k7 w
  have F8 : ∀ w, _ := fun w => least_at hg w
  have F9 : ∀ w, _ := fun w => least_at hh w
  have F10 : ∀ w, _ := fun w => least_at k10 w
  have F11 : ∀ w, _ := fun w => merge_at k11 w
  have F12 : ∀ w, _ := fun w => least_at k12 w
  have F13 : ∀ w, _ := fun w => le_at hL w
  have F14 : ∀ w, _ := fun w => cmp_at hx w
  have F15 : ∀ w, _ := fun w => cmp_at hy w
  obtain ⟨a0, a1, a2, a3, a4, a5, a6⟩ := a
  obtain ⟨b0, b1, b2, b3, b4, b5, b6⟩ := b
  obtain ⟨c0, c1, c2, c3, c4, c5, c6⟩ := c
  obtain ⟨m0, m1, m2, m3, m4, m5, m6⟩ := m
  obtain ⟨s0, s1, s2, s3, s4, s5, s6⟩ := s
  obtain ⟨f0, f1, f2, f3, f4, f5, f6⟩ := f
  obtain ⟨d0, d1, d2, d3, d4, d5, d6⟩ := d
  obtain ⟨g0, g1, g2, g3, g4, g5, g6⟩ := g
  obtain ⟨h0, h1, h2, h3, h4, h5, h6⟩ := h
  clear hm hs hf hd hg hh k1 k2 k3 k4 k7 k10 k11 k12 hL hML hx hy
  simp only [V7.v] at *
  have GKM : Hid _ := KM
  have GKS : Hid _ := KS
  clear KM KS
  have G1 : Hid _ := F1
  have G2 : Hid _ := F2
  have G3 : Hid _ := F3
  have G4 : Hid _ := F4
  have G5 : Hid _ := F5
  have G6 : Hid _ := F6
  have G7 : Hid _ := F7
  have G8 : Hid _ := F8
  have G9 : Hid _ := F9
  have G10 : Hid _ := F10
  have G11 : Hid _ := F11
  have G12 : Hid _ := F12
  have G13 : Hid _ := F13
  have G14 : Hid _ := F14
  have G15 : Hid _ := F15
  clear F1 F2 F3 F4 F5 F6 F7 F8 F9 F10 F11 F12 F13 F14 F15
  go_enter Try.func5, Try.ntmps5
  go_wp2_with fail
  refine (awake_any _).mono ?_
  rintro e w1 ⟨rfl, h1⟩
  obtain ⟨q1, q2, q3⟩ := three_boxes w _ _ _ h1
  have hB := three_below w _ _ _ h1
  have HB : Hid _ := hB
  clear h1 hB
  have HQ1 : Hid (∀ w', Below w1.heap.size w1 w' → _) := fun w' hb => box7 (keep_on hb q1)
  have HQ2 : Hid (∀ w', Below w1.heap.size w1 w' → _) := fun w' hb => box7 (keep_on hb q2)
  have HQ3 : Hid (∀ w', Below w1.heap.size w1 w' → _) := fun w' hb => box7 (keep_on hb q3)
  have HR1 : Hid (Below w1.heap.size w1 w1.drew) := (Below.refl _ _).drew
  have HA : Hid _ := q1
  have HBb : Hid _ := q2
  have HCc : Hid _ := q3
  clear q1 q2 q3
  go_wp2_with fail
  go_cut [7, 8] from 7 to 16 (fun v7 v8 wx => ∃ B7 B8, v7 = .pointer (some ⟨B7, 0, none⟩) ∧ v8 = .pointer (some ⟨B8, 0, none⟩) ∧ Below w1.heap.size w1 wx ∧ wx.heap[B7]? = some (.cells #[.int .i64 m0, .int .i64 m1, .int .i64 m2, .int .i64 m3, .int .i64 m4, .int .i64 m5, .int .i64 m6] 24) ∧ wx.heap[B8]? = some (.cells #[.int .i64 s0, .int .i64 s1, .int .i64 s2, .int .i64 s3, .int .i64 s4, .int .i64 s5, .int .i64 s6] 24))
  case first =>
    go_region_held_law (fun w' => (w'.cell? ⟨w.heap.size, 0, none⟩ = some (.int .i64 a0) ∧ w'.cell? ⟨w.heap.size, 1, none⟩ = some (.int .i64 a1) ∧ w'.cell? ⟨w.heap.size, 2, none⟩ = some (.int .i64 a2) ∧ w'.cell? ⟨w.heap.size, 3, none⟩ = some (.int .i64 a3) ∧ w'.cell? ⟨w.heap.size, 4, none⟩ = some (.int .i64 a4) ∧ w'.cell? ⟨w.heap.size, 5, none⟩ = some (.int .i64 a5) ∧ w'.cell? ⟨w.heap.size, 6, none⟩ = some (.int .i64 a6)) ∧ (w'.cell? ⟨w.heap.size + 1, 0, none⟩ = some (.int .i64 b0) ∧ w'.cell? ⟨w.heap.size + 1, 1, none⟩ = some (.int .i64 b1) ∧ w'.cell? ⟨w.heap.size + 1, 2, none⟩ = some (.int .i64 b2) ∧ w'.cell? ⟨w.heap.size + 1, 3, none⟩ = some (.int .i64 b3) ∧ w'.cell? ⟨w.heap.size + 1, 4, none⟩ = some (.int .i64 b4) ∧ w'.cell? ⟨w.heap.size + 1, 5, none⟩ = some (.int .i64 b5) ∧ w'.cell? ⟨w.heap.size + 1, 6, none⟩ = some (.int .i64 b6)))
      ((refine ⟨HQ1.out _ ?_, HQ2.out _ ?_⟩ <;> (repeat' (first | (with_reducible refine bA ?_) | (with_reducible refine Below.drew ?_) | (with_reducible exact Below.refl _ _) | (with_reducible refine bS ?_ (by simp <;> omega))))))
      (first
      | (go_at_call 25; refine (GKS.out _).mono ?_; rintro e w3 ⟨rfl, X3, Y3, Z3, rfl⟩)
      | (go_at_call 23; refine (GKM.out _).mono ?_; rintro e w2 ⟨rfl, X2, Y2, Z2, rfl⟩))
    all_goals
      go_wp2_with fail
      go_meet
    all_goals
      refine ⟨_, _, rfl, rfl, ?_, ?_, ?_⟩
      · repeat' (first | (with_reducible refine bA ?_) | (with_reducible refine Below.drew ?_) | (with_reducible exact Below.refl _ _) | (with_reducible refine bS ?_ (by simp <;> omega)))
      all_goals
        simp only [heap_of_drew, heap_of_alloc, size_of_alloc]
        repeat' split
        all_goals first | rfl | (exfalso; omega) | exact absurd trivial ‹¬True›
  case rest =>
    obtain ⟨B7, B8, rfl, rfl, hbx, q7, q8⟩ := hcut
    have hne : Nonempty (NewW wc) := ⟨NewW.start wc⟩
    obtain ⟨A0, A1, A2, A3, A4, A5, A6⟩ := box7_all (w := wc) (keep_on hbx HA.out)
    obtain ⟨B0, B1, B2, B3, B4, B5, B6⟩ := box7_all (w := wc) (keep_on hbx HBb.out)
    obtain ⟨C0, C1, C2, C3, C4, C5, C6⟩ := box7_all (w := wc) (keep_on hbx HCc.out)
    obtain ⟨M0, M1, M2, M3, M4, M5, M6⟩ := box7_all (w := wc) q7
    obtain ⟨S0, S1, S2, S3, S4, S5, S6⟩ := box7_all (w := wc) q8
    have HZ : Hid (Below w.heap.size w wc) := bt HB.out hbx
    have HXY : Hid _ := hxy
    clear hbx q7 q8 HQ1 HQ2 HQ3 HR1 HB GKM GKS HA HBb HCc hxy
    go_wp2_with fail
    dsimp only [List.append]
    refine wp_region_new (by kernel_rfl) (by kernel_rfl) ?_
    repeat (go_big_quiet_step ((first
      | (with_reducible exact new_of (G1.out _))
      | (with_reducible exact new_of (G2.out _))
      | (with_reducible exact new_of (G3.out _))
      | (with_reducible exact new_of (G4.out _))
      | (with_reducible exact new_of (G5.out _))
      | (with_reducible exact new_of (G6.out _))
      | (with_reducible exact new_of (G7.out _))
      | (with_reducible exact new_of (G8.out _))
      | (with_reducible exact new_of (G9.out _))
      | (with_reducible exact new_of (G10.out _))
      | (with_reducible exact new_of (G11.out _))
      | (with_reducible exact new_of (G12.out _))
      | (with_reducible exact new_of (G13.out _))
      | (with_reducible exact new_of (G14.out _))
      | (with_reducible exact new_of (G15.out _)))))
    refine wpQuiet_nil ?_
    rintro _ ⟨w3, rfl⟩
    have HB3 : Hid (Below w.heap.size w w3.v) := bt HZ.out w3.h
    go_wp2
    go_ret
    exact ⟨ret_bool HXY.out, HB3.out⟩
theorem lattice_all (a : V7) (ha : C.fits7 a) (b : V7) (hb : C.fits7 b) (c : V7) (hc : C.fits7 c) (w : World) : Calls Try.prog 5 #[.agg #[.int .i64 a.x0, .int .i64 a.x1, .int .i64 a.x2, .int .i64 a.x3, .int .i64 a.x4, .int .i64 a.x5, .int .i64 a.x6], .agg #[.int .i64 b.x0, .int .i64 b.x1, .int .i64 b.x2, .int .i64 b.x3, .int .i64 b.x4, .int .i64 b.x5, .int .i64 b.x6], .agg #[.int .i64 c.x0, .int .i64 c.x1, .int .i64 c.x2, .int .i64 c.x3, .int .i64 c.x4, .int .i64 c.x5, .int .i64 c.x6]] w fun e w' => e = .returned (.bool true) ∧ Below w.heap.size w w' :=
  lattice_law a b c w
end Go.Proofs.Ytmjkablhambelaa
