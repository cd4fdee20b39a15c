/-
  VecSteps: counted on step by step a clock has just the dots that were given out, and each is new.
-/
import Derived.Test.YtmjkablhambelaaWNew2
import Derived.Test.YtmjkablhambelaaWBox
import Derived.Test.YtmjkablhambelaaBVec
import Derived.Test.YtmjkablhambelaaVBack
import Derived.Deep.CutRange
namespace Go.Proofs.Ytmjkablhambelaa
open Go.RowKit Go.Lib
set_option linter.unusedVariables false

namespace C
theorem at7_inc (v : V7) {k : Nat} (hk : k < 7) : at7 (inc v k) k = at7 v k + 1 := by
  have hc : k = 0 ∨ k = 1 ∨ k = 2 ∨ k = 3 ∨ k = 4 ∨ k = 5 ∨ k = 6 := by omega
  rcases hc with rfl | rfl | rfl | rfl | rfl | rfl | rfl <;> rfl
theorem le_inc (v : V7) {k : Nat} (hk : k < 7) : le v (inc v k) = true := by
  have hc : k = 0 ∨ k = 1 ∨ k = 2 ∨ k = 3 ∨ k = 4 ∨ k = 5 ∨ k = 6 := by omega
  rw [le_iff]
  rcases hc with rfl | rfl | rfl | rfl | rfl | rfl | rfl <;> simp only [inc] <;> omega
theorem good_inc {v : V7} (h : good v = true) {k : Nat} (hk : k < 7) (hl : at7 v k ≠ 1099511627776) : good (inc v k) = true := by
  have hg := (good_iff v).1 h
  have hc : k = 0 ∨ k = 1 ∨ k = 2 ∨ k = 3 ∨ k = 4 ∨ k = 5 ∨ k = 6 := by omega
  rw [good_iff]
  rcases hc with rfl | rfl | rfl | rfl | rfl | rfl | rfl <;> simp only [inc, at7] at * <;> omega
theorem ne_inc (v : V7) {k : Nat} (hk : k < 7) : v ≠ inc v k := fun h => by
  have h1 := at7_inc v hk
  rw [← h] at h1
  omega
theorem cmp_inc (v : V7) {k : Nat} (hk : k < 7) : cmp v (inc v k) = -1 := by
  rw [cmp_eq, if_neg (not_same (ne_inc v hk)), if_pos (le_inc v hk)]
theorem has_new (v : V7) {k : Nat} (hk : k < 7) : has v (k : Int) (at7 v k + 1) = false := by
  unfold has
  rw [Int.toNat_natCast]
  have : decide (at7 v k + 1 ≤ at7 v k) = false := by simp; omega
  rw [this, Bool.and_false]
theorem has_inc {v : V7} (hg : good v = true) {k : Nat} (hk : k < 7) : has (inc v k) (k : Int) (at7 v k + 1) = true := by
  have h0 := (good_at7 hg k).1
  unfold has
  rw [Int.toNat_natCast, at7_inc v hk]
  simp only [Bool.and_eq_true, decide_eq_true_eq]
  omega
theorem le_trans' {a b c : V7} (h : le a b = true) (k : le b c = true) : le a c = true := by
  rw [le_iff] at *
  omega
theorem le_self (a : V7) : le a a = true := by rw [le_iff]; omega
end C
theorem bA {w1 c : World} {o : Obj} (h : Below w1.heap.size w1 c) : Below w1.heap.size w1 (c.alloc o) := bt h (below_new _ _)
theorem bS {w1 c : World} {b k : Nat} {v : Value} (h : Below w1.heap.size w1 c) (hb : w1.heap.size ≤ b) : Below w1.heap.size w1 (c.setCell ⟨b, k, none⟩ v) := Below.setCell h hb v
theorem heap_of_drew (w : World) : w.drew.heap = w.heap := rfl
theorem heap_of_alloc (w : World) (o : Obj) (k : Nat) : (w.alloc o).heap[k]? = if k = w.heap.size then some o else w.heap[k]? := by
  by_cases h : k = w.heap.size
  · rw [if_pos h, h]; exact heap_alloc_new _ _
  · rw [if_neg h]
    rcases Nat.lt_or_ge k w.heap.size with h1 | h1
    · exact (below_new w o).block k h1
    · rw [Array.getElem?_eq_none h1, Array.getElem?_eq_none (by simp; omega)]
theorem size_of_alloc (w : World) (o : Obj) : (w.alloc o).heap.size = w.heap.size + 1 := by simp
theorem sets7_new {w : World} {b : Nat} {o0 o1 o2 o3 o4 o5 o6 v0 v1 v2 v3 v4 v5 v6 : Value} {t : TypeId} (h : w.heap[b]? = some (.cells #[o0, o1, o2, o3, o4, o5, o6] t)) : (((((((w.setCell ⟨b, 0, none⟩ v0).setCell ⟨b, 1, none⟩ v1).setCell ⟨b, 2, none⟩ v2).setCell ⟨b, 3, none⟩ v3).setCell ⟨b, 4, none⟩ v4).setCell ⟨b, 5, none⟩ v5).setCell ⟨b, 6, none⟩ v6).heap[b]? = some (.cells #[v0, v1, v2, v3, v4, v5, v6] t) := by
  have h0 := set_block (o := 0) (v := v0) h
  have h1 := set_block (o := 1) (v := v1) h0
  have h2 := set_block (o := 2) (v := v2) h1
  have h3 := set_block (o := 3) (v := v3) h2
  have h4 := set_block (o := 4) (v := v4) h3
  have h5 := set_block (o := 5) (v := v5) h4
  have h6 := set_block (o := 6) (v := v6) h5
  simpa using h6
/-- A clock's block. -/
def VB (w : World) (b : Nat) (v : V7) : Prop := w.heap[b]? = some (.cells #[.int .i64 v.x0, .int .i64 v.x1, .int .i64 v.x2, .int .i64 v.x3, .int .i64 v.x4, .int .i64 v.x5, .int .i64 v.x6] 24)
set_option maxRecDepth 100000 in
set_option maxHeartbeats 8000000 in
theorem steps_law (a : V7) (p : Option Addr) (l : List Int) (c : Nat) (w : World) (hlc : l.length ≤ c) (hcm : c ≤ maxLen) (hp : IAt w p l) (hga : C.good a = true) (hl30 : l.length ≤ 30) : Calls Try.prog 6 #[a.v, .slice p l.length c] w fun e w' => e = .returned (.bool true) ∧ Below w.heap.size w w' := by
  have KG : Hid (∀ w, _) := fun w => good_at hga w
  have HGA : Hid _ := hga
  have HP : Hid _ := hp
  have hl9 : (l.length : Int) ≤ 30 := by omega
  clear hp hcm hga
  obtain ⟨a0, a1, a2, a3, a4, a5, a6⟩ := a
  simp only [V7.v] at *
  go_enter Try.func6, Try.ntmps6
  go_wp2_with fail
  refine (awake_any _).mono ?_
  rintro e w1 ⟨rfl, h1⟩
  have q1 := kept_block h1
  have HB1 : Hid (Below w.heap.size w w1) := bt (below_new _ _) h1
  obtain ⟨A0, A1, A2, A3, A4, A5, A6⟩ := box7 q1
  clear h1
  go_wp2_with fail
  refine (KG.out _).mono ?_
  rintro e w2 ⟨rfl, h2⟩
  have HB2 : Hid (Below w.heap.size w w2) := bt HB1.out h2
  have HV2 : Hid (VB w2 w.heap.size ⟨a0, a1, a2, a3, a4, a5, a6⟩) := keep_on h2 q1
  have HLT : Hid (w.heap.size < w2.heap.size) := (Array.getElem?_eq_some_iff.1 (keep_on h2 q1)).1
  clear A0 A1 A2 A3 A4 A5 A6 q1 h2
  obtain ⟨A0, A1, A2, A3, A4, A5, A6⟩ := box7 HV2.out
  go_wp2_with fail
  clear A0 A1 A2 A3 A4 A5 A6
  have HV5' : Hid (VB (w2.alloc (.cells #[.int .i64 a0, .int .i64 a1, .int .i64 a2, .int .i64 a3, .int .i64 a4, .int .i64 a5, .int .i64 a6] 24)) w2.heap.size ⟨a0, a1, a2, a3, a4, a5, a6⟩) := heap_alloc_new _ _
  have HLE0 : Hid (C.le ⟨a0, a1, a2, a3, a4, a5, a6⟩ ⟨a0, a1, a2, a3, a4, a5, a6⟩ = true) := C.le_self _
  go_loopw [6] (fun i wr => ∃ (k : Nat) (v : V7), k ≤ l.length ∧ i = .int .i64 (k : Int) ∧ Below w.heap.size w wr ∧ VB wr w.heap.size ⟨a0, a1, a2, a3, a4, a5, a6⟩ ∧ VB wr w2.heap.size v ∧ C.good v = true ∧ C.le ⟨a0, a1, a2, a3, a4, a5, a6⟩ v = true) (fun i _ => l.length - (intOf i).toNat)
  case atStart => exact ⟨0, _, Nat.zero_le _, rfl, bt HB2.out (below_new _ _), keep_on (below_new _ _) HV2.out, HV5'.out, HGA.out, HLE0.out⟩
  case round =>
    clear HV5' HLE0
    obtain ⟨k, v, hk, rfl, hbw, hva, hv5, hgv, hle⟩ := hrel
    have HBW : Hid _ := hbw
    have HVA : Hid _ := hva
    have HV5 : Hid _ := hv5
    have HGV : Hid _ := hgv
    have HLE : Hid _ := hle
    clear hbw hva hv5 hgv hle
    by_cases hlt : k < l.length
    · obtain ⟨b, o, rfl, hc⟩ := HP.out (by omega)
      obtain ⟨x, hx⟩ : ∃ x, l.getD k 0 = x := ⟨_, rfl⟩
      have hxw := hc k hlt
      rw [hx] at hxw
      have HQX : Hid (∀ w', Below wr.heap.size wr w' → w'.cell? ⟨b, o + k, none⟩ = some (.int .i64 x)) := fun w' hb => by
        have h1 := bt HBW.out hb
        rw [h1.cell (p := ⟨b, o + k, none⟩) (World.block_lt_of_cell? _ _ hxw)]; exact hxw
      have HQ5 : Hid (∀ w', Below wr.heap.size wr w' → _) := fun w' hb => box7 (keep_on hb HV5.out)
      have hki : (k : Int) < (l.length : Int) := by omega
      clear hc hxw hx
      obtain ⟨v0, v1, v2, v3, v4, v5, v6⟩ := v
      cases hr : C.isRep x with
      | false =>
        have GN : Hid (∀ w, _) := fun w => next_rep_new ⟨v0, v1, v2, v3, v4, v5, v6⟩ x w hr
        clear hr
        simp only [V7.v, zero7] at GN
        go_wp2_with fail
        go_region_held_law (fun w' => (w'.cell? ⟨w2.heap.size, 0, none⟩ = some (.int .i64 v0) ∧ w'.cell? ⟨w2.heap.size, 1, none⟩ = some (.int .i64 v1) ∧ w'.cell? ⟨w2.heap.size, 2, none⟩ = some (.int .i64 v2) ∧ w'.cell? ⟨w2.heap.size, 3, none⟩ = some (.int .i64 v3) ∧ w'.cell? ⟨w2.heap.size, 4, none⟩ = some (.int .i64 v4) ∧ w'.cell? ⟨w2.heap.size, 5, none⟩ = some (.int .i64 v5) ∧ w'.cell? ⟨w2.heap.size, 6, none⟩ = some (.int .i64 v6)) ∧ w'.cell? ⟨b, o + k, none⟩ = some (.int .i64 x))
          ((refine ⟨HQ5.out _ ?_, HQX.out _ ?_⟩ <;> (repeat' (first | (with_reducible refine bA ?_) | (with_reducible refine Below.drew ?_) | (with_reducible exact Below.refl _ _) | (with_reducible refine bS ?_ (by simp <;> omega))))))
          (first
          | (go_at_call 10; refine (GN.out _).mono ?_; rintro e w3 ⟨rfl, X1, X2, X3, rfl⟩))
        all_goals
          go_wp2_with fail
          go_roundw
          case rel =>
            refine ⟨k + 1, ⟨v0, v1, v2, v3, v4, v5, v6⟩, by omega, by go_num, bt HBW.out ?hb, keep_on ?hb HVA.out, keep_on ?hb HV5.out, HGV.out, HLE.out⟩
            case hb => (repeat' (first | (with_reducible refine bA ?_) | (with_reducible refine Below.drew ?_) | (with_reducible exact Below.refl _ _) | (with_reducible refine bS ?_ (by simp <;> omega))))
          case measure => simp [intOf]; omega
      | true =>
        obtain ⟨j, hj, rfl⟩ := isrep_cases hr
        clear hr
        by_cases hlim : C.at7 ⟨v0, v1, v2, v3, v4, v5, v6⟩ j = 1099511627776
        · have GN : Hid (∀ w, _) := fun w => next_lim_new ⟨v0, v1, v2, v3, v4, v5, v6⟩ j w hj HGV.out hlim
          clear hlim
          simp only [V7.v, zero7] at GN
          go_wp2_with fail
          go_region_held_law (fun w' => (w'.cell? ⟨w2.heap.size, 0, none⟩ = some (.int .i64 v0) ∧ w'.cell? ⟨w2.heap.size, 1, none⟩ = some (.int .i64 v1) ∧ w'.cell? ⟨w2.heap.size, 2, none⟩ = some (.int .i64 v2) ∧ w'.cell? ⟨w2.heap.size, 3, none⟩ = some (.int .i64 v3) ∧ w'.cell? ⟨w2.heap.size, 4, none⟩ = some (.int .i64 v4) ∧ w'.cell? ⟨w2.heap.size, 5, none⟩ = some (.int .i64 v5) ∧ w'.cell? ⟨w2.heap.size, 6, none⟩ = some (.int .i64 v6)) ∧ w'.cell? ⟨b, o + k, none⟩ = some (.int .i64 (j : Int)))
            ((refine ⟨HQ5.out _ ?_, HQX.out _ ?_⟩ <;> (repeat' (first | (with_reducible refine bA ?_) | (with_reducible refine Below.drew ?_) | (with_reducible exact Below.refl _ _) | (with_reducible refine bS ?_ (by simp <;> omega))))))
            (first
            | (go_at_call 10; refine (GN.out _).mono ?_; rintro e w3 ⟨rfl, X1, X2, X3, X4, rfl⟩))
          all_goals
            go_wp2_with fail
            go_roundw
            case rel =>
              refine ⟨k + 1, ⟨v0, v1, v2, v3, v4, v5, v6⟩, by omega, by go_num, bt HBW.out ?hb, keep_on ?hb HVA.out, keep_on ?hb HV5.out, HGV.out, HLE.out⟩
              case hb => (repeat' (first | (with_reducible refine bA ?_) | (with_reducible refine Below.drew ?_) | (with_reducible exact Below.refl _ _) | (with_reducible refine bS ?_ (by simp <;> omega))))
            case measure => simp [intOf]; omega
        · obtain ⟨u, hu⟩ : ∃ u, C.inc ⟨v0, v1, v2, v3, v4, v5, v6⟩ j = u := ⟨_, rfl⟩
          obtain ⟨n, hn⟩ : ∃ n, C.at7 ⟨v0, v1, v2, v3, v4, v5, v6⟩ j + 1 = n := ⟨_, rfl⟩
          have GN : Hid (∀ w, _) := fun w => next_ok_new ⟨v0, v1, v2, v3, v4, v5, v6⟩ j w hj HGV.out hlim
          have HGU : Hid (C.good u = true) := by subst hu; exact C.good_inc HGV.out hj hlim
          have HLU : Hid (C.le ⟨a0, a1, a2, a3, a4, a5, a6⟩ u = true) := by subst hu; exact C.le_trans' HLE.out (C.le_inc _ hj)
          have GH : Hid (∀ w, _) := fun w => has_at (show C.has ⟨v0, v1, v2, v3, v4, v5, v6⟩ (j : Int) n = false by subst hn; exact C.has_new _ hj) w
          have GI : Hid (∀ w, _) := fun w => has_at (show C.has u (j : Int) n = true by subst hn hu; exact C.has_inc HGV.out hj) w
          have GC : Hid (∀ w, _) := fun w => cmp_at (show C.cmp ⟨v0, v1, v2, v3, v4, v5, v6⟩ u = -1 by subst hu; exact C.cmp_inc _ hj) w
          rw [hu, hn] at GN
          clear hlim hu hn hj
          obtain ⟨u0, u1, u2, u3, u4, u5, u6⟩ := u
          simp only [V7.v] at GN GH GI GC
          go_wp2_with fail
          go_cut [7, 8, 9] from 22 to 64 (fun r7 r8 r9 wx => ∃ B7 B8, r7 = .pointer (some ⟨B7, 0, none⟩) ∧ r8 = .pointer (some ⟨B8, 0, none⟩) ∧ r9 = .int .i64 0 ∧ Below wr.heap.size wr wx ∧ VB wx B7 ⟨u0, u1, u2, u3, u4, u5, u6⟩ ∧ wx.heap[B8]? = some (.cells #[.int .i64 j, .int .i64 n] 26))
          case first =>
            go_region_held_law (fun w' => (w'.cell? ⟨w2.heap.size, 0, none⟩ = some (.int .i64 v0) ∧ w'.cell? ⟨w2.heap.size, 1, none⟩ = some (.int .i64 v1) ∧ w'.cell? ⟨w2.heap.size, 2, none⟩ = some (.int .i64 v2) ∧ w'.cell? ⟨w2.heap.size, 3, none⟩ = some (.int .i64 v3) ∧ w'.cell? ⟨w2.heap.size, 4, none⟩ = some (.int .i64 v4) ∧ w'.cell? ⟨w2.heap.size, 5, none⟩ = some (.int .i64 v5) ∧ w'.cell? ⟨w2.heap.size, 6, none⟩ = some (.int .i64 v6)) ∧ w'.cell? ⟨b, o + k, none⟩ = some (.int .i64 (j : Int)))
              ((refine ⟨HQ5.out _ ?_, HQX.out _ ?_⟩ <;> (repeat' (first | (with_reducible refine bA ?_) | (with_reducible refine Below.drew ?_) | (with_reducible exact Below.refl _ _) | (with_reducible refine bS ?_ (by simp <;> omega))))))
              (first
              | (go_at_call 10; refine (GN.out _).mono ?_; rintro e w3 ⟨rfl, X1, X2, X3, X4, rfl⟩))
            all_goals
              go_wp2_with fail
              go_meet
            all_goals
              refine ⟨_, _, rfl, rfl, rfl, ?_, ?_, ?_⟩
              · (repeat' (first | (with_reducible refine bA ?_) | (with_reducible refine Below.drew ?_) | (with_reducible exact Below.refl _ _) | (with_reducible refine bS ?_ (by simp <;> omega))))
              all_goals
                try unfold VB
                simp only [heap_of_drew, heap_of_alloc, size_of_alloc]
                repeat' split
                all_goals first | rfl | (exfalso; omega) | exact absurd trivial ‹¬True›
          case rest =>
            obtain ⟨B7, B8, rfl, rfl, rfl, hbx, q7, q8⟩ := hcut
            have hne : Nonempty (NewW wc) := ⟨NewW.start wc⟩
            obtain ⟨V0, V1, V2, V3, V4, V5, V6⟩ := box7_all (w := wc) (keep_on hbx HV5.out)
            obtain ⟨U0, U1, U2, U3, U4, U5, U6⟩ := box7_all (w := wc) q7
            obtain ⟨D0, D1⟩ := box2_all (w := wc) q8
            have XK : ∀ n : NewW wc, n.v.cell? ⟨b, o + k, none⟩ = some (.int .i64 (j : Int)) := fun n => HQX.out _ (bt hbx n.h)
            have HV5c : Hid (∀ n : NewW wc, VB n.v w2.heap.size ⟨v0, v1, v2, v3, v4, v5, v6⟩) := fun n => keep_on n.h (keep_on hbx HV5.out)
            have HVAc : Hid (∀ n : NewW wc, VB n.v w.heap.size ⟨a0, a1, a2, a3, a4, a5, a6⟩) := fun n => keep_on n.h (keep_on hbx HVA.out)
            have HBWc : Hid (∀ n : NewW wc, Below w.heap.size w n.v) := fun n => bt HBW.out (bt hbx n.h)
            clear hbx q7 q8
            go_wp2_with fail
            refine wp_region_new (by kernel_rfl) (by kernel_rfl) ?_
            repeat (go_big_quiet_step ((first
              | (with_reducible exact new_of (GH.out _))
              | (with_reducible exact new_of (GI.out _))
              | (with_reducible exact new_of (GC.out _)))))
            refine wpQuiet_nil ?_
            rintro _ ⟨w3, rfl⟩
            obtain ⟨f0, f1, f2, f3, f4, f5, f6⟩ := frozen7 (HV5c.out w3)
            go_wp2_with fail
            go_roundw
            case rel =>
              refine ⟨k + 1, ⟨u0, u1, u2, u3, u4, u5, u6⟩, by omega, by go_num, ?_, ?_, ?_, HGU.out, HLU.out⟩
              · repeat' (refine Below.setCell ?_ (Nat.le_of_lt HLT.out) _)
                exact HBWc.out w3
              · exact ((sets7 w3.v w2.heap.size _ _ _ _ _ _ _).block _ (Array.getElem?_eq_some_iff.1 (HVAc.out w3)).1 (fun e => by have := HLT.out; have := Option.some.inj e; omega)).trans (HVAc.out w3)
              · exact sets7_new (HV5c.out w3)
            case measure => simp [intOf]; omega
    · obtain rfl : k = l.length := by omega
      obtain ⟨v0, v1, v2, v3, v4, v5, v6⟩ := v
      obtain ⟨lv, hlv⟩ : ∃ lv, C.vbytes ⟨v0, v1, v2, v3, v4, v5, v6⟩ = lv := ⟨_, rfl⟩
      have GP : Hid (∀ w, _) := fun w => put_nil lv ⟨v0, v1, v2, v3, v4, v5, v6⟩ w (good_fits HGV.out) hlv
      have HL : Hid (lv.length ≤ 100000) := by have := vbytes_len (good_fits HGV.out); rw [hlv] at this; show _ ≤ _; omega
      have KGV : Hid (C.getV (some lv) = (⟨v0, v1, v2, v3, v4, v5, v6⟩, some [])) := by have := getV_bytes HGV.out []; rw [List.append_nil, hlv] at this; exact this
      have KT : Hid (∀ (w : World) (g : Nat) (p : Option Addr) (n c : Nat), Rd w g (some lv) p n c → _) := fun w g p n c h => get_at w g (some lv) p n c ⟨v0, v1, v2, v3, v4, v5, v6⟩ (some []) h HL.out KGV.out
      have KL : Hid (∀ w, _) := fun w => le_at HLE.out w
      have KVV : ∀ w, _ := fun w => eq_vec (a := ⟨v0, v1, v2, v3, v4, v5, v6⟩) (b := ⟨v0, v1, v2, v3, v4, v5, v6⟩) (x := true) (C.same_self _) w
      obtain ⟨V0, V1, V2, V3, V4, V5, V6⟩ := box7 HV5.out
      simp only [V7.v] at *
      clear hlv
      go_wp2_with fail
      refine (GP.out _).mono ?_
      rintro e w4 ⟨⟨p4, n4, c4, rfl, hi4⟩, h4⟩
      have HI4 : Hid _ := hi4
      have q2 := keep_on h4 HVA.out
      have q3 := keep_on h4 HV5.out
      have HB4 : Hid _ := bt HBW.out h4
      clear hi4 V0 V1 V2 V3 V4 V5 V6 h4
      go_wp2_with fail
      refine (read_at w4 p4 n4 c4 lv HI4.out HL.out).mono ?_
      rintro e w5 ⟨⟨g, p5, n5, c5, rfl, hlo, hlt5, hr5⟩, h5⟩
      have HR5 : Hid _ := hr5
      have HG : Hid (w4.heap.size ≤ g) := hlo
      have HB5 : Hid _ := bt HB4.out h5
      have HQ1 : Hid (∀ w', w5.grownBy w' (some g) → _) := fun w' hg => box7 ((hg.block _ (Array.getElem?_eq_some_iff.1 (keep_on h5 q2)).1 (fun e => by have := HG.out; have := (Array.getElem?_eq_some_iff.1 q2).1; have := Option.some.inj e; omega)).trans (keep_on h5 q2))
      have HQ2 : Hid (∀ w', w5.grownBy w' (some g) → _) := fun w' hg => box7 ((hg.block _ (Array.getElem?_eq_some_iff.1 (keep_on h5 q3)).1 (fun e => by have := HG.out; have := (Array.getElem?_eq_some_iff.1 q3).1; have := Option.some.inj e; omega)).trans (keep_on h5 q3))
      have HD5 : Hid (w5.grownBy w5.drew (some g)) := gdrew _ _
      have HZ4 : Hid (w.heap.size ≤ w4.heap.size) := HB4.out.size
      clear hr5 hlo hlt5 h5 q2 q3
      go_wp2_with fail
      first
      | (go_region_held_law (fun w' => (w'.cell? ⟨w.heap.size, 0, none⟩ = some (.int .i64 a0) ∧ w'.cell? ⟨w.heap.size, 1, none⟩ = some (.int .i64 a1) ∧ w'.cell? ⟨w.heap.size, 2, none⟩ = some (.int .i64 a2) ∧ w'.cell? ⟨w.heap.size, 3, none⟩ = some (.int .i64 a3) ∧ w'.cell? ⟨w.heap.size, 4, none⟩ = some (.int .i64 a4) ∧ w'.cell? ⟨w.heap.size, 5, none⟩ = some (.int .i64 a5) ∧ w'.cell? ⟨w.heap.size, 6, none⟩ = some (.int .i64 a6)) ∧ (w'.cell? ⟨w2.heap.size, 0, none⟩ = some (.int .i64 v0) ∧ w'.cell? ⟨w2.heap.size, 1, none⟩ = some (.int .i64 v1) ∧ w'.cell? ⟨w2.heap.size, 2, none⟩ = some (.int .i64 v2) ∧ w'.cell? ⟨w2.heap.size, 3, none⟩ = some (.int .i64 v3) ∧ w'.cell? ⟨w2.heap.size, 4, none⟩ = some (.int .i64 v4) ∧ w'.cell? ⟨w2.heap.size, 5, none⟩ = some (.int .i64 v5) ∧ w'.cell? ⟨w2.heap.size, 6, none⟩ = some (.int .i64 v6)))
          ((refine ⟨HQ1.out _ ?_, HQ2.out _ ?_⟩ <;> (first | exact hg8 | exact hg6 | exact HD5.out)))
          (first
          | (go_at_call 27; refine (KL.out _).mono ?_; rintro e w8 ⟨rfl, hb8⟩; have hg8 : w5.grownBy w8 (some g) := gtrans hg6 (gbelow hb8))
          | (go_at_call 18; refine (end_any _ g _ _ _ _ hr6).mono ?_; rintro e w7 ⟨rfl, hw7⟩; subst w7)
          | (go_at_call 12; refine (KT.out _ g _ _ _ (HR5.out.below (Below.refl _ _).drew)).mono ?_; rintro e w6 ⟨rfl, ⟨p6, n6, c6', hr6⟩, hg6'⟩; have hg6 : w5.grownBy w6 (some g) := gtrans HD5.out hg6'; clear hg6')))
      | fail
      all_goals
        have HB8 : Hid (Below w.heap.size w w8) := below_g HB5.out hg8 (by have := HG.out; have := HZ4.out; omega)
        go_wp2
        go_ret
        exact ⟨rfl, HB8.out⟩
set_option maxRecDepth 100000 in
set_option maxHeartbeats 4000000 in
theorem steps_long (a : V7) (p : Option Addr) (l : List Int) (c : Nat) (w : World) (hl30 : 30 < l.length) : Calls Try.prog 6 #[a.v, .slice p l.length c] w fun e w' => e = .returned (.bool true) ∧ Below w.heap.size w w' := by
  have hl9 : (30 : Int) < (l.length : Int) := by omega
  obtain ⟨a0, a1, a2, a3, a4, a5, a6⟩ := a
  simp only [V7.v] at *
  go_enter Try.func6, Try.ntmps6
  go_wp2_with fail
  refine (awake_any _).mono ?_
  rintro e w1 ⟨rfl, h1⟩
  go_wp2
  go_ret
  exact ⟨rfl, bt (below_new _ _) h1⟩
set_option maxRecDepth 100000 in
set_option maxHeartbeats 4000000 in
theorem steps_bad (a : V7) (p : Option Addr) (l : List Int) (c : Nat) (w : World) (hga : C.good a = false) (hl30 : l.length ≤ 30) : Calls Try.prog 6 #[a.v, .slice p l.length c] w fun e w' => e = .returned (.bool true) ∧ Below w.heap.size w w' := by
  have KG : Hid (∀ w, _) := fun w => good_at hga w
  have hl9 : (l.length : Int) ≤ 30 := by omega
  clear hga
  obtain ⟨a0, a1, a2, a3, a4, a5, a6⟩ := a
  simp only [V7.v] at *
  go_enter Try.func6, Try.ntmps6
  go_wp2_with fail
  refine (awake_any _).mono ?_
  rintro e w1 ⟨rfl, h1⟩
  have q1 := kept_block h1
  have HB1 : Hid (Below w.heap.size w w1) := bt (below_new _ _) h1
  obtain ⟨A0, A1, A2, A3, A4, A5, A6⟩ := box7 q1
  clear h1 q1
  go_wp2_with fail
  refine (KG.out _).mono ?_
  rintro e w2 ⟨rfl, h2⟩
  have HB2 : Hid (Below w.heap.size w w2) := bt HB1.out h2
  clear h2
  go_wp2
  go_ret
  exact ⟨rfl, HB2.out⟩
theorem steps_all (a : V7) (ha : C.fits7 a) (p : Option Addr) (l : List Int) (c : Nat) (w : World) (hlc : l.length ≤ c) (hcm : c ≤ maxLen) (hp : IAt w p l) : Calls Try.prog 6 #[.agg #[.int .i64 a.x0, .int .i64 a.x1, .int .i64 a.x2, .int .i64 a.x3, .int .i64 a.x4, .int .i64 a.x5, .int .i64 a.x6], .slice p l.length c] w fun e w' => e = .returned (.bool true) ∧ Below w.heap.size w w' := by
  rcases Nat.lt_or_ge 30 l.length with h | h
  · exact steps_long a p l c w h
  · cases hg : C.good a with
    | false => exact steps_bad a p l c w hg h
    | true => exact steps_law a p l c w hlc hcm hp hg h
end Go.Proofs.Ytmjkablhambelaa
