/-
  Each call of disk.Disk and of rostrumref5.Disk, one behind the other: they answer alike, and stay alike.
-/
import Derived.Test.YtlfcpgncgldieaaRLaw
namespace Go.Proofs.Ytlfcpgncgldieaa
open Go.RowKit Go.Lib Go.Maps
open C (upd upd_same upd_other)
set_option linter.unusedVariables false

set_option maxRecDepth 100000 in
set_option maxHeartbeats 1000000 in
theorem sync_bad (w : World) (g : Nat) (S : Nat → Prop) (s : C.St) (f : Int) (h : Disk w g S s) (hr : refE s f ≠ 0) :
    Calls Try.prog 11 #[.pointer (some ⟨g, 0, none⟩), .int .i64 f] w fun e w' => e = .returned (.int .i64 (refE s f)) ∧ w' = w := by
  have HC : Hid _ := find_bad w g S s f (refE s f) h rfl hr
  have hr' : (refE s f == 0) = false := by simpa using hr
  generalize refE s f = r at *
  clear h
  go_enter Try.func11, Try.ntmps11
  go_wp2_with fail
  refine Calls.mono HC.out ?_
  rintro e w1 ⟨rfl, hw⟩
  subst w1
  go_wp2
  go_ret
  exact ⟨rfl, rfl⟩
set_option maxRecDepth 100000 in
set_option maxHeartbeats 1000000 in
theorem drop_bad (w : World) (g : Nat) (S : Nat → Prop) (s : C.St) (f : Int) (h : Disk w g S s) (hr : refE s f ≠ 0) :
    Calls Try.prog 17 #[.pointer (some ⟨g, 0, none⟩), .int .i64 f] w fun e w' => e = .returned (.int .i64 (refE s f)) ∧ w' = w := by
  have HC : Hid _ := find_bad w g S s f (refE s f) h rfl hr
  have hr' : (refE s f == 0) = false := by simpa using hr
  generalize refE s f = r at *
  clear h
  go_enter Try.func17, Try.ntmps17
  go_wp2_with fail
  refine Calls.mono HC.out ?_
  rintro e w1 ⟨rfl, hw⟩
  subst w1
  go_wp2
  go_ret
  exact ⟨rfl, rfl⟩
/-- A call of the one, then of the other: one answer, one state. -/
def Both (w0 w : World) (K : Nat → Prop) (g g2 : Nat) (s : C.St) (F1 : Nat) (A1 : Array Value) (F2 : Nat) (A2 : Array Value) (r : Value) (s' : C.St) : Prop :=
  s'.made ≤ s.made + 1 ∧ s'.lives ≤ s.lives + 1 ∧ Calls Try.prog F1 A1 w (fun e w' => e = .returned r ∧ Mid2 w0 w' K g g2 s s' ∧ Kept K w w') ∧
    ∀ w2, Mid2 w0 w2 K g g2 s s' → Calls Try.prog F2 A2 w2 (fun e w' => e = .returned r ∧ Two w0 w' K g g2 s' ∧ Kept K w2 w')
theorem refE_nat {s : C.St} {f : Int} (h : refE s f = 0) : ∃ k : Nat, f = (k : Int) ∧ k < 1000 := by
  have := refE_zero h
  exact ⟨f.toNat, by omega, by omega⟩
theorem two_append (w0 w : World) (K : Nat → Prop) (g g2 : Nat) (s : C.St) (f : Int) (p : Option Addr) (l : List UInt8) (cap : Nat) (h : Two w0 w K g g2 s) (hm : s.made ≤ 1000) (hx : Part.ok w0 ⟨p, l, cap⟩) (hl : l.length ≤ 200) :
    ∃ r s', Both w0 w K g g2 s 10 #[.pointer (some ⟨g, 0, none⟩), .int .i64 f, .slice p l.length cap] 19 #[.pointer (some ⟨g2, 0, none⟩), .int .i64 f, .slice p l.length cap] (.int .i64 r) s' := by
  have hok := h.ok
  by_cases h0 : appE s f l = 0
  · have hr : refE s f = 0 := by
      by_cases hr : refE s f = 0
      · exact hr
      · unfold appE at h0; rw [if_neg hr] at h0; exact h0
    have hu : C.used s.ws + l.length ≤ s.room := by
      unfold appE at h0; rw [if_pos hr] at h0
      by_cases h2 : s.room < C.used s.ws + l.length
      · rw [if_pos h2] at h0; exact absurd h0 (by decide)
      · omega
    obtain ⟨k, rfl, hk⟩ := refE_nat hr
    refine ⟨0, C.appS s k l, Nat.le_refl _, Nat.le_succ _, ?_, fun w2 h2 => ?_⟩
    · obtain ⟨S, S2, h1, h2, h3, h4, h5, h6, h7⟩ := h
      exact (append_ok w g S s k p l cap h1 (hx.below h6) hr hu (by omega)).mono fun e w' ⟨he, hd, ht⟩ => ⟨he, mid_ext h2 h3 h4 h5 h6 h7 hd ht⟩
    · obtain ⟨S, S2, h1, h2, h3, h4, h5, h6, h7⟩ := h2
      exact (rappend_ok w2 g2 S2 s k p l cap h2 hok (by omega) (hx.below h6) hr hu).mono fun e w' ⟨he, hd, ht⟩ => ⟨he, two_ext h1 h3 h4 h5 h6 h7 hd ht⟩
  · refine ⟨appE s f l, s, Nat.le_succ _, Nat.le_succ _, ?_, fun w2 h2 => ?_⟩
    · have h' := h
      obtain ⟨S, S2, h1, h2, h3, h4, h5, h6, h7⟩ := h
      refine (append_bad w g S s f p l cap h1 (by omega) h0).mono ?_
      rintro e w' ⟨he, n, rfl⟩
      exact ⟨he, Two.below h' (drewN_below _ _), fun _ _ => rfl⟩
    · have h' := h2
      obtain ⟨S, S2, h1, h2, h3, h4, h5, h6, h7⟩ := h2
      refine (rappend_bad w2 g2 S2 s f p l cap h2 hok (by omega) (by omega) h0).mono ?_
      rintro e w' ⟨he, hw⟩
      subst hw
      exact ⟨he, h', fun _ _ => rfl⟩
theorem two_sync (w0 w : World) (K : Nat → Prop) (g g2 : Nat) (s : C.St) (f : Int) (h : Two w0 w K g g2 s) (hm : s.made ≤ 1000) :
    ∃ r s', Both w0 w K g g2 s 11 #[.pointer (some ⟨g, 0, none⟩), .int .i64 f] 20 #[.pointer (some ⟨g2, 0, none⟩), .int .i64 f] (.int .i64 r) s' := by
  have hok := h.ok
  by_cases h0 : readE s f = 0
  · have hr : refE s f = 0 := by
      by_cases hr : refE s f = 0
      · exact hr
      · rw [readE_ref hr] at h0; exact h0
    obtain ⟨k, rfl, hk⟩ := refE_nat hr
    have hi : s.is k = true := by
      unfold readE at h0
      rw [if_pos hr, Int.toNat_natCast] at h0
      cases hi : s.is k with
      | true => rfl
      | false => rw [hi] at h0; exact absurd h0 (by decide)
    refine ⟨0, C.syncS s k, Nat.le_succ _, Nat.le_succ _, ?_, fun w2 h2 => ?_⟩
    · obtain ⟨S, S2, h1, h2, h3, h4, h5, h6, h7⟩ := h
      exact (sync_ok w g S s k h1 hr hi).mono fun e w' ⟨he, hd, ht⟩ => ⟨he, mid_same h2 h3 h4 h5 h6 h7 hd ht⟩
    · obtain ⟨S, S2, h1, h2, h3, h4, h5, h6, h7⟩ := h2
      exact (rsync_ok w2 g2 S2 s k h2 hok (by omega) h0).mono fun e w' ⟨he, hd, ht⟩ => ⟨he, two_same h1 h3 h4 h5 h6 h7 hd ht⟩
  · refine ⟨readE s f, s, Nat.le_succ _, Nat.le_succ _, ?_, fun w2 h2 => ?_⟩
    · have h' := h
      obtain ⟨S, S2, h1, h2, h3, h4, h5, h6, h7⟩ := h
      by_cases hr : refE s f = 0
      · cases hi : s.is f.toNat with
        | true => exact absurd (by unfold readE; rw [if_pos hr, if_pos hi]) h0
        | false =>
          have e4 : readE s f = 4 := by unfold readE; rw [if_pos hr, hi]; rfl
          rw [e4]
          exact (sync_none w g S s f h1 hr hi).mono fun e w' ⟨he, hw⟩ => ⟨he, by rw [hw]; exact ⟨h', fun _ _ => rfl⟩⟩
      · rw [readE_ref hr]
        exact (sync_bad w g S s f h1 hr).mono fun e w' ⟨he, hw⟩ => ⟨he, by rw [hw]; exact ⟨h', fun _ _ => rfl⟩⟩
    · have h' := h2
      obtain ⟨S, S2, h1, h2, h3, h4, h5, h6, h7⟩ := h2
      exact (rsync_bad w2 g2 S2 s f h2 h0).mono fun e w' ⟨he, hw⟩ => ⟨he, by rw [hw]; exact ⟨h', fun _ _ => rfl⟩⟩
theorem two_drop (w0 w : World) (K : Nat → Prop) (g g2 : Nat) (s : C.St) (f : Int) (h : Two w0 w K g g2 s) (hm : s.made ≤ 1000) :
    ∃ r s', Both w0 w K g g2 s 17 #[.pointer (some ⟨g, 0, none⟩), .int .i64 f] 21 #[.pointer (some ⟨g2, 0, none⟩), .int .i64 f] (.int .i64 r) s' := by
  have hok := h.ok
  by_cases h0 : readE s f = 0
  · have hr : refE s f = 0 := by
      by_cases hr : refE s f = 0
      · exact hr
      · rw [readE_ref hr] at h0; exact h0
    obtain ⟨k, rfl, hk⟩ := refE_nat hr
    have hi : s.is k = true := by
      unfold readE at h0
      rw [if_pos hr, Int.toNat_natCast] at h0
      cases hi : s.is k with
      | true => rfl
      | false => rw [hi] at h0; exact absurd h0 (by decide)
    refine ⟨0, C.dropS s k, Nat.le_succ _, Nat.le_succ _, ?_, fun w2 h2 => ?_⟩
    · obtain ⟨S, S2, h1, h2, h3, h4, h5, h6, h7⟩ := h
      exact (drop_ok w g S s k h1 hr hi).mono fun e w' ⟨he, hd, ht⟩ => ⟨he, mid_same h2 h3 h4 h5 h6 h7 hd ht⟩
    · obtain ⟨S, S2, h1, h2, h3, h4, h5, h6, h7⟩ := h2
      exact (rdrop_ok w2 g2 S2 s k h2 hok (by omega) h0 hr).mono fun e w' ⟨he, hd, ht⟩ => ⟨he, two_ext h1 h3 h4 h5 h6 h7 hd ht⟩
  · refine ⟨readE s f, s, Nat.le_succ _, Nat.le_succ _, ?_, fun w2 h2 => ?_⟩
    · have h' := h
      obtain ⟨S, S2, h1, h2, h3, h4, h5, h6, h7⟩ := h
      by_cases hr : refE s f = 0
      · cases hi : s.is f.toNat with
        | true => exact absurd (by unfold readE; rw [if_pos hr, if_pos hi]) h0
        | false =>
          have e4 : readE s f = 4 := by unfold readE; rw [if_pos hr, hi]; rfl
          rw [e4]
          exact (drop_none w g S s f h1 hr hi).mono fun e w' ⟨he, hw⟩ => ⟨he, by rw [hw]; exact ⟨h', fun _ _ => rfl⟩⟩
      · rw [readE_ref hr]
        exact (drop_bad w g S s f h1 hr).mono fun e w' ⟨he, hw⟩ => ⟨he, by rw [hw]; exact ⟨h', fun _ _ => rfl⟩⟩
    · have h' := h2
      obtain ⟨S, S2, h1, h2, h3, h4, h5, h6, h7⟩ := h2
      exact (rdrop_bad w2 g2 S2 s f h2 h0).mono fun e w' ⟨he, hw⟩ => ⟨he, by rw [hw]; exact ⟨h', fun _ _ => rfl⟩⟩
theorem two_crash (w0 w : World) (K : Nat → Prop) (g g2 : Nat) (s : C.St) (keep torn : Int) (h : Two w0 w K g g2 s) (hm : s.made ≤ 1000) (hk1 : -9223372036854775808 ≤ keep) (hk2 : keep ≤ 9223372036854775807) (ht1 : -9223372036854775808 ≤ torn) (ht2 : torn ≤ 9223372036854775807) :
    ∃ s', Both w0 w K g g2 s 15 #[.pointer (some ⟨g, 0, none⟩), .int .i64 keep, .int .i64 torn] 22 #[.pointer (some ⟨g2, 0, none⟩), .int .i64 keep, .int .i64 torn] (.tuple #[]) s' := by
  have hok := h.ok
  refine ⟨C.crashS s keep torn, Nat.le_succ _, Nat.le_succ _, ?_, fun w2 h2 => ?_⟩
  · obtain ⟨S, S2, h1, h2, h3, h4, h5, h6, h7⟩ := h
    exact (crash_any w g S s keep torn h1 (by omega) hk1 hk2 ht1 ht2).mono fun e w' ⟨he, hd, ht⟩ => ⟨he, mid_ext h2 h3 h4 h5 h6 h7 hd ht⟩
  · obtain ⟨S, S2, h1, h2, h3, h4, h5, h6, h7⟩ := h2
    exact (rcrash_any w2 g2 S2 s keep torn h2 hok (by omega) hk1 hk2 ht1 ht2).mono fun e w' ⟨he, hd, ht⟩ => ⟨he, two_ext h1 h3 h4 h5 h6 h7 hd ht⟩
theorem two_on (w0 w : World) (K : Nat → Prop) (g g2 : Nat) (s : C.St) (h : Two w0 w K g g2 s) (hl : s.lives ≤ 1000) :
    ∃ s', Both w0 w K g g2 s 16 #[.pointer (some ⟨g, 0, none⟩)] 23 #[.pointer (some ⟨g2, 0, none⟩)] (.tuple #[]) s' := by
  refine ⟨C.onS s, Nat.le_succ _, Nat.le_refl _, ?_, fun w2 h2 => ?_⟩
  · obtain ⟨S, S2, h1, h2, h3, h4, h5, h6, h7⟩ := h
    exact (on_any w g S s h1 (by omega)).mono fun e w' ⟨he, hd, ht⟩ => ⟨he, mid_same h2 h3 h4 h5 h6 h7 hd ht⟩
  · obtain ⟨S, S2, h1, h2, h3, h4, h5, h6, h7⟩ := h2
    exact (ron_any w2 g2 S2 s h2 (by omega)).mono fun e w' ⟨he, hd, ht⟩ => ⟨he, two_same h1 h3 h4 h5 h6 h7 hd ht⟩
theorem two_spoil (w0 w : World) (K : Nat → Prop) (g g2 : Nat) (s : C.St) (f a : Int) (b : UInt8) (h : Two w0 w K g g2 s) (hm : s.made ≤ 1000) (ha9 : a ≤ 9223372036854775807) :
    ∃ r s', Both w0 w K g g2 s 12 #[.pointer (some ⟨g, 0, none⟩), .int .i64 f, .int .i64 a, .int .u8 (b.toNat : Nat)] 24 #[.pointer (some ⟨g2, 0, none⟩), .int .i64 f, .int .i64 a, .int .u8 (b.toNat : Nat)] (.bool r) s' := by
  have hok := h.ok
  by_cases hn : readE s f ≠ 0 ∨ a < 0 ∨ b.toNat = 0
  · refine ⟨false, s, Nat.le_succ _, Nat.le_succ _, ?_, fun w2 h2 => ?_⟩
    · have h' := h
      obtain ⟨S, S2, h1, h2, h3, h4, h5, h6, h7⟩ := h
      have hs : spoN s f a b := by
        rcases hn with h | h | h
        · exact Or.inl h
        · exact Or.inr (Or.inl h)
        · exact Or.inr (Or.inr (Or.inr h))
      exact (spoil_no w g S s f a b h1 hs).mono fun e w' ⟨he, hw⟩ => ⟨he, by rw [hw]; exact ⟨h', fun _ _ => rfl⟩⟩
    · have h' := h2
      obtain ⟨S, S2, h1, h2, h3, h4, h5, h6, h7⟩ := h2
      exact (rspoil_bad w2 g2 S2 s f a b h2 hn).mono fun e w' ⟨he, hw⟩ => ⟨he, by rw [hw]; exact ⟨h', fun _ _ => rfl⟩⟩
  · have h0 : readE s f = 0 := by
      by_cases e : readE s f = 0
      · exact e
      · exact absurd (Or.inl e) hn
    have ha0 : ¬ a < 0 := fun e => hn (Or.inr (Or.inl e))
    have hb0 : b.toNat ≠ 0 := fun e => hn (Or.inr (Or.inr e))
    have hr : refE s f = 0 := by
      by_cases hr : refE s f = 0
      · exact hr
      · rw [readE_ref hr] at h0; exact h0
    obtain ⟨k, rfl, hk⟩ := refE_nat hr
    obtain ⟨t, rfl⟩ : ∃ t : Nat, a = (t : Int) := ⟨a.toNat, by omega⟩
    have hi : s.is k = true := by
      unfold readE at h0
      rw [if_pos hr, Int.toNat_natCast] at h0
      cases hi : s.is k with
      | true => rfl
      | false => rw [hi] at h0; exact absurd h0 (by decide)
    refine ⟨decide (t < (C.dat s.ws k).length), if t < (C.dat s.ws k).length then C.spoS s k t b else s, ?_, ?_, ?_, fun w2 h2 => ?_⟩
    · split
      · exact Nat.le_succ _
      · exact Nat.le_succ _
    · split
      · exact Nat.le_succ _
      · exact Nat.le_succ _
    · have h' := h
      obtain ⟨S, S2, h1, h2, h3, h4, h5, h6, h7⟩ := h
      by_cases ht : t < (C.dat s.ws k).length
      · rw [if_pos ht, decide_eq_true ht]
        exact (spoil_ok w g S s k t b h1 hr hi ht hb0).mono fun e w' ⟨he, hd, ht⟩ => ⟨he, mid_same h2 h3 h4 h5 h6 h7 hd ht⟩
      · rw [if_neg ht, decide_eq_false ht]
        exact (spoil_no w g S s k t b h1 (Or.inr (Or.inr (Or.inl (by rw [Int.toNat_natCast]; omega))))).mono fun e w' ⟨he, hw⟩ => ⟨he, by rw [hw]; exact ⟨h', fun _ _ => rfl⟩⟩
    · obtain ⟨S, S2, h1, h2, h3, h4, h5, h6, h7⟩ := h2
      exact (rspoil_go w2 g2 S2 s k t b h2 hok (by omega) h0 (by omega) hb0 _ _ rfl rfl).mono fun e w' ⟨he, hd, ht⟩ => ⟨he, two_same h1 h3 h4 h5 h6 h7 hd ht⟩
/-- What is read of both. -/
theorem two_read (w0 w : World) (K : Nat → Prop) (g g2 : Nat) (s : C.St) (f : Int) (h : Two w0 w K g g2 s) :
    Calls Try.prog 13 #[.pointer (some ⟨g, 0, none⟩), .int .i64 f] w fun e w' => (∃ p n c, e = .returned (.tuple #[.slice p n c, .int .i64 (readE s f)]) ∧ Is w' p n c (readB s f)) ∧ Two w0 w' K g g2 s ∧ Below w.heap.size w w' := by
  have h' := h
  obtain ⟨S, S2, h1, h2, h3, h4, h5, h6, h7⟩ := h
  refine (read_any w g S s f h1).mono ?_
  rintro e w' ⟨⟨v, rfl, ho⟩, hb⟩
  obtain ⟨p, n, c, rfl, hi⟩ := Own.is ho
  exact ⟨⟨p, n, c, rfl, hi⟩, h'.below hb, hb⟩
theorem two_rread (w0 w : World) (K : Nat → Prop) (g g2 : Nat) (s : C.St) (f : Int) (h : Two w0 w K g g2 s) (hm : s.made ≤ 1000) :
    Calls Try.prog 25 #[.pointer (some ⟨g2, 0, none⟩), .int .i64 f] w fun e w' => (∃ p n c, e = .returned (.tuple #[.slice p n c, .int .i64 (readE s f)]) ∧ Is w' p n c (readB s f)) ∧ Two w0 w' K g g2 s ∧ Below w.heap.size w w' := by
  have h' := h
  have hok := h.ok
  obtain ⟨S, S2, h1, h2, h3, h4, h5, h6, h7⟩ := h
  by_cases h0 : readE s f = 0
  · have hr : refE s f = 0 := by
      by_cases hr : refE s f = 0
      · exact hr
      · rw [readE_ref hr] at h0; exact h0
    obtain ⟨k, rfl, hk⟩ := refE_nat hr
    have eB : readB s k = C.dat s.ws k := by unfold readB; rw [if_pos h0, Int.toNat_natCast]
    rw [h0, eB]
    exact (rread_ok w g2 S2 s k h2 hok (by omega) h0).mono fun e w' ⟨he, hb⟩ => ⟨he, h'.below hb, hb⟩
  · have eB : readB s f = [] := if_neg h0
    rw [eB]
    refine (rread_bad w g2 S2 s f h2 h0).mono ?_
    rintro e w' ⟨rfl, hw⟩
    subst hw
    exact ⟨⟨none, 0, 0, rfl, Is.nil _⟩, h', Below.refl _ _⟩
theorem two_files (w0 w : World) (K : Nat → Prop) (g g2 : Nat) (s : C.St) (h : Two w0 w K g g2 s) (hm : s.made ≤ 1000) :
    Calls Try.prog 14 #[.pointer (some ⟨g, 0, none⟩)] w fun e w' => (∃ p n c, e = .returned (.slice p n c) ∧ n = (filesE s).length ∧ ZAt w' p (filesE s)) ∧ Two w0 w' K g g2 s ∧ Below w.heap.size w w' := by
  have h' := h
  obtain ⟨S, S2, h1, h2, h3, h4, h5, h6, h7⟩ := h
  refine (files_any w g S s h1 (by omega)).mono ?_
  rintro e w' ⟨⟨p, n, c, he, hn, hz, _⟩, hb⟩
  exact ⟨⟨p, n, c, he, hn, hz⟩, h'.below hb, hb⟩
theorem two_rfiles (w0 w : World) (K : Nat → Prop) (g g2 : Nat) (s : C.St) (h : Two w0 w K g g2 s) :
    Calls Try.prog 26 #[.pointer (some ⟨g2, 0, none⟩)] w fun e w' => (∃ p n c, e = .returned (.slice p n c) ∧ n = (filesE s).length ∧ ZAt w' p (filesE s)) ∧ Two w0 w' K g g2 s ∧ Below w.heap.size w w' := by
  have h' := h
  obtain ⟨S, S2, h1, h2, h3, h4, h5, h6, h7⟩ := h
  exact (rfiles_any w g2 S2 s h2).mono fun e w' ⟨he, hb⟩ => ⟨he, h'.below hb, hb⟩
theorem two_power (w0 w : World) (K : Nat → Prop) (g g2 : Nat) (s : C.St) (h : Two w0 w K g g2 s) :
    Calls Try.prog 27 #[.pointer (some ⟨g, 0, none⟩)] w fun e w' => e = .returned (.bool (!s.off)) ∧ w' = w := by
  obtain ⟨S, S2, h1, _⟩ := h
  exact power_any w g S s h1
theorem two_lives (w0 w : World) (K : Nat → Prop) (g g2 : Nat) (s : C.St) (h : Two w0 w K g g2 s) :
    Calls Try.prog 28 #[.pointer (some ⟨g, 0, none⟩)] w fun e w' => e = .returned (.int .i64 (s.lives : Nat)) ∧ w' = w := by
  obtain ⟨S, S2, h1, _⟩ := h
  exact lives_any w g S s h1
theorem two_cells {w0 w : World} {K : Nat → Prop} {g g2 : Nat} {s : C.St} (h : Two w0 w K g g2 s) : w.cell? ⟨g2, 1002, none⟩ = some (.bool s.off) ∧ w.cell? ⟨g2, 1003, none⟩ = some (.int .i64 (s.lives : Nat)) := by
  obtain ⟨S, S2, _, h2, _⟩ := h
  obtain ⟨v, _, _, _, c2, c3, _⟩ := h2.cells
  exact ⟨c2, c3⟩
end Go.Proofs.Ytlfcpgncgldieaa
