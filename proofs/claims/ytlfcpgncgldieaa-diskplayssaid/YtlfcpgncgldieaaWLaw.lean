/-
  A disk that the call itself has made; rostrumlaw5.awake.
-/
import Derived.Test.YtlfcpgncgldieaaWCrash2
namespace Go.Proofs.Ytlfcpgncgldieaa
open Go.RowKit Go.Lib Go.Maps
open C (upd upd_same upd_other)
set_option linter.unusedVariables false

/-- A disk at g, all of it made since w0. -/
def DK (w0 w : World) (g : Nat) (s : C.St) : Prop := ∃ S, Disk w g S s ∧ (∀ b, S b → w0.heap.size ≤ b) ∧ Below w0.heap.size w0 w
theorem DK.ok {w0 w : World} {g : Nat} {s : C.St} (h : DK w0 w g s) : s.Ok := by obtain ⟨S, h, _⟩ := h; exact h.ok
theorem DK.bel {w0 w : World} {g : Nat} {s : C.St} (h : DK w0 w g s) : Below w0.heap.size w0 w := by obtain ⟨S, _, _, h⟩ := h; exact h
theorem DK.below {w0 w w' : World} {g : Nat} {s : C.St} (h : DK w0 w g s) (hb : Below w.heap.size w w') : DK w0 w' g s := by
  obtain ⟨S, h1, h2, h3⟩ := h
  exact ⟨S, h1.below hb, h2, bt h3 hb⟩
theorem DK.alloc {w0 w : World} {g : Nat} {s : C.St} (h : DK w0 w g s) (o : Obj) : DK w0 (w.alloc o) g s := h.below (below_new _ _)
theorem DK.drewN {w0 w : World} {g : Nat} {s : C.St} (h : DK w0 w g s) (n : Nat) : DK w0 (w.drewN n) g s := h.below ⟨rfl, rfl, rfl, Nat.le_refl _, fun _ _ => rfl⟩
theorem dk_turn {w0 w w' : World} {g : Nat} {s' : C.St} {S : Nat → Prop} (h2 : ∀ b, S b → w0.heap.size ≤ b) (h3 : Below w0.heap.size w0 w) (hd : Disk w' g (Ext w w' S) s') (ht : Turn w w' S) : DK w0 w' g s' :=
  ⟨_, hd, fun b hb => by
    rcases hb with h | h
    · exact h2 b h
    · exact Nat.le_trans h3.size h.1, h3.trans (ht.below h3.size h2)⟩
theorem dk_new (room : Nat) (w0 w : World) (hb : Below w0.heap.size w0 w) (h : 64 ≤ room ∧ room ≤ 1048576) :
    Calls Try.prog 9 #[.int .i64 (room : Nat)] w fun e w' => ∃ g, e = .returned (.tuple #[.pointer (some ⟨g, 0, none⟩), .int .i64 0]) ∧ DK w0 w' g (C.newS room) ∧ Below w.heap.size w w' :=
  (new_any room w h).mono fun e w' ⟨⟨g, he, S, h1, h2⟩, h3⟩ => ⟨g, he, ⟨S, h1, fun b hb' => Nat.le_trans hb.size (h2 b hb'), bt hb h3⟩, h3⟩
theorem dk_append (w0 w : World) (g : Nat) (s : C.St) (f : Nat) (p : Option Addr) (n : Nat) (l : List UInt8) (cap : Nat) (h : DK w0 w g s) (hn : n = l.length) (hx : Part.ok w ⟨p, l, cap⟩) (hr : refE s f = 0) (hu : C.used s.ws + l.length ≤ s.room) (hm : s.made ≤ 1000000) :
    Calls Try.prog 10 #[.pointer (some ⟨g, 0, none⟩), .int .i64 (f : Nat), .slice p n cap] w fun e w' => e = .returned (.int .i64 0) ∧ DK w0 w' g (C.appS s f l) := by
  subst hn
  obtain ⟨S, h1, h2, h3⟩ := h
  exact (append_ok w g S s f p l cap h1 hx hr hu hm).mono fun e w' ⟨he, hd, ht⟩ => ⟨he, dk_turn h2 h3 hd ht⟩
theorem dk_crash (w0 w : World) (g : Nat) (s : C.St) (keep torn : Int) (h : DK w0 w g s) (hm : s.made ≤ 1000000) (hk1 : -9223372036854775808 ≤ keep) (hk2 : keep ≤ 9223372036854775807) (ht1 : -9223372036854775808 ≤ torn) (ht2 : torn ≤ 9223372036854775807) :
    Calls Try.prog 15 #[.pointer (some ⟨g, 0, none⟩), .int .i64 keep, .int .i64 torn] w fun e w' => e = .returned (.tuple #[]) ∧ DK w0 w' g (C.crashS s keep torn) := by
  obtain ⟨S, h1, h2, h3⟩ := h
  exact (crash_any w g S s keep torn h1 hm hk1 hk2 ht1 ht2).mono fun e w' ⟨he, hd, ht⟩ => ⟨he, dk_turn h2 h3 hd ht⟩
theorem dk_on (w0 w : World) (g : Nat) (s : C.St) (h : DK w0 w g s) (hl : s.lives ≤ 1000000) :
    Calls Try.prog 16 #[.pointer (some ⟨g, 0, none⟩)] w fun e w' => e = .returned (.tuple #[]) ∧ DK w0 w' g (C.onS s) := by
  obtain ⟨S, h1, h2, h3⟩ := h
  exact (on_any w g S s h1 hl).mono fun e w' ⟨he, hd, ht⟩ => ⟨he, S, hd, h2, h3.trans (ht.below h3.size h2)⟩
theorem dk_read (w0 w : World) (g : Nat) (s : C.St) (f : Int) (er : Int) (l : List UInt8) (h : DK w0 w g s) (he : readE s f = er) (hl : readB s f = l) :
    Calls Try.prog 13 #[.pointer (some ⟨g, 0, none⟩), .int .i64 f] w fun e w' => (∃ p n c, e = .returned (.tuple #[.slice p n c, .int .i64 er]) ∧ Is w' p n c l) ∧ DK w0 w' g s ∧ Below w.heap.size w w' := by
  subst he hl
  have hd := h
  obtain ⟨S, h1, h2, h3⟩ := h
  refine (read_any w g S s f h1).mono ?_
  rintro e w' ⟨⟨v, rfl, ho⟩, hb⟩
  obtain ⟨p, n, c, rfl, hi⟩ := Own.is ho
  exact ⟨⟨p, n, c, rfl, hi⟩, hd.below hb, hb⟩
theorem dk_lives (w0 w : World) (g : Nat) (s : C.St) (n : Nat) (h : DK w0 w g s) (hn : s.lives = n) :
    Calls Try.prog 28 #[.pointer (some ⟨g, 0, none⟩)] w fun e w' => e = .returned (.int .i64 (n : Nat)) ∧ w' = w := by
  subst hn; obtain ⟨S, h1, _⟩ := h; exact lives_any w g S s h1
theorem dk_power (w0 w : World) (g : Nat) (s : C.St) (p : Bool) (h : DK w0 w g s) (hp : (!s.off) = p) :
    Calls Try.prog 27 #[.pointer (some ⟨g, 0, none⟩)] w fun e w' => e = .returned (.bool p) ∧ w' = w := by
  subst hp; obtain ⟨S, h1, _⟩ := h; exact power_any w g S s h1
/-- A store into a block that is none of the disk's, and made since w0. -/
theorem dk_store {w0 w : World} {g : Nat} {s : C.St} {S : Nat → Prop} (hd : Disk w g S s) (h2 : ∀ b, S b → w0.heap.size ≤ b) (h3 : Below w0.heap.size w0 w) {b o : Nat} (hb : ¬ S b) (hge : w0.heap.size ≤ b) (v : Value) : DK w0 (w.setCell ⟨b, o, none⟩ v) g s :=
  ⟨S, hd.turn (T := fun x => x = b) (Turn.setCell (S := fun x => x = b) (Turn.refl w _) rfl v) (fun x hx e => hb (by rw [← e]; exact hx)), h2, h3.setCell hge v⟩
/-- .. with the row that was read. -/
theorem dk_read_own (w0 w : World) (g : Nat) (s : C.St) (f : Int) (er : Int) (l : List UInt8) (h : DK w0 w g s) (he : readE s f = er) (hl : readB s f = l) :
    Calls Try.prog 13 #[.pointer (some ⟨g, 0, none⟩), .int .i64 f] w fun e w' => ∃ v S, e = .returned (.tuple #[v, .int .i64 er]) ∧ Own w' w.heap.size v l ∧ Disk w' g S s ∧ (∀ b, S b → w0.heap.size ≤ b ∧ b < w.heap.size) ∧ Below w0.heap.size w0 w' ∧ w0.heap.size ≤ w.heap.size := by
  subst he hl
  obtain ⟨S, h1, h2, h3⟩ := h
  refine (read_any w g S s f h1).mono ?_
  rintro e w' ⟨⟨v, rfl, ho⟩, hb⟩
  exact ⟨v, S, rfl, ho, h1.below hb, fun b hb' => ⟨h2 b hb', h1.lt hb'⟩, bt h3 hb, h3.size⟩
theorem lit_ok (w : World) (l : List UInt8) (c : Nat) (m : Nat × Nat) (hl : l.length ≤ maxLen) : Part.ok (w.alloc (.cells (l.map fun b => Value.int .u8 (b.toNat : Nat)).toArray 5 m)) ⟨some ⟨w.heap.size, 0, none⟩, l, c⟩ := ⟨hl, bat_new w l _ _⟩
def st2 : C.St := C.appS (C.appS (C.newS 64) 0 [120, 121]) 1 [122, 122]
def st4 : C.St := C.onS (C.crashS st2 1 1)
set_option maxRecDepth 100000 in
set_option maxHeartbeats 8000000 in
theorem awake_any (w : World) : Calls Try.prog 8 #[] w fun e w' => e = .returned (.bool true) ∧ Below w.heap.size w w' := by
  have kc := fun (w : World) (C : Array Value) (n c : Nat) => Lib.run_convert_bytes_const (P := Try.prog) w 28 5 C n c Try.underlying28 Try.underlying5
  go_enter Try.func8, Try.ntmps8
  go_wp2_with fail
  refine (dk_new 64 w w (Below.refl _ _) (by omega)).mono ?_
  rintro e w1 ⟨g, rfl, hd1, _⟩
  have HD1 : Hid _ := hd1
  clear hd1
  go_wp2_with fail
  refine (dk_append w _ g _ 0 _ 2 [120, 121] _ (DK.alloc HD1.out _) rfl (lit_ok _ [120, 121] _ _ (by decide)) rfl (by decide) (by decide)).mono ?_
  rintro e w2 ⟨rfl, hd2⟩
  have HD2 : Hid _ := hd2
  clear hd2 HD1
  go_wp2_with fail
  refine (dk_append w _ g _ 1 _ 2 [122, 122] _ (DK.alloc HD2.out _) rfl (lit_ok _ [122, 122] _ _ (by decide)) rfl (by decide) (by decide)).mono ?_
  rintro e w3 ⟨rfl, hd3⟩
  have HD3 : Hid (DK w w3 g st2) := hd3
  clear hd3 HD2
  go_wp2_with fail
  refine (dk_crash w _ g st2 1 1 HD3.out (by decide) (by decide) (by decide) (by decide) (by decide)).mono ?_
  rintro e w4 ⟨rfl, hd4⟩
  have HD4 : Hid (DK w w4 g (C.crashS st2 1 1)) := hd4
  clear hd4 HD3
  go_wp2_with fail
  refine (dk_read w _ g _ 0 7 [] HD4.out (by decide) (by decide)).mono ?_
  rintro e w5 ⟨⟨p5, n5, c5, rfl, hi5⟩, hd5, hb5⟩
  have HD5 : Hid (DK w w5 g (C.crashS st2 1 1)) := hd5
  clear hd5 HD4 hi5 hb5
  go_wp2_with fail
  refine (dk_on w _ g _ HD5.out (by decide)).mono ?_
  rintro e w6 ⟨rfl, hd6⟩
  have HD6 : Hid (DK w w6 g st4) := hd6
  clear hd6 HD5
  go_wp2_with fail
  refine (dk_read w _ g _ 0 0 [120, 121] HD6.out (by decide) (by decide)).mono ?_
  rintro e w7 ⟨⟨p7, n7, c7, rfl, hi7⟩, hd7, hb7⟩
  have HD7 : Hid (DK w w7 g st4) := hd7
  have HI7 : Hid _ := hi7
  clear hd7 HD6 hi7 hb7
  go_wp2_with fail
  refine (dk_read w _ g _ 1 0 [122] HD7.out (by decide) (by decide)).mono ?_
  rintro e w8 ⟨⟨p8, n8, c8, rfl, hi8⟩, hd8, hb8⟩
  have HD8 : Hid (DK w w8 g st4) := hd8
  have k7 := conv_is (Is.below HI7.out hb8)
  have k8 := conv_is hi8
  clear hd8 HD7 HI7 hi8 hb8
  go_wp2_with fail
  refine (dk_lives w _ g _ 2 HD8.out (by decide)).mono ?_
  rintro e w9 ⟨rfl, hw⟩
  subst w9
  go_wp2_with fail
  refine (dk_power w _ g _ true HD8.out (by decide)).mono ?_
  rintro e w9 ⟨rfl, hw⟩
  subst w9
  go_wp2
  go_ret
  exact ⟨rfl, DK.bel HD8.out⟩
end Go.Proofs.Ytlfcpgncgldieaa
