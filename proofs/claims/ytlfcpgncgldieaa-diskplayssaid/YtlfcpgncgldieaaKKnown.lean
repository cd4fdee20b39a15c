/-
  DiskKnown: what chapter 5 says of files, rooms, spoilt bytes.
-/
import Derived.Test.YtlfcpgncgldieaaWSpoil
namespace Go.Proofs.Ytlfcpgncgldieaa
open Go.RowKit Go.Lib Go.Maps
open C (upd upd_same upd_other)
set_option linter.unusedVariables false

/-- A disk that the call has made, beside blocks that it leaves alone. -/
def DKK (w0 w : World) (K : Nat → Prop) (g : Nat) (s : C.St) : Prop := ∃ S, Disk w g S s ∧ (∀ b, S b → w0.heap.size ≤ b) ∧ (∀ b, K b → b < w.heap.size ∧ ¬ S b) ∧ Below w0.heap.size w0 w
theorem DK.kk {w0 w : World} {g : Nat} {s : C.St} (h : DK w0 w g s) : DKK w0 w (fun _ => False) g s := by
  obtain ⟨S, h1, h2, h3⟩ := h; exact ⟨S, h1, h2, fun _ h => h.elim, h3⟩
theorem DKK.dk {w0 w : World} {K : Nat → Prop} {g : Nat} {s : C.St} (h : DKK w0 w K g s) : DK w0 w g s := by
  obtain ⟨S, h1, h2, _, h3⟩ := h; exact ⟨S, h1, h2, h3⟩
def Kept (K : Nat → Prop) (w w' : World) : Prop := ∀ b, K b → w'.heap[b]? = w.heap[b]?
theorem dkk_ext {w0 w w' : World} {K : Nat → Prop} {g : Nat} {s' : C.St} {S : Nat → Prop} (h2 : ∀ b, S b → w0.heap.size ≤ b) (hk : ∀ b, K b → b < w.heap.size ∧ ¬ S b) (h3 : Below w0.heap.size w0 w) (hd : Disk w' g (Ext w w' S) s') (ht : Turn w w' S) : DKK w0 w' K g s' ∧ Kept K w w' :=
  ⟨⟨_, hd, fun b hb => by
    rcases hb with h | h
    · exact h2 b h
    · exact Nat.le_trans h3.size h.1, fun b hb => ⟨Nat.lt_of_lt_of_le (hk b hb).1 ht.size, fun h => by
      rcases h with h | h
      · exact (hk b hb).2 h
      · have := (hk b hb).1; omega⟩, h3.trans (ht.below h3.size h2)⟩, fun b hb => ht.block b (hk b hb).1 (hk b hb).2⟩
theorem dkk_same {w0 w w' : World} {K : Nat → Prop} {g : Nat} {s' : C.St} {S : Nat → Prop} (h2 : ∀ b, S b → w0.heap.size ≤ b) (hk : ∀ b, K b → b < w.heap.size ∧ ¬ S b) (h3 : Below w0.heap.size w0 w) (hd : Disk w' g S s') (ht : Turn w w' S) : DKK w0 w' K g s' ∧ Kept K w w' :=
  ⟨⟨S, hd, h2, fun b hb => ⟨Nat.lt_of_lt_of_le (hk b hb).1 ht.size, (hk b hb).2⟩, h3.trans (ht.below h3.size h2)⟩, fun b hb => ht.block b (hk b hb).1 (hk b hb).2⟩
theorem DKK.below {w0 w w' : World} {K : Nat → Prop} {g : Nat} {s : C.St} (h : DKK w0 w K g s) (hb : Below w.heap.size w w') : DKK w0 w' K g s ∧ Kept K w w' := by
  obtain ⟨S, h1, h2, hk, h3⟩ := h
  exact ⟨⟨S, h1.below hb, h2, fun b hb' => ⟨Nat.lt_of_lt_of_le (hk b hb').1 hb.size, (hk b hb').2⟩, bt h3 hb⟩, fun b hb' => hb.block b (hk b hb').1⟩
/-- More is kept: what was made since w. -/
theorem DKK.more {w0 w w' : World} {K K' : Nat → Prop} {g : Nat} {s : C.St} (h : DKK w0 w K g s) (hb : Below w.heap.size w w') (hK : ∀ b, K' b → w.heap.size ≤ b ∧ b < w'.heap.size) : DKK w0 w' (fun b => K b ∨ K' b) g s := by
  obtain ⟨S, h1, h2, hk, h3⟩ := h
  exact ⟨S, h1.below hb, h2, fun b hb' => by
    rcases hb' with h | h
    · exact ⟨Nat.lt_of_lt_of_le (hk b h).1 hb.size, (hk b h).2⟩
    · exact ⟨(hK b h).2, fun hs => by have := h1.lt hs; have := (hK b h).1; omega⟩, bt h3 hb⟩
theorem kk_append (w0 w : World) (K : Nat → Prop) (g : Nat) (s : C.St) (f : Nat) (p : Option Addr) (n : Nat) (l : List UInt8) (cap : Nat) (h : DKK w0 w K g s) (hn : n = l.length) (hx : Part.ok w ⟨p, l, cap⟩) (hr : refE s f = 0) (hu : C.used s.ws + l.length ≤ s.room) (hm : s.made ≤ 1000000) :
    Calls Try.prog 10 #[.pointer (some ⟨g, 0, none⟩), .int .i64 (f : Nat), .slice p n cap] w fun e w' => e = .returned (.int .i64 0) ∧ DKK w0 w' K g (C.appS s f l) ∧ Kept K w w' := by
  subst hn
  obtain ⟨S, h1, h2, hk, h3⟩ := h
  exact (append_ok w g S s f p l cap h1 hx hr hu hm).mono fun e w' ⟨he, hd, ht⟩ => ⟨he, dkk_ext h2 hk h3 hd ht⟩
theorem dk_append_bad (w0 w : World) (g : Nat) (s : C.St) (f er : Int) (p : Option Addr) (n : Nat) (l : List UInt8) (cap : Nat) (h : DK w0 w g s) (hn : n = l.length) (hl : l.length ≤ 100000000) (he : appE s f l = er) (h0 : er ≠ 0) :
    Calls Try.prog 10 #[.pointer (some ⟨g, 0, none⟩), .int .i64 f, .slice p n cap] w fun e w' => e = .returned (.int .i64 er) ∧ DK w0 w' g s := by
  subst hn he
  have hd := h
  obtain ⟨S, h1, h2, h3⟩ := h
  refine (append_bad w g S s f p l cap h1 hl h0).mono ?_
  rintro e w' ⟨he, n, rfl⟩
  exact ⟨he, hd.drewN n⟩
theorem kk_crash (w0 w : World) (K : Nat → Prop) (g : Nat) (s : C.St) (keep torn : Int) (h : DKK w0 w K g s) (hm : s.made ≤ 1000000) (hk1 : -9223372036854775808 ≤ keep) (hk2 : keep ≤ 9223372036854775807) (ht1 : -9223372036854775808 ≤ torn) (ht2 : torn ≤ 9223372036854775807) :
    Calls Try.prog 15 #[.pointer (some ⟨g, 0, none⟩), .int .i64 keep, .int .i64 torn] w fun e w' => e = .returned (.tuple #[]) ∧ DKK w0 w' K g (C.crashS s keep torn) ∧ Kept K w w' := by
  obtain ⟨S, h1, h2, hk, h3⟩ := h
  exact (crash_any w g S s keep torn h1 hm hk1 hk2 ht1 ht2).mono fun e w' ⟨he, hd, ht⟩ => ⟨he, dkk_ext h2 hk h3 hd ht⟩
theorem kk_on (w0 w : World) (K : Nat → Prop) (g : Nat) (s : C.St) (h : DKK w0 w K g s) (hl : s.lives ≤ 1000000) :
    Calls Try.prog 16 #[.pointer (some ⟨g, 0, none⟩)] w fun e w' => e = .returned (.tuple #[]) ∧ DKK w0 w' K g (C.onS s) ∧ Kept K w w' := by
  obtain ⟨S, h1, h2, hk, h3⟩ := h
  exact (on_any w g S s h1 hl).mono fun e w' ⟨he, hd, ht⟩ => ⟨he, dkk_same h2 hk h3 hd ht⟩
theorem kk_drop (w0 w : World) (K : Nat → Prop) (g : Nat) (s : C.St) (f : Nat) (h : DKK w0 w K g s) (hr : refE s f = 0) (hf : s.is f = true) :
    Calls Try.prog 17 #[.pointer (some ⟨g, 0, none⟩), .int .i64 (f : Nat)] w fun e w' => e = .returned (.int .i64 0) ∧ DKK w0 w' K g (C.dropS s f) ∧ Kept K w w' := by
  obtain ⟨S, h1, h2, hk, h3⟩ := h
  exact (drop_ok w g S s f h1 hr hf).mono fun e w' ⟨he, hd, ht⟩ => ⟨he, dkk_same h2 hk h3 hd ht⟩
theorem kk_read (w0 w : World) (K : Nat → Prop) (g : Nat) (s : C.St) (f er : Int) (l : List UInt8) (h : DKK w0 w K g s) (he : readE s f = er) (hl : readB s f = l) :
    Calls Try.prog 13 #[.pointer (some ⟨g, 0, none⟩), .int .i64 f] w fun e w' => ∃ p n c, e = .returned (.tuple #[.slice p n c, .int .i64 er]) ∧ Own w' 0 (.slice p n c) l ∧ DKK w0 w' (fun b => K b ∨ (Value.slice p n c).ownBlock = some b) g s ∧ Below w.heap.size w w' ∧ Kept K w w' := by
  subst he hl
  have hd := h
  obtain ⟨S, h1, h2, hk, h3⟩ := h
  refine (read_any w g S s f h1).mono ?_
  rintro e w' ⟨⟨v, rfl, ho⟩, hb⟩
  obtain ⟨p, n, c, rfl, _⟩ := Own.is ho
  exact ⟨p, n, c, rfl, Own.lower ho (Nat.zero_le _), hd.more hb (fun b hb' => World.ownsRow.lt ho b hb'), hb, (hd.below hb).2⟩
theorem kk_files (w0 w : World) (K : Nat → Prop) (g : Nat) (s : C.St) (l : List Int) (h : DKK w0 w K g s) (hm : s.made ≤ 1000000) (hl : filesE s = l) (h0 : 0 < l.length) :
    Calls Try.prog 14 #[.pointer (some ⟨g, 0, none⟩)] w fun e w' => ∃ b o n c, e = .returned (.slice (some ⟨b, o, none⟩) n c) ∧ n = l.length ∧ ZAt w' (some ⟨b, o, none⟩) l ∧ DKK w0 w' (fun x => K x ∨ x = b) g s ∧ Below w.heap.size w w' ∧ Kept K w w' := by
  subst hl
  have hd := h
  obtain ⟨S, h1, h2, hk, h3⟩ := h
  refine (files_any w g S s h1 hm).mono ?_
  rintro e w' ⟨⟨p, n, c, rfl, hn, hz, hge⟩, hb⟩
  obtain ⟨b, o, rfl, hc⟩ := hz h0
  exact ⟨b, o, n, c, rfl, hn, hz, hd.more hb (fun x hx => by subst hx; exact ⟨hge _ rfl, World.block_lt_of_cell? _ _ (hc 0 h0)⟩), hb, (hd.below hb).2⟩
theorem kk_files_off (w0 w : World) (K : Nat → Prop) (g : Nat) (s : C.St) (h : DKK w0 w K g s) (hm : s.made ≤ 1000000) (hl : filesE s = []) :
    Calls Try.prog 14 #[.pointer (some ⟨g, 0, none⟩)] w fun e w' => (∃ p c, e = .returned (.slice p 0 c)) ∧ DKK w0 w' K g s ∧ Kept K w w' := by
  have hd := h
  obtain ⟨S, h1, h2, hk, h3⟩ := h
  refine (files_any w g S s h1 hm).mono ?_
  rintro e w' ⟨⟨p, n, c, rfl, hn, hz, hge⟩, hb⟩
  rw [hl] at hn
  simp only [List.length_nil] at hn
  subst hn
  exact ⟨⟨p, c, rfl⟩, hd.below hb⟩
theorem dk_sync_none (w0 w : World) (g : Nat) (s : C.St) (f : Int) (h : DK w0 w g s) (hr : refE s f = 0) (hf : s.is f.toNat = false) :
    Calls Try.prog 11 #[.pointer (some ⟨g, 0, none⟩), .int .i64 f] w fun e w' => e = .returned (.int .i64 4) ∧ w' = w := by
  obtain ⟨S, h1, _⟩ := h; exact sync_none w g S s f h1 hr hf
theorem kk_drop_none (w0 w : World) (K : Nat → Prop) (g : Nat) (s : C.St) (f : Int) (h : DKK w0 w K g s) (hr : refE s f = 0) (hf : s.is f.toNat = false) :
    Calls Try.prog 17 #[.pointer (some ⟨g, 0, none⟩), .int .i64 f] w fun e w' => e = .returned (.int .i64 4) ∧ w' = w := by
  obtain ⟨S, h1, _⟩ := h; exact drop_none w g S s f h1 hr hf
theorem dk_spoil (w0 w : World) (g : Nat) (s : C.St) (f a : Nat) (b : UInt8) (y : Nat) (h : DK w0 w g s) (hy : y = b.toNat) (hr : refE s f = 0) (hf : s.is f = true) (ha : a < (C.dat s.ws f).length) (hb : b.toNat ≠ 0) :
    Calls Try.prog 12 #[.pointer (some ⟨g, 0, none⟩), .int .i64 (f : Nat), .int .i64 (a : Nat), .int .u8 (y : Nat)] w fun e w' => e = .returned (.bool true) ∧ DK w0 w' g (C.spoS s f a b) := by
  subst hy
  obtain ⟨S, h1, h2, h3⟩ := h
  exact (spoil_ok w g S s f a b h1 hr hf ha hb).mono fun e w' ⟨he, hd, ht⟩ => ⟨he, S, hd, h2, h3.trans (ht.below h3.size h2)⟩
theorem dk_spoil_no (w0 w : World) (g : Nat) (s : C.St) (f a : Int) (b : UInt8) (y : Nat) (h : DK w0 w g s) (hy : y = b.toNat) (hn : spoN s f a b) :
    Calls Try.prog 12 #[.pointer (some ⟨g, 0, none⟩), .int .i64 f, .int .i64 a, .int .u8 (y : Nat)] w fun e w' => e = .returned (.bool false) ∧ w' = w := by
  subst hy
  obtain ⟨S, h1, _⟩ := h; exact spoil_no w g S s f a b h1 hn
def kn1 : C.St := C.syncS (C.appS (C.newS 64) 9 [97, 98, 99]) 9
def kn2 : C.St := C.spoS kn1 9 1 1
def kn3 : C.St := C.appS kn2 2 []
def kn4 : C.St := C.onS (C.crashS kn3 0 0)
def kn5 : C.St := C.dropS kn4 9
theorem kn_b2 : readB kn2 9 = [97, 99, 99] ∧ readE kn2 9 = 0 := by decide +kernel
theorem kn_b4 : readB kn4 9 = [97, 99, 99] ∧ readE kn4 9 = 0 := by decide +kernel
theorem kn_f3 : filesE kn3 = [2, 9] := by decide +kernel
theorem kn_f3c : filesE (C.crashS kn3 0 0) = [] := by decide +kernel
theorem kn_f5 : filesE kn5 = [2] := by decide +kernel
end Go.Proofs.Ytlfcpgncgldieaa
