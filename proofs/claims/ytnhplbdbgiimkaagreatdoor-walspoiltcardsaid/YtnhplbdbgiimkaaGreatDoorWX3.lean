/-
  The disk of a log that is safe: its files, read, spoilt.
-/
import Derived.Test.YtnhplbdbgiimkaaGreatDoorZ32
import Derived.Test.YtnhplbdbgiimkaaGreatDoorLSpoilt
namespace Go.Proofs.YtnhplbdbgiimkaaGreatDoor
open Go.RowKit Go.Lib
set_option linter.unusedVariables false

/-- The disk of a log of which nothing is torn. -/
structure SX (w0 w : World) (d : Nat) (S : Nat → Prop) (s : C.St) (a : Nat) (G : List C.Gr) : Prop where
  disk : Disk w d S s
  log : C.LogW s a G
  clean : C.Clean G
  off : s.off = false
  made : s.made ≤ 100000
  new : ∀ b, S b → w0.heap.size ≤ b
  bel : Below w0.heap.size w0 w
theorem LX.sx {w0 w : World} {d gl part : Nat} {S : Nat → Prop} {a : Nat} {base : List UInt8} {recs : List (List UInt8)} {n M k lv room : Nat} (h : LX w0 w d gl part S a base recs n M k lv room True) (hM : M ≤ 100000) : ∃ T s G, SX w0 w d T s a G := by
  obtain ⟨c, s, G, rfl, h2, h3, h4, h5, h6, hcl, h7, h8⟩ := h
  obtain ⟨Sl, Sd, dl, hL, hD, hSl, hSd, hne, hun, hdl, hdm⟩ := h3.sets
  exact ⟨Sd, s, G, hD, h3.log, hcl trivial, h3.off, Nat.le_trans h3.bud.made hM, fun b hb => h7 b (hSd b hb), h8⟩
theorem SX.below {w0 w w' : World} {d : Nat} {S : Nat → Prop} {s : C.St} {a : Nat} {G : List C.Gr} (h : SX w0 w d S s a G) (hb : Below w.heap.size w w') : SX w0 w' d S s a G :=
  ⟨h.disk.below hb, h.log, h.clean, h.off, h.made, h.new, bt h.bel hb⟩
set_option maxRecDepth 100000 in
theorem sx_files (w0 w : World) (d : Nat) (S : Nat → Prop) (s : C.St) (a : Nat) (G : List C.Gr) (h : SX w0 w d S s a G) :
    Calls Tryz.prog 22 #[.pointer (some ⟨d, 0, none⟩)] w fun e w' => (∃ p c, e = .returned (.slice p (C.fs s).length c) ∧ (∀ a, p = some a → w.heap.size ≤ a.block) ∧ ∀ W, Below w'.heap.size w' W → ∀ i (f : Nat), (C.fs s)[i]? = some f → ∃ b o, p = some ⟨b, o, none⟩ ∧ W.cell? ⟨b, o + i, none⟩ = some (.int .i64 (f : Nat))) ∧ Below w.heap.size w w' := by
  refine (files_any w d S s h.disk (Nat.le_trans h.made (by decide))).mono ?_
  rintro e w' ⟨⟨p, n, c, rfl, hn, hz, hge⟩, hb⟩
  rw [files_fs h.off] at hn hz
  rw [List.length_map] at hn
  subst hn
  refine ⟨⟨p, c, rfl, hge, fun W hW i f hi => ?_⟩, hb⟩
  have hil : i < (C.fs s).length := (List.getElem?_eq_some_iff.1 hi).1
  obtain ⟨b, o, hp, hc⟩ := (hz.below hW) (by rw [List.length_map]; omega)
  refine ⟨b, o, hp, ?_⟩
  have h1 := hc i (by rw [List.length_map]; exact hil)
  have h2 : ((C.fs s).map fun k : Nat => (k : Int)).getD i 0 = (f : Int) := by
    rw [List.getD, List.getElem?_map, hi]; rfl
  rw [h2] at h1
  exact h1
theorem sx_read (w0 w : World) (d : Nat) (S : Nat → Prop) (s : C.St) (a : Nat) (G : List C.Gr) (h : SX w0 w d S s a G) {i f : Nat} (hi : (C.fs s)[i]? = some f) :
    Calls Tryz.prog 23 #[.pointer (some ⟨d, 0, none⟩), .int .i64 (f : Nat)] w fun e w' => (∃ p c, e = .returned (.tuple #[.slice p (C.dat s.ws f).length c, .int .i64 0]) ∧ (C.dat s.ws f).length ≤ 1048576) ∧ Below w.heap.size w w' := by
  obtain ⟨h1, h2⟩ := C.fs_mem (List.mem_of_getElem? hi)
  obtain ⟨h3, h4⟩ := read_fs h.off h1 h2
  refine (read_any w d S s (f : Nat) h.disk).mono ?_
  rintro e w' ⟨⟨v, rfl, ho⟩, hb⟩
  rw [h3]
  rw [h4] at ho
  obtain ⟨p, c, rfl, -⟩ := Own.part ho
  exact ⟨⟨p, c, rfl, by
    have := C.dat_le s.ws f
    have := h.disk.ok.used
    have := h.disk.ok.room
    omega⟩, hb⟩
theorem sx_no (w0 w : World) (d : Nat) (S : Nat → Prop) (s : C.St) (a : Nat) (G : List C.Gr) (h : SX w0 w d S s a G) (f i : Nat) {v : UInt8} (hv : v.toNat = 0) :
    Calls Tryz.prog 24 #[.pointer (some ⟨d, 0, none⟩), .int .i64 (f : Nat), .int .i64 (i : Nat), .int .u8 (v.toNat : Nat)] w fun e w' => e = .returned (.bool false) ∧ w' = w :=
  spoil_no w d S s f i v h.disk (Or.inr (Or.inr (Or.inr hv)))
theorem sx_spoil (w0 w : World) (d : Nat) (S : Nat → Prop) (s : C.St) (a : Nat) (G : List C.Gr) (h : SX w0 w d S s a G) {j f i : Nat} {v : UInt8} (hj : (C.fs s)[j]? = some f) (hi : i < (C.dat s.ws f).length) (hv : v.toNat ≠ 0) :
    Calls Tryz.prog 24 #[.pointer (some ⟨d, 0, none⟩), .int .i64 (f : Nat), .int .i64 (i : Nat), .int .u8 (v.toNat : Nat)] w fun e w' => e = .returned (.bool true) ∧ Turn w w' S ∧ Below w0.heap.size w0 w' ∧ ∀ (part : Nat), 1 ≤ part ∧ part ≤ 1000 → Tabs w0 → Calls Tryz.prog 11 #[.pointer (some ⟨d, 0, none⟩), .int .i64 (part : Nat)] w' fun e w' => e = .returned (.tuple #[.pointer none, .int .i64 3]) ∧ Below w0.heap.size w0 w' := by
  obtain ⟨h1, h2⟩ := C.fs_mem (List.mem_of_getElem? hj)
  have hr : refE s (f : Nat) = 0 := by
    unfold refE
    rw [if_neg (by rw [h.off]; decide), if_neg (by omega)]
  refine (spoil_ok w d S s f i v h.disk hr h2 hi hv).mono ?_
  rintro e w' ⟨rfl, hd, ht⟩
  have hb : Below w0.heap.size w0 w' := h.bel.trans (ht.below h.bel.size h.new)
  refine ⟨rfl, ht, hb, fun part hp hT => ?_⟩
  have hv0 : v ≠ 0 := fun e => hv (by rw [e]; rfl)
  obtain ⟨pc, h3, h4⟩ := h.log.spoilt h.clean h2 h1 hi hv0
  refine (open_form w' d S (C.spoS s f i v) part pc hd (hT.below hb) (Nat.le_trans h.made (by decide)) hp h.off h3 h4).mono ?_
  rintro e w2 ⟨rfl, hb2⟩
  exact ⟨rfl, bt hb hb2⟩
end Go.Proofs.YtnhplbdbgiimkaaGreatDoor
