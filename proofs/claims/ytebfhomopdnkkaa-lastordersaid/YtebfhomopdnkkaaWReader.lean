/-
  pack.Reader: as it lies; spoil, Bad, End, Num, take, Bytes, Text, Read.
-/
import Derived.Test.YtebfhomopdnkkaaWFirst
namespace Go.Proofs.Ytebfhomopdnkkaa
open Go.RowKit Go.Lib
set_option linter.unusedVariables false

/-- A block that holds no byte. -/
def NB (w : World) (g : Nat) : Prop := ∀ o x, w.cell? ⟨g, o, none⟩ ≠ some (.int .u8 x)
theorem BAt.grown {w w' : World} {p : Option Addr} {l : List UInt8} {g : Nat} (h : BAt w p l) (hg : w.grownBy w' (some g)) (hn : NB w g) : BAt w' p l := fun hl => by
  obtain ⟨b, o, hp, hc⟩ := h hl
  refine ⟨b, o, hp, fun i hi => ?_⟩
  refine World.grownBy.cell hg (hc i hi) ?_
  intro e
  cases e
  exact hn _ _ (hc i hi)
theorem Is.grown {w w' : World} {p : Option Addr} {n c : Nat} {l : List UInt8} {g : Nat} (h : Is w p n c l) (hg : w.grownBy w' (some g)) (hn : NB w g) : Is w' p n c l := ⟨h.1, h.2.1, h.2.2.grown hg hn⟩
theorem gtrans {A B C : World} {g : Nat} (h : A.grownBy B (some g)) (k : B.grownBy C (some g)) : A.grownBy C (some g) :=
  ⟨k.os.trans h.os, k.tape.trans h.tape, k.output.trans h.output, Nat.le_trans h.size k.size, fun i hi hne => (k.block i (Nat.lt_of_lt_of_le hi h.size) hne).trans (h.block i hi hne)⟩
theorem gbelow {A B : World} {r : Option Nat} (h : Below A.heap.size A B) : A.grownBy B r := ⟨h.os, h.tape, h.output, h.size, fun i hi _ => h.block i hi⟩
/-- A reader at block g: none: it is bad. -/
structure Rd (w : World) (g : Nat) (s : Option (List UInt8)) (p : Option Addr) (n c : Nat) : Prop where
  blk : w.heap[g]? = some (.cells #[.slice p n c, .bool s.isNone] 64)
  is : Is w p n c (s.getD [])
  nc : n ≤ c
  cm : c ≤ maxLen
  pa : (p = none ∧ c = 0) ∨ ∃ b o, p = some ⟨b, o, none⟩
theorem Rd.lt {w : World} {g : Nat} {s : Option (List UInt8)} {p : Option Addr} {n c : Nat} (h : Rd w g s p n c) : g < w.heap.size := (Array.getElem?_eq_some_iff.1 h.blk).1
theorem Rd.c0 {w : World} {g : Nat} {s : Option (List UInt8)} {p : Option Addr} {n c : Nat} (h : Rd w g s p n c) : w.cell? ⟨g, 0, none⟩ = some (.slice p n c) := by
  simp [World.cell?, h.blk]
theorem Rd.c1 {w : World} {g : Nat} {s : Option (List UInt8)} {p : Option Addr} {n c : Nat} (h : Rd w g s p n c) : w.cell? ⟨g, 1, none⟩ = some (.bool s.isNone) := by
  simp [World.cell?, h.blk]
theorem Rd.fz {w : World} {g : Nat} {s : Option (List UInt8)} {p : Option Addr} {n c : Nat} (h : Rd w g s p n c) (o : Nat) : w.frozen? ⟨g, o, none⟩ = false := by
  simp [World.frozen?, h.blk]
theorem Rd.nb {w : World} {g : Nat} {s : Option (List UInt8)} {p : Option Addr} {n c : Nat} (h : Rd w g s p n c) : NB w g := by
  intro o x
  simp only [World.cell?, h.blk]
  rcases o with _ | _ | o <;> simp
/-- Another block is written: the reader stands. -/
theorem Rd.kept {w w' : World} {g k : Nat} {s : Option (List UInt8)} {p : Option Addr} {n c : Nat} (h : Rd w g s p n c) (hg : w.grownBy w' (some k)) (hn : NB w k) (hne : g ≠ k) : Rd w' g s p n c :=
  ⟨by rw [hg.block g h.lt (fun e => hne (by cases e; rfl))]; exact h.blk, h.is.grown hg hn, h.nc, h.cm, h.pa⟩
theorem Rd.below {w w' : World} {g : Nat} {s : Option (List UInt8)} {p : Option Addr} {n c : Nat} (h : Rd w g s p n c) (hb : Below w.heap.size w w') : Rd w' g s p n c :=
  ⟨by rw [hb.block g h.lt]; exact h.blk, h.is.below hb, h.nc, h.cm, h.pa⟩
theorem set_grown (w : World) (g o : Nat) (v : Value) : w.grownBy (w.setCell ⟨g, o, none⟩ v) (some g) :=
  ⟨rfl, rfl, rfl, by simp [World.setCell], fun k hk hne => Below.heap_setCell _ _ _ _ (fun e => hne (by rw [e]))⟩
theorem set_block {w : World} {g o : Nat} {v : Value} {cs : Array Value} {t : TypeId} {m : Nat × Nat} (h : w.heap[g]? = some (.cells cs t m)) : (w.setCell ⟨g, o, none⟩ v).heap[g]? = some (.cells (cs.setIfInBounds o v) t m) := by
  simp [World.setCell, Array.getElem?_modify, h]
set_option maxHeartbeats 1000000 in
theorem spoil_any (w : World) (g : Nat) (s : Option (List UInt8)) (p : Option Addr) (n c : Nat) (h : Rd w g s p n c) :
    Calls Try.prog 45 #[.pointer (some ⟨g, 0, none⟩)] w fun e w' => e = .returned (.tuple #[]) ∧ Rd w' g none none 0 0 ∧ w.grownBy w' (some g) := by
  have h0 := h.c0
  have h1 := h.c1
  have f0 := h.fz 0
  have f1 := h.fz 1
  have H : Hid _ := h
  clear h
  go_enter Try.func45, Try.ntmps45
  go_wp2
  go_end0
  have b1 := set_block (o := 0) (v := .slice none 0 0) (set_block (o := 1) (v := .bool true) H.out.blk)
  exact ⟨rfl, ⟨b1, Is.nil _, Nat.le_refl _, Nat.zero_le _, Or.inl ⟨rfl, rfl⟩⟩, gtrans (set_grown _ _ _ _) (set_grown _ _ _ _)⟩
theorem rnum_all (s : Option (List UInt8)) (a b : Int) : C.rnum s a b = if (C.fst (s.getD [])).2 = 0 ∨ (C.fst (s.getD [])).1 < a ∨ b < (C.fst (s.getD [])).1 then (0, none) else ((C.fst (s.getD [])).1, some ((s.getD []).drop (C.fst (s.getD [])).2)) := by
  cases s with
  | none => simp only [C.rnum, Option.getD_none]; rw [if_pos (Or.inl (show (C.fst []).2 = 0 from rfl))]
  | some l => rfl
theorem Is.drop {w : World} {b o n c : Nat} {l : List UInt8} (h : Is w (some ⟨b, o, none⟩) n c l) (k c' : Nat) : Is w (some ⟨b, o + k, none⟩) (n - k) c' (l.drop k) := by
  refine ⟨by rw [List.length_drop, h.1], by have := h.2.1; simp only [List.length_drop] at *; omega, fun hl => ?_⟩
  simp only [List.length_drop] at hl
  obtain ⟨b', o', hp, hc⟩ := h.2.2 (show 0 < l.length by omega)
  cases hp
  refine ⟨b, o + k, rfl, fun i hi => ?_⟩
  simp only [List.length_drop] at hi
  rw [Nat.add_assoc, hc (k + i) (show k + i < l.length by omega)]
  simp [List.getD]
theorem Is.drop_all {w : World} {p : Option Addr} {n c : Nat} {l : List UInt8} (h : Is w p n c l) (k c' : Nat) (hk : n ≤ k) : Is w p (n - k) c' (l.drop k) := by
  have hl : l.drop k = [] := List.drop_of_length_le (by rw [← h.1]; exact hk)
  rw [hl]
  exact ⟨by simp; omega, Nat.zero_le _, BAt.nil _ _⟩
theorem Is.take {w : World} {p : Option Addr} {n c : Nat} {l : List UInt8} (h : Is w p n c l) (k c' : Nat) (hk : k ≤ n) : Is w p k c' (l.take k) := by
  refine ⟨by rw [List.length_take, ← h.1]; omega, by have := h.2.1; simp only [List.length_take] at *; omega, fun hl => ?_⟩
  simp only [List.length_take] at hl
  obtain ⟨b', o', hp, hc⟩ := h.2.2 (show 0 < l.length by omega)
  refine ⟨b', o', hp, fun i hi => ?_⟩
  simp only [List.length_take] at hi
  rw [hc i (show i < l.length by omega)]
  simp [List.getD, show i < k by omega]
theorem Is.addr {w : World} {p : Option Addr} {n c : Nat} {l : List UInt8} (h : Is w p n c l) (hn : 0 < n) : ∃ b o, p = some ⟨b, o, none⟩ := by
  obtain ⟨b, o, hp, _⟩ := h.2.2 (by rw [← h.1]; exact hn)
  exact ⟨b, o, hp⟩
theorem first_at (p : Option Addr) (n c : Nat) (l : List UInt8) (v : Int) (k : Nat) (w : World) (hi : Is w p n c l) (hl : l.length ≤ 100000) (h : C.fst l = (v, k)) :
    Calls Try.prog 44 #[.slice p n c] w fun e w' => e = .returned (.tuple #[.int .i64 v, .int .i64 (k : Nat)]) ∧ w' = w := by
  have := first_any p n c l w hi hl
  rw [h] at this
  exact this
set_option maxHeartbeats 4000000 in
theorem rnum_bad (w : World) (g : Nat) (s : Option (List UInt8)) (p : Option Addr) (n c : Nat) (a b v : Int) (k : Nat) (h : Rd w g s p n c) (hl : (s.getD []).length ≤ 100000) (hvk : C.fst (s.getD []) = (v, k)) (hbad : k = 0 ∨ v < a ∨ b < v) :
    Calls Try.prog 28 #[.pointer (some ⟨g, 0, none⟩), .int .i64 a, .int .i64 b] w fun e w' => e = .returned (.int .i64 0) ∧ Rd w' g none none 0 0 ∧ w.grownBy w' (some g) := by
  have h0 := h.c0
  have h1 := h.c1
  have f0 := h.fz 0
  have f1 := h.fz 1
  have H : Hid _ := h
  have HL : Hid _ := hl
  have HV : Hid _ := hvk
  clear h hl hvk
  by_cases hk : k = 0
  · subst hk
    clear hbad
    go_enter Try.func28, Try.ntmps28
    go_wp2_with fail
    refine (first_at p n c _ v 0 w H.out.is HL.out HV.out).mono ?_
    rintro e w1 ⟨rfl, hw1⟩
    subst w1
    go_wp2_with fail
    refine (spoil_any w g _ _ _ _ H.out).mono ?_
    rintro e w2 ⟨rfl, hr2, hg2⟩
    have HR2 : Hid _ := hr2
    clear hr2
    go_wp2
    go_ret
    exact ⟨rfl, HR2.out, hg2⟩
  have hk' : ¬ ((k : Int) = 0) := by omega
  by_cases hva : v < a
  · clear hbad
    go_enter Try.func28, Try.ntmps28
    go_wp2_with fail
    refine (first_at p n c _ v k w H.out.is HL.out HV.out).mono ?_
    rintro e w1 ⟨rfl, hw1⟩
    subst w1
    go_wp2_with fail
    refine (spoil_any w g _ _ _ _ H.out).mono ?_
    rintro e w2 ⟨rfl, hr2, hg2⟩
    have HR2 : Hid _ := hr2
    clear hr2
    go_wp2
    go_ret
    exact ⟨rfl, HR2.out, hg2⟩
  have hvb : b < v := by omega
  clear hbad
  go_enter Try.func28, Try.ntmps28
  go_wp2_with fail
  refine (first_at p n c _ v k w H.out.is HL.out HV.out).mono ?_
  rintro e w1 ⟨rfl, hw1⟩
  subst w1
  go_wp2_with fail
  refine (spoil_any w g _ _ _ _ H.out).mono ?_
  rintro e w2 ⟨rfl, hr2, hg2⟩
  have HR2 : Hid _ := hr2
  clear hr2
  go_wp2
  go_ret
  exact ⟨rfl, HR2.out, hg2⟩
set_option maxHeartbeats 4000000 in
theorem rnum_ok (w : World) (g : Nat) (l : List UInt8) (p : Option Addr) (n c : Nat) (a b v : Int) (k : Nat) (h : Rd w g (some l) p n c) (hl : l.length ≤ 100000) (hvk : C.fst l = (v, k)) (hk : k ≠ 0) (ha : a ≤ v) (hb : v ≤ b) :
    Calls Try.prog 28 #[.pointer (some ⟨g, 0, none⟩), .int .i64 a, .int .i64 b] w fun e w' => e = .returned (.int .i64 v) ∧ (∃ p' n' c', Rd w' g (some (l.drop k)) p' n' c') ∧ w.grownBy w' (some g) := by
  have h0 := h.c0
  have h1 := h.c1
  have f0 := h.fz 0
  have f1 := h.fz 1
  have H : Hid _ := h
  have HL : Hid _ := hl
  have HV : Hid _ := hvk
  have hnl : n = l.length := h.is.1
  have hF := C.fst_le l
  rw [hvk] at hF
  have hkn : k ≤ n := by have := hF.2.1; simp only at this; omega
  have hcm : c ≤ 9223372036854775807 := Nat.le_trans h.cm (by decide)
  have hnc := h.nc
  obtain ⟨bb, o, rfl⟩ := Is.addr h.is (by omega)
  have hd0 : ((k : Int) == 0) = false := by simpa using hk
  have hd1 : decide (v < a) = false := by simpa using ha
  have hd2 : decide (b < v) = false := by simpa using hb
  clear h hl hvk hF hnl
  by_cases hck : c = k
  · have HX : Hid (∀ w', Is w' (some ⟨bb, o, none⟩) n c l → Is w' (some ⟨bb, o, none⟩) 0 0 (l.drop k)) := fun w' h' => by
      have := Is.drop_all h' k 0 (by omega)
      rw [show n - k = 0 by omega] at this; exact this
    subst hck
    go_enter Try.func28, Try.ntmps28
    go_wp2_with fail
    refine (first_at _ n _ _ v _ w H.out.is HL.out HV.out).mono ?_
    rintro e w1 ⟨rfl, hw1⟩
    subst w1
    go_wp2
    go_ret
    refine ⟨rfl, ⟨_, 0, 0, set_block (o := 0) (v := .slice (some ⟨bb, o, none⟩) 0 0) H.out.blk, ?_, Nat.le_refl _, Nat.zero_le _, Or.inr ⟨_, _, rfl⟩⟩, set_grown _ _ _ _⟩
    exact HX.out _ (Is.grown H.out.is (set_grown _ _ _ _) H.out.nb)
  · have HX : Hid (∀ w', Is w' (some ⟨bb, o, none⟩) n c l → Is w' (some ⟨bb, o + k, none⟩) (n - k) (c - k) (l.drop k)) := fun w' h' => Is.drop h' k _
    go_enter Try.func28, Try.ntmps28
    go_wp2_with fail
    refine (first_at _ n c _ v k w H.out.is HL.out HV.out).mono ?_
    rintro e w1 ⟨rfl, hw1⟩
    subst w1
    go_wp2
    go_ret
    refine ⟨rfl, ⟨_, n - k, c - k, set_block (o := 0) (v := .slice (some ⟨bb, o + k, none⟩) (n - k) (c - k)) H.out.blk, ?_, by omega, by have := H.out.cm; omega, Or.inr ⟨_, _, rfl⟩⟩, set_grown _ _ _ _⟩
    exact HX.out _ (Is.grown H.out.is (set_grown _ _ _ _) H.out.nb)
theorem rnum_any (w : World) (g : Nat) (s : Option (List UInt8)) (p : Option Addr) (n c : Nat) (a b : Int) (h : Rd w g s p n c) (hl : (s.getD []).length ≤ 100000) :
    Calls Try.prog 28 #[.pointer (some ⟨g, 0, none⟩), .int .i64 a, .int .i64 b] w fun e w' => e = .returned (.int .i64 (C.rnum s a b).1) ∧ (∃ p' n' c', Rd w' g (C.rnum s a b).2 p' n' c') ∧ w.grownBy w' (some g) := by
  rw [rnum_all]
  obtain ⟨v, k, hvk⟩ : ∃ v k, C.fst (s.getD []) = (v, k) := ⟨_, _, rfl⟩
  by_cases hbad : k = 0 ∨ v < a ∨ b < v
  · rw [hvk, if_pos hbad]
    exact (rnum_bad w g s p n c a b v k h hl hvk hbad).mono fun e w' ⟨h1, h2, h3⟩ => ⟨h1, ⟨_, _, _, h2⟩, h3⟩
  · rw [hvk, if_neg hbad]
    cases s with
    | none =>
      have : C.fst [] = (0, 0) := rfl
      simp only [Option.getD_none, this, Prod.mk.injEq] at hvk
      omega
    | some l => exact rnum_ok w g l p n c a b v k h hl hvk (by omega) (by omega) (by omega)
end Go.Proofs.Ytebfhomopdnkkaa
