/-
  dots.Dots.Put.
-/
import Derived.Test.YtoglhhoniojbaaaTArg
import Derived.Deep.RegionHeldLaw
namespace Go.Proofs.Ytoglhhoniojbaaa
open Go.RowKit Go.Lib
set_option linter.unusedVariables false

namespace C
def dbytes (l : List Dt) : List UInt8 := l.flatMap fun d => num d.1 ++ num d.2
def sbytes (s : Ds) : List UInt8 := vbytes s.c ++ (num (s.l.length : Nat) ++ dbytes s.l)
theorem dbytes_snoc (l : List Dt) (x : Dt) : dbytes (l ++ [x]) = dbytes l ++ (num x.1 ++ num x.2) := by simp [dbytes]
theorem may_fits {d : Dt} (h : may d = true) : fits d.1 ∧ fits d.2 := by
  have := (may_iff d).1 h
  unfold fits
  omega
theorem dbytes_len : ∀ (l : List Dt), (∀ d ∈ l, may d = true) → (dbytes l).length ≤ l.length * 20
  | [], _ => Nat.le_refl _
  | d :: t, h => by
    have e : dbytes (d :: t) = num d.1 ++ num d.2 ++ dbytes t := rfl
    have := dbytes_len t fun x hx => h x (List.mem_cons_of_mem _ hx)
    obtain ⟨h1, h2⟩ := may_fits (h d (List.mem_cons_self ..))
    have := (num_ten h1).2
    have := (num_ten h2).2
    rw [e]; simp only [List.length_append, List.length_cons]; omega
theorem vbytes_len {c : V7} (h : fits7 c) : (vbytes c).length ≤ 70 := by
  obtain ⟨h0, h1, h2, h3, h4, h5, h6⟩ := h
  have := (num_ten h0).2; have := (num_ten h1).2; have := (num_ten h2).2; have := (num_ten h3).2; have := (num_ten h4).2; have := (num_ten h5).2; have := (num_ten h6).2
  unfold vbytes
  simp only [List.length_append]
  omega
end C
set_option maxHeartbeats 1000000 in
theorem num_own (pb : Option Addr) (nb cb : Nat) (lb l' : List UInt8) (v : Int) (w : World) (hb : Is w pb nb cb lb) (hv : C.fits v) (hl : lb.length ≤ 90000) (hl' : l' = lb ++ C.num v) :
    Calls Try.prog 51 #[.slice pb nb cb, .int .i64 v] w fun e w' => (∃ x, e = .returned x ∧ Own w' w.heap.size x l') ∧ Below w.heap.size w w' := by
  subst hl'
  have HB : Hid (Is w pb nb cb lb) := hb
  have HL : Hid (lb.length + (C.num v).length ≤ 100000) := by
    have := (C.num_ten hv).2
    show _ ≤ _
    omega
  clear hb
  go_enter Try.func51, Try.ntmps51
  go_wp2_with fail
  refine (groups_is v hv w).mono ?_
  rintro e w1 ⟨⟨p1, n1, c1, rfl, hi1⟩, h1⟩
  have HI1 : Hid (Is w1 p1 n1 c1 (C.num v)) := hi1
  have HB1 : Hid (Below w.heap.size w w1) := h1
  clear hi1 h1
  obtain ⟨rfl, k1⟩ := Is.below HB.out HB1.out
  obtain ⟨rfl, k2⟩ := HI1.out
  have HC : Hid _ := concat_new w1 [⟨pb, lb, cb⟩, ⟨p1, C.num v, c1⟩] 2 w1.heap.size 2 _ (lb ++ C.num v) rfl rfl rfl (by simp) (ok_cons k1 (ok_one k2)) (Nat.le_trans (by simpa [joined] using HL.out) (by decide)) (by simp [joined])
  clear k1 k2
  go_wp2_with fail
  refine Calls.mono HC.out ?_
  rintro e w2 ⟨⟨x, rfl, ho⟩, h2⟩
  have HO : Hid (Own w2 w1.heap.size x (lb ++ C.num v)) := ho
  clear ho
  go_wp2
  go_ret
  exact ⟨⟨_, rfl, HO.out.lower HB1.out.size⟩, bt HB1.out h2⟩
end Go.Proofs.Ytoglhhoniojbaaa
