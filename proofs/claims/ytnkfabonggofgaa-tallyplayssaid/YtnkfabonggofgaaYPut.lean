/-
  tally.Tally.Put.
-/
import Derived.Test.YtnkfabonggofgaaYObj
import Derived.Test.YtnkfabonggofgaaWPut
import Derived.Deep.RegionHeldLaw
namespace Go.Proofs.Ytnkfabonggofgaa
open Go.RowKit Go.Lib
set_option linter.unusedVariables false

theorem vbytes_len7 {c : V7} (h : C.fits7 c) : (C.vbytes c).length ≤ 70 := by
  obtain ⟨h0, h1, h2, h3, h4, h5, h6⟩ := h
  have := (C.num_ten h0).2; have := (C.num_ten h1).2; have := (C.num_ten h2).2; have := (C.num_ten h3).2; have := (C.num_ten h4).2; have := (C.num_ten h5).2; have := (C.num_ten h6).2
  unfold C.vbytes
  simp only [List.length_append]
  omega
theorem put_nil' (a : V7) (w : World) (hv : C.fits7 a) :
    Calls Try.prog 31 #[.slice none 0 0, a.v] w fun e w' => (∃ p n c, e = .returned (.slice p n c) ∧ Is w' p n c (C.vbytes a)) ∧ Below w.heap.size w w' := put_nil (C.vbytes a) a w hv rfl
set_option maxRecDepth 100000 in
set_option maxHeartbeats 8000000 in
theorem tput_any (w : World) (g : Nat) (T : C.Ta) (pb : Option Addr) (nb cb : Nat) (lb l : List UInt8) (h : TaAt w g 51 T) (hT : T.Ok) (hb : Is w pb nb cb lb) (hlb : lb.length ≤ 50000) (hl : l = lb ++ C.tbytes T) :
    Calls Try.prog 20 #[.pointer (some ⟨g, 0, none⟩), .slice pb nb cb] w fun e w' => (∃ p n k, e = .returned (.slice p n k) ∧ Is w' p n k l) ∧ Below w.heap.size w w' := by
  obtain ⟨U, D⟩ := T
  have HFU : Hid (C.fits7 U) := C.ok50_fits hT.u
  have HFD : Hid (C.fits7 D) := C.ok50_fits hT.d
  obtain ⟨bu, hbu⟩ : ∃ bu, C.vbytes U = bu := ⟨_, rfl⟩
  obtain ⟨bd, hbd⟩ : ∃ bd, C.vbytes D = bd := ⟨_, rfl⟩
  have HL : Hid (l = lb ++ (bu ++ bd)) := by show _ = _; rw [hl, ← hbu, ← hbd]; rfl
  have HLB : Hid (lb.length + bu.length + bd.length ≤ 60000) := by have h1 := vbytes_len7 HFU.out; have h2 := vbytes_len7 HFD.out; rw [hbu] at h1; rw [hbd] at h2; show _ ≤ _; omega
  have HPU : Hid (∀ W, Calls Try.prog 31 #[.slice none 0 0, U.v] W fun e w' => (∃ p n k, e = .returned (.slice p n k) ∧ Is w' p n k bu) ∧ Below W.heap.size W w') := fun W => put_nil bu U W HFU.out hbu
  have HPD : Hid (∀ W, Calls Try.prog 31 #[.slice none 0 0, D.v] W fun e w' => (∃ p n k, e = .returned (.slice p n k) ∧ Is w' p n k bd) ∧ Below W.heap.size W w') := fun W => put_nil bd D W HFD.out hbd
  have HB : Hid (Is w pb nb cb lb) := hb
  have HD : Hid (TaAt w g 51 ⟨U, D⟩) := h
  clear h hT hb hlb hl hbu hbd HFU HFD
  obtain ⟨u0, u1, u2, u3, u4, u5, u6⟩ := U
  obtain ⟨d0, d1, d2, d3, d4, d5, d6⟩ := D
  simp only [V7.v] at HPU HPD
  have HSW : Hid (∀ w', Below w.heap.size w w' → _) := fun w' hw => cells14_at (HD.out.below hw)
  go_enter Try.func20, Try.ntmps20
  go_wp2_with fail
  go_region_held_law (fun w' => w'.cell? ⟨g, 0, none⟩ = some (.int .i64 u0) ∧ w'.cell? ⟨g, 1, none⟩ = some (.int .i64 u1) ∧ w'.cell? ⟨g, 2, none⟩ = some (.int .i64 u2) ∧ w'.cell? ⟨g, 3, none⟩ = some (.int .i64 u3) ∧ w'.cell? ⟨g, 4, none⟩ = some (.int .i64 u4) ∧ w'.cell? ⟨g, 5, none⟩ = some (.int .i64 u5) ∧ w'.cell? ⟨g, 6, none⟩ = some (.int .i64 u6) ∧ w'.cell? ⟨g, 7, none⟩ = some (.int .i64 d0) ∧ w'.cell? ⟨g, 8, none⟩ = some (.int .i64 d1) ∧ w'.cell? ⟨g, 9, none⟩ = some (.int .i64 d2) ∧ w'.cell? ⟨g, 10, none⟩ = some (.int .i64 d3) ∧ w'.cell? ⟨g, 11, none⟩ = some (.int .i64 d4) ∧ w'.cell? ⟨g, 12, none⟩ = some (.int .i64 d5) ∧ w'.cell? ⟨g, 13, none⟩ = some (.int .i64 d6))
    ((refine HSW.out _ ?_; repeat (first | assumption | exact bt hB2 (below_new _ _) | exact Below.refl _ _ | refine Below.drew ?_)))
    (first
    | (go_at_call_of 31 u0; refine (HPU.out _).mono ?_; rintro e w1 ⟨⟨p1, n1, k1, rfl, hi1⟩, hb1⟩; have hB1 : Below w.heap.size w w1 := bt ((Below.refl _ w).drew) hb1; clear hb1)
    | (go_at_call_of 31 d0; refine (HPD.out _).mono ?_; rintro e w2 ⟨⟨p2, n2, k2, rfl, hi2⟩, hb2⟩; have hB2 : Below w.heap.size w w2 := bt hB1 hb2; have hi12 := Is.below hi1 hb2; clear hb2)
    | (go_at_call 30; refine (concat_three pb nb cb lb p1 n1 k1 bu p2 n2 k2 bd _ _ w2 rfl (Is.below HB.out hB2) hi12 hi2 (by have := HLB.out; omega)).mono ?_; rintro e w3 ⟨⟨p3, n3, k3, rfl, hi3⟩, hb3⟩; have hB3 : Below w.heap.size w w3 := bt hB2 hb3))
  all_goals
    have HF : Hid (Is w3 p3 n3 k3 l ∧ Below w.heap.size w w3) := ⟨by rw [HL.out]; exact hi3, hB3⟩
    clear hi1 hi2 hi12 hi3 hB1 hB2 hB3 hb3
    go_wp2
    go_ret
    exact ⟨⟨_, _, _, rfl, HF.out.1⟩, HF.out.2⟩
end Go.Proofs.Ytnkfabonggofgaa
