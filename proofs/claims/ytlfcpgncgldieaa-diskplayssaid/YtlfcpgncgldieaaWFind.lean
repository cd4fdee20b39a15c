/-
  disk.Disk: find, Read.
-/
import Derived.Test.YtlfcpgncgldieaaWBase
namespace Go.Proofs.Ytlfcpgncgldieaa
open Go.RowKit Go.Lib Go.Maps
open C (upd upd_same upd_other)
set_option linter.unusedVariables false

theorem refusal_at (w : World) (g : Nat) (S : Nat → Prop) (s : C.St) (f r : Int) (h : Disk w g S s) (hr : refE s f = r) :
    Calls Try.prog 29 #[.pointer (some ⟨g, 0, none⟩), .int .i64 f] w fun e w' => e = .returned (.int .i64 r) ∧ w' = w := by
  subst hr; exact refusal_any w g S s f h
theorem refE_zero {s : C.St} {f : Int} (h : refE s f = 0) : s.off = false ∧ 0 ≤ f ∧ f ≤ 999 := by
  unfold refE at h
  split at h
  · cases h
  · split at h
    · cases h
    · rename_i h1 h2
      exact ⟨by simpa using h1, by omega, by omega⟩
theorem refE_small (s : C.St) (f : Int) : 0 ≤ refE s f ∧ refE s f ≤ 7 := by unfold refE; split; omega; split <;> omega
set_option maxHeartbeats 1000000 in
theorem find_bad (w : World) (g : Nat) (S : Nat → Prop) (s : C.St) (f r : Int) (h : Disk w g S s) (hr : refE s f = r) (h0 : r ≠ 0) :
    Calls Try.prog 30 #[.pointer (some ⟨g, 0, none⟩), .int .i64 f] w fun e w' => e = .returned (.tuple #[.pointer none, .int .i64 r]) ∧ w' = w := by
  have HC : Hid _ := refusal_at w g S s f r h hr
  clear h hr
  go_enter Try.func30, Try.ntmps30
  go_wp2_with fail
  refine Calls.mono HC.out ?_
  rintro e w1 ⟨rfl, hw⟩
  subst w1
  go_wp2
  go_ret2
  exact ⟨rfl, rfl⟩
theorem Lay.at_some {L : Lay} {f : Int} (h0 : 0 ≤ f) (h : L.is f.toNat = true) : L.at f = some (L.c f.toNat) := if_pos ⟨h0, h⟩
theorem Lay.at_none {L : Lay} {f : Int} (h : L.is f.toNat = false) : L.at f = none := if_neg (fun h' => by rw [h] at h'; cases h'.2)
set_option maxHeartbeats 1000000 in
theorem find_none (w : World) (g : Nat) (S : Nat → Prop) (s : C.St) (f : Int) (h : Disk w g S s) (hr : refE s f = 0) (hf : s.is f.toNat = false) :
    Calls Try.prog 30 #[.pointer (some ⟨g, 0, none⟩), .int .i64 f] w fun e w' => e = .returned (.tuple #[.pointer none, .int .i64 4]) ∧ w' = w := by
  have HC : Hid _ := refusal_at w g S s f 0 h hr
  have h0 := refE_zero hr
  obtain ⟨L, rfl, his, M, _⟩ := h
  have hl := M.map.look u_map (z_ptr w) f (wf_small h0.2.1 (by omega))
  rw [Lay.at_none (by rw [his]; exact hf)] at hl
  have c2 := blk_cell M.blk 2
  simp only [Head.cells, List.getElem?_toArray, List.getElem?_cons_succ, List.getElem?_cons_zero] at c2
  simp only [ptrV] at hl
  generalize L.mb = mb at *
  generalize L.g = g at *
  clear M hr his h0 hf
  go_enter Try.func30, Try.ntmps30
  go_wp2_with fail
  refine Calls.mono HC.out ?_
  rintro e w1 ⟨rfl, hw⟩
  subst w1
  go_wp2
  go_ret2
  exact ⟨rfl, rfl⟩
set_option maxHeartbeats 1000000 in
theorem find_ok (w : World) (L : Lay) (S : Nat → Prop) (s : C.St) (f : Nat) (his : L.is = s.is) (M : DMem w L s.made (headOf s) (C.saf s.ws) (C.dat s.ws) (C.pof s.ws)) (hF : ∀ b, L.foot b → S b) (hS : ∀ b, S b → b < w.heap.size) (hok : s.Ok) (hr : refE s f = 0) (hf : s.is f = true) :
    Calls Try.prog 30 #[.pointer (some ⟨L.g, 0, none⟩), .int .i64 (f : Nat)] w fun e w' => e = .returned (.tuple #[.pointer (some ⟨L.c f, 0, none⟩), .int .i64 0]) ∧ w' = w := by
  have HC : Hid _ := refusal_at w L.g S s f 0 ⟨L, rfl, his, M, hF, hS, hok⟩ hr
  have h0 := refE_zero hr
  have hl := M.map.look u_map (z_ptr w) (f : Int) (wf_small h0.2.1 (by omega))
  rw [Lay.at_some h0.2.1 (by rw [his]; simpa using hf)] at hl
  have c2 := blk_cell M.blk 2
  simp only [Head.cells, List.getElem?_toArray, List.getElem?_cons_succ, List.getElem?_cons_zero] at c2
  simp only [ptrV, Int.toNat_natCast] at hl
  generalize L.mb = mb at *
  generalize L.c f = c at *
  generalize L.g = g at *
  clear M hr his h0 hf hF hS hok
  go_enter Try.func30, Try.ntmps30
  go_wp2_with fail
  refine Calls.mono HC.out ?_
  rintro e w1 ⟨rfl, hw⟩
  subst w1
  go_wp2
  go_ret2
  exact ⟨rfl, rfl⟩
/-- What Read tells. -/
def readE (s : C.St) (f : Int) : Int := if refE s f = 0 then (if s.is f.toNat = true then 0 else 4) else refE s f
def readB (s : C.St) (f : Int) : List UInt8 := if readE s f = 0 then C.dat s.ws f.toNat else []
set_option maxHeartbeats 1000000 in
theorem read_any (w : World) (g : Nat) (S : Nat → Prop) (s : C.St) (f : Int) (h : Disk w g S s) :
    Calls Try.prog 13 #[.pointer (some ⟨g, 0, none⟩), .int .i64 f] w fun e w' => (∃ v, e = .returned (.tuple #[v, .int .i64 (readE s f)]) ∧ Own w' w.heap.size v (readB s f)) ∧ Below w.heap.size w w' := by
  by_cases hr : refE s f = 0
  · cases hf : s.is f.toNat with
    | false =>
      have HC : Hid _ := find_none w g S s f h hr hf
      have e1 : readE s f = 4 := by unfold readE; rw [if_pos hr, hf]; rfl
      have e2 : readB s f = [] := by unfold readB; rw [e1]; rfl
      rw [e1, e2]
      clear h hr hf e1 e2
      go_enter Try.func13, Try.ntmps13
      go_wp2_with fail
      refine Calls.mono HC.out ?_
      rintro e w1 ⟨rfl, hw⟩
      subst w1
      go_wp2
      go_ret2
      exact ⟨⟨_, rfl, Own.nil _ _⟩, Below.refl _ _⟩
    | true =>
      have e1 : readE s f = 0 := by unfold readE; rw [if_pos hr, hf]; rfl
      have e2 : readB s f = C.dat s.ws f.toNat := by unfold readB; rw [e1]; rfl
      rw [e1, e2]
      have h0 := refE_zero hr
      obtain ⟨k, rfl⟩ : ∃ k : Nat, f = (k : Int) := ⟨f.toNat, by omega⟩
      simp only [Int.toNat_natCast] at hf
      rw [Int.toNat_natCast]
      obtain ⟨L, rfl, his, M, hF, hS, hok⟩ := h
      have HC : Hid _ := find_ok w L S s k his M hF hS hok hr hf
      have hk : L.is k = true := by rw [his]; exact hf
      have c0 := blk_cell (M.cont k hk) 0
      simp only [List.getElem?_toArray, List.getElem?_cons_zero] at c0
      obtain ⟨p, c, hv, hpo⟩ := Own.part (M.dat k hk)
      rw [hv] at c0
      have hlen : (C.dat s.ws k).length ≤ 100000000 := by have := C.dat_le s.ws k; have := hok.used; have := hok.room; omega
      have HK : Hid _ := clone_any p (C.dat s.ws k) c w hpo hlen
      generalize C.dat s.ws k = l at *
      generalize L.c k = cb at *
      generalize L.g = g at *
      clear M hF hS hok hr hf h0 his hk e1 e2 hpo hv hlen
      go_enter Try.func13, Try.ntmps13
      go_wp2_with fail
      refine Calls.mono HC.out ?_
      rintro e w1 ⟨rfl, hw⟩
      subst w1
      go_wp2_with fail
      refine Calls.mono HK.out ?_
      rintro e w1 ⟨⟨v, rfl, ho⟩, hb⟩
      go_wp2
      go_ret2
      exact ⟨⟨_, rfl, ho⟩, hb⟩
  · have e1 : readE s f = refE s f := by unfold readE; rw [if_neg hr]
    have e2 : readB s f = [] := by unfold readB; rw [e1, if_neg hr]
    rw [e1, e2]
    have HC : Hid _ := find_bad w g S s f (refE s f) h rfl hr
    generalize refE s f = r at *
    clear h e1 e2
    go_enter Try.func13, Try.ntmps13
    go_wp2_with fail
    refine Calls.mono HC.out ?_
    rintro e w1 ⟨rfl, hw⟩
    subst w1
    go_wp2
    go_ret2
    exact ⟨⟨_, rfl, Own.nil _ _⟩, Below.refl _ _⟩
end Go.Proofs.Ytlfcpgncgldieaa
