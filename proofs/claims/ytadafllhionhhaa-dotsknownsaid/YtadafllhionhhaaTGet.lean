/-
  dots.read, dots.Get.
-/
import Derived.Test.YtadafllhionhhaaTLoose
import Derived.Test.YtadafllhionhhaaWGet
namespace Go.Proofs.Ytadafllhionhhaa
open Go.RowKit Go.Lib
set_option linter.unusedVariables false

namespace C
/-- Dots read one behind the other. -/
def rowR : Nat → Option (List UInt8) → List Dt × Option (List UInt8)
  | 0, s => ([], s)
  | k + 1, s =>
    let a := rnum s 0 6
    let b := rnum a.2 1 1099511627776
    let t := rowR k b.2
    ((a.1, b.1) :: t.1, t.2)
theorem rnum_in {s : Option (List UInt8)} {a b v : Int} {r : List UInt8} (h : rnum s a b = (v, some r)) : a ≤ v ∧ v ≤ b := by
  rw [rnum_all] at h
  split at h
  · cases h
  · rename_i hh
    cases h
    omega
theorem rnum_none (a b : Int) : rnum none a b = (0, none) := rfl
theorem rowR_none : ∀ k, (rowR k none).2 = none
  | 0 => rfl
  | k + 1 => by unfold rowR; exact rowR_none k
theorem rowR_may : ∀ (k : Nat) (s : Option (List UInt8)) (r : List UInt8), (rowR k s).2 = some r → ∀ d ∈ (rowR k s).1, may d = true
  | 0, s, r, _, d, hd => by simp [rowR] at hd
  | k + 1, s, r, h, d, hd => by
    unfold rowR at h hd
    simp only [List.mem_cons] at h hd
    have hb : ∃ q, (rnum (rnum s 0 6).2 1 1099511627776).2 = some q := by
      cases hq : (rnum (rnum s 0 6).2 1 1099511627776).2 with
      | none => rw [hq, rowR_none] at h; cases h
      | some q => exact ⟨q, rfl⟩
    obtain ⟨q, hq⟩ := hb
    have ha : ∃ p, (rnum s 0 6).2 = some p := by
      cases hp : (rnum s 0 6).2 with
      | none => rw [hp, rnum_none] at hq; cases hq
      | some p => exact ⟨p, rfl⟩
    obtain ⟨p, hp⟩ := ha
    rcases hd with rfl | hd
    · have h1 := rnum_in (show rnum s 0 6 = ((rnum s 0 6).1, some p) by rw [← hp])
      have h2 := rnum_in (show rnum (rnum s 0 6).2 1 1099511627776 = ((rnum (rnum s 0 6).2 1 1099511627776).1, some q) by rw [← hq])
      exact (may_iff _).2 ⟨h1.1, by simp only; omega, h2.1, h2.2⟩
    · exact rowR_may k _ r h d hd
theorem rowR_len : ∀ (k : Nat) (s : Option (List UInt8)), (rowR k s).1.length = k
  | 0, _ => rfl
  | k + 1, s => by unfold rowR; simp [rowR_len k]
theorem getV_good {s : Option (List UInt8)} {c : V7} {r : Option (List UInt8)} (h : getV s = (c, r)) : good c = true := by
  unfold getV at h
  cases hg : (getN s 1099511627776).2 with
  | none => rw [hg] at h; cases h; decide
  | some l =>
    rw [hg] at h
    cases h
    have key : ∀ {s : Option (List UInt8)} {l}, (rnum s 0 1099511627776).2 = some l → (0 ≤ (rnum s 0 1099511627776).1 ∧ (rnum s 0 1099511627776).1 ≤ 1099511627776) := fun {s l} h => rnum_in (show rnum s 0 1099511627776 = ((rnum s 0 1099511627776).1, some l) by rw [← h])
    have back : ∀ {s : Option (List UInt8)} {l}, (rnum s 0 1099511627776).2 = some l → ∃ q, s = some q := fun {s l} h => by
      cases s with
      | none => rw [rnum_none] at h; cases h
      | some q => exact ⟨q, rfl⟩
    simp only [getN] at hg
    have k6 := key hg
    obtain ⟨q6, e6⟩ := back hg
    have k5 := key e6
    obtain ⟨q5, e5⟩ := back e6
    have k4 := key e5
    obtain ⟨q4, e4⟩ := back e5
    have k3 := key e4
    obtain ⟨q3, e3⟩ := back e4
    have k2 := key e3
    obtain ⟨q2, e2⟩ := back e3
    have k1 := key e2
    obtain ⟨q1, e1⟩ := back e2
    have k0 := key e1
    rw [good_iff]
    simp only [getN]
    exact ⟨k0, k1, k2, k3, k4, k5, k6⟩
end C
end Go.Proofs.Ytadafllhionhhaa
