/-
  crc.Of: the sum of parts, one behind the other.
-/
import Derived.Test.YtjnlkgamnabhjaaDoorWAdd
namespace Go.Proofs.YtjnlkgamnabhjaaDoor
open Go.RowKit Go.Lib
set_option linter.unusedVariables false

/-- A part: where it lies, its bytes, its capacity. -/
structure Part where
  p : Option Addr
  l : List UInt8
  cap : Nat
def Part.v (x : Part) : Value := .slice x.p x.l.length x.cap
def Part.ok (w : World) (x : Part) : Prop := x.l.length ≤ maxLen ∧ BAt w x.p x.l
/-- A row of parts as it lies. -/
def PAt (w : World) (p : Option Addr) (ps : List Part) : Prop := 0 < ps.length → ∃ b o, p = some ⟨b, o, none⟩ ∧ ∀ i x, ps[i]? = some x → w.cell? ⟨b, o + i, none⟩ = some x.v
def joined (ps : List Part) : List UInt8 := (ps.map Part.l).flatten
theorem ones_toNat : C.ones.toNat = 4294967295 := by decide
theorem xor_ones (a : BitVec 32) : bits .xor .u32 (a.toNat : Int) 4294967295 = ((a ^^^ C.ones).toNat : Nat) := by
  have := xor32 a C.ones
  rw [ones_toNat] at this
  exact this

set_option maxHeartbeats 1000000 in
theorem of_any (p : Option Addr) (ps : List Part) (cap : Nat) (w : World) (hT : Tabs w) (hl : ps.length ≤ maxLen) (hP : PAt w p ps) (hA : ∀ x ∈ ps, x.ok w) :
    Calls Tryd.prog 17 #[.slice p ps.length cap] w fun e w' => e = .returned (.int .u32 (C.crc (joined ps)).toNat) ∧ w' = w := by
  unfold maxLen at hl
  go_enter Tryd.func17, Tryd.ntmps17
  go_wp2
  go_loop [3, 8] (fun s i => ∃ k : Nat, k ≤ ps.length ∧ i = .int .i64 k ∧ s = .int .u32 (C.F C.ones (joined (ps.take k))).toNat) (fun _ i => ps.length - (intOf i).toNat)
  case atStart => exact ⟨0, Nat.zero_le _, rfl, by simp [joined, C.F_nil, ones_toNat]⟩
  case round =>
    obtain ⟨k, hk, rfl, rfl⟩ := hrel
    by_cases hlt : k < ps.length
    · obtain ⟨b, o, rfl, hc⟩ := hP (by omega)
      obtain ⟨x, hx⟩ : ∃ x, ps[k]? = some x := ⟨ps[k], by simp [hlt]⟩
      have hck := hc k x hx
      obtain ⟨xp, xl, xc⟩ := x
      have hxa := hA _ (List.mem_of_getElem? hx)
      obtain ⟨hxl, hxb⟩ := hxa
      simp only [Part.v] at hck
      have HX : Hid (C.F C.ones (joined (ps.take (k + 1))) = C.F (C.F C.ones (joined (ps.take k))) xl) := by
        show _ = _
        have : ps.take (k + 1) = ps.take k ++ [⟨xp, xl, xc⟩] := by
          rw [List.take_add_one, hx]; rfl
        rw [this, ← C.F_append]; simp [joined]
      generalize C.F C.ones (joined (ps.take k)) = r at HX
      have HL : Hid (xl.length ≤ maxLen) := hxl
      simp only at hxl
      clear hc hx hA hP hxl
      go_wp2_with (go_at_call 23; go_must (refine (add_any r xp xl xc _ hT HL.out hxb).mono ?_); rintro e w' ⟨rfl, rfl⟩)
      go_round
      case rel => exact ⟨k + 1, by omega, by go_num, by rw [HX.out]⟩
      case measure => simp [intOf]; omega
    · have hx := xor_ones (C.F C.ones (joined (ps.take k)))
      go_wp2
      go_ret
      exact ⟨ret_int (by rw [List.take_of_length_le (by omega)]; rfl), rfl⟩
end Go.Proofs.YtjnlkgamnabhjaaDoor
