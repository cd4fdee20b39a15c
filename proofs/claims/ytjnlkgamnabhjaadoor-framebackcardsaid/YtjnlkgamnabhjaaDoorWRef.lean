/-
  The document's own sum, bit by bit.
-/
import Derived.Test.YtjnlkgamnabhjaaDoorWOf
namespace Go.Proofs.YtjnlkgamnabhjaaDoor
open Go.RowKit Go.Lib
set_option linter.unusedVariables false

theorem poly_toNat : C.poly.toNat = 3988292384 := by decide
theorem xor_poly (a : BitVec 32) : bits .xor .u32 (a.toNat : Int) 3988292384 = ((a ^^^ C.poly).toNat : Nat) := by
  have := xor32 a C.poly
  rw [poly_toNat] at this
  exact this
theorem ones_xor (a : BitVec 32) : bits .xor .u32 4294967295 (a.toNat : Int) = ((a ^^^ C.ones).toNat : Nat) := by
  have := xor32 C.ones a
  rw [ones_toNat] at this
  rw [BitVec.xor_comm a]
  exact this
theorem u32max : IntKind.u32.max = 4294967295 := by decide
theorem u32sgn : IntKind.u32.signed = false := rfl
theorem half1 (y : BitVec 32) : (y.toNat : Int) / (2 : Int) = (((y >>> 1).toNat : Nat) : Int) := by
  rw [BitVec.toNat_ushiftRight, Nat.shiftRight_eq_div_pow]; omega
theorem and_one (y : BitVec 32) : bits .and .u32 (y.toNat : Int) 1 = if y.getLsbD 0 then 1 else 0 := by
  have := u32_and_nat y.toNat 1 y.isLt (by decide)
  rw [show ((1 : Nat) : Int) = 1 from rfl] at this
  rw [this, Nat.and_one_is_mod]
  have h : y.getLsbD 0 = decide (y.toNat % 2 = 1) := by
    show y.toNat.testBit 0 = _
    rw [Nat.testBit_zero]
  rw [h]
  rcases Nat.mod_two_eq_zero_or_one y.toNat with e | e <;> simp [e]

set_option maxHeartbeats 1000000 in
theorem rcrc_any (p : Option Addr) (l : List UInt8) (cap : Nat) (w : World) (hl : l.length ≤ maxLen) (hA : BAt w p l) :
    Calls Tryd.prog 22 #[.slice p l.length cap] w fun e w' => e = .returned (.int .u32 (C.crc l).toNat) ∧ w' = w := by
  unfold maxLen at hl
  go_enter Tryd.func22, Tryd.ntmps22
  go_wp2
  go_loop [3, 4] (fun s i => ∃ k : Nat, k ≤ l.length ∧ i = .int .i64 k ∧ s = .int .u32 (C.F C.ones (l.take k)).toNat) (fun _ i => l.length - (intOf i).toNat)
  case atStart => exact ⟨0, Nat.zero_le _, rfl, by rw [List.take_zero, C.F_nil, ones_toNat]; rfl⟩
  case round =>
    obtain ⟨k, hk, rfl, rfl⟩ := hrel
    by_cases hlt : k < l.length
    · obtain ⟨b, o, rfl, hc⟩ := hA (by omega)
      have hck := hc k hlt
      have HX : Hid (C.F C.ones (l.take (k + 1)) = C.Sn 8 (C.F C.ones (l.take k) ^^^ C.ext (l.getD k 0))) := by
        show _ = _
        rw [List.take_succ_eq_append_getElem hlt, C.F_snoc]; simp [List.getD, hlt, C.upd]
      have e1 := xor32 (C.F C.ones (l.take k)) (C.ext (l.getD k 0))
      rw [ext_toNat] at e1
      generalize C.F C.ones (l.take k) ^^^ C.ext (l.getD k 0) = y at e1 HX
      generalize C.F C.ones (l.take k) = r at e1
      generalize l.getD k 0 = x at hck e1
      have hx0 := x.toNat_lt
      clear hc hA
      go_wp2
      go_loop [3, 5] (fun s i => ∃ m : Nat, m ≤ 8 ∧ i = .int .i64 m ∧ s = .int .u32 (C.Sn m y).toNat) (fun _ i => 8 - (intOf i).toNat)
      case atStart => exact ⟨0, by omega, rfl, rfl⟩
      case round =>
        obtain ⟨m, hm, rfl, rfl⟩ := hrel
        by_cases hlm : m < 8
        · have HS : Hid (C.Sn (m + 1) y = C.S (C.Sn m y)) := rfl
          generalize C.Sn m y = z at HS
          have e2 := half1 z
          have e3 := and_one z
          have e4 := xor_poly (z >>> 1)
          by_cases hz : z.getLsbD 0 = true
          · rw [hz, if_pos rfl] at e3
            have HS2 : Hid (C.Sn (m + 1) y = (z >>> 1) ^^^ C.poly) := by
              show _ = _
              rw [HS.out, C.S, hz, if_pos rfl]
            generalize z >>> 1 ^^^ C.poly = u at e4 HS2
            generalize z >>> 1 = v at e2 e4
            clear hz HS
            go_wp2
            go_round
            case rel => exact ⟨m + 1, by omega, by go_num, by rw [HS2.out]⟩
            case measure => simp [intOf]; omega
          · rw [if_neg hz] at e3
            have HS2 : Hid (C.Sn (m + 1) y = z >>> 1) := by
              show _ = _
              rw [HS.out, C.S, if_neg hz]
            generalize z >>> 1 = v at e2 HS2
            clear hz HS e4
            go_wp2
            go_round
            case rel => exact ⟨m + 1, by omega, by go_num, by rw [HS2.out]⟩
            case measure => simp [intOf]; omega
        · obtain rfl : m = 8 := by omega
          go_wp2
          go_round
          case rel => exact ⟨k + 1, by omega, by go_num, by rw [HX.out]⟩
          case measure => simp [intOf]; omega
    · have hx := ones_xor (C.F C.ones (l.take k))
      rw [← u32max] at hx
      have hsg := u32sgn
      go_wp2
      go_ret
      exact ⟨ret_int (by rw [List.take_of_length_le (by omega)]; rfl), rfl⟩
theorem rcrc_at (p : Option Addr) (l : List UInt8) (cap : Nat) (s : BitVec 32) (w : World) (hl : l.length ≤ maxLen) (hA : BAt w p l) (hs : C.crc l = s) :
    Calls Tryd.prog 22 #[.slice p l.length cap] w fun e w' => e = .returned (.int .u32 (s.toNat : Nat)) ∧ w' = w :=
  (rcrc_any p l cap w hl hA).mono fun e w' ⟨he, hw⟩ => ⟨by rw [he, hs], hw⟩
end Go.Proofs.YtjnlkgamnabhjaaDoor
