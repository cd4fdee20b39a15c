/-
  crc.add: a row of bytes onto a register.
-/
import Derived.Test.YtjnlkgamnabhjaaDoorCBase
namespace Go.Proofs.YtjnlkgamnabhjaaDoor
open Go.RowKit Go.Lib
set_option linter.unusedVariables false

theorem ret_int {k : IntKind} {a b : Int} (h : a = b) : Ending.returned (.int k a) = .returned (.int k b) := by rw [h]
theorem ret_bool {a b : Bool} (h : a = b) : Ending.returned (.bool a) = .returned (.bool b) := by rw [h]

theorem xor32 (a b : BitVec 32) : bits .xor .u32 (a.toNat : Int) (b.toNat : Int) = ((a ^^^ b).toNat : Nat) := by
  rw [u32_xor_nat _ _ a.isLt b.isLt, BitVec.toNat_xor]
theorem ext_toNat (x : UInt8) : (C.ext x).toNat = x.toNat := by
  unfold C.ext
  have := x.toNat_lt
  rw [BitVec.toNat_ofNat, Nat.mod_eq_of_lt (by omega)]
/-- One byte's two half steps, number by number. -/
theorem add_step (r : BitVec 32) (x : UInt8) : ∃ (y z t y2 z2 t2 : BitVec 32) (n n2 : Nat),
    bits .xor .u32 (r.toNat : Int) (x.toNat : Int) = (y.toNat : Nat) ∧ ((y.toNat : Nat) : Int) / 16 = (z.toNat : Nat) ∧ bits .and .u32 (y.toNat : Int) 15 = (n : Nat) ∧ n < 16 ∧ t = C.tabAt n ∧
    bits .xor .u32 (z.toNat : Int) (t.toNat : Int) = (y2.toNat : Nat) ∧ ((y2.toNat : Nat) : Int) / 16 = (z2.toNat : Nat) ∧ bits .and .u32 (y2.toNat : Int) 15 = (n2 : Nat) ∧ n2 < 16 ∧ t2 = C.tabAt n2 ∧
    bits .xor .u32 (z2.toNat : Int) (t2.toNat : Int) = ((C.upd r x).toNat : Nat) := by
  have hs (y : BitVec 32) : ((y.toNat : Nat) : Int) / 16 = ((y >>> 4).toNat : Nat) := by
    rw [BitVec.toNat_ushiftRight, Nat.shiftRight_eq_div_pow]; omega
  have hn (y : BitVec 32) : bits .and .u32 (y.toNat : Int) 15 = ((y &&& 15#32).toNat : Nat) := by
    have := u32_and_nat y.toNat 15 y.isLt (by decide)
    rw [show ((15 : Nat) : Int) = 15 from rfl] at this
    rw [this, BitVec.toNat_and]; rfl
  have hl (y : BitVec 32) : (y &&& 15#32).toNat < 16 := by
    rw [BitVec.toNat_and]
    exact Nat.and_lt_two_pow (n := 4) _ (by decide)
  refine ⟨r ^^^ C.ext x, _, _, _, _, _, _, _, ?_, hs _, hn _, hl _, rfl, xor32 _ _, hs _, hn _, hl _, rfl, ?_⟩
  · rw [← ext_toNat x, xor32]
  · rw [xor32, C.upd_halves]

set_option maxHeartbeats 1000000 in
theorem add_any (c : BitVec 32) (p : Option Addr) (l : List UInt8) (cap : Nat) (w : World) (hT : Tabs w) (hl : l.length ≤ maxLen) (hA : BAt w p l) :
    Calls Tryd.prog 23 #[.int .u32 c.toNat, .slice p l.length cap] w fun e w' => e = .returned (.int .u32 (C.F c l).toNat) ∧ w' = w := by
  unfold maxLen at hl
  go_enter Tryd.func23, Tryd.ntmps23
  go_wp2
  go_loop [0, 9] (fun s i => ∃ k : Nat, k ≤ l.length ∧ i = .int .i64 k ∧ s = .int .u32 (C.F c (l.take k)).toNat) (fun _ i => l.length - (intOf i).toNat)
  case atStart => exact ⟨0, Nat.zero_le _, rfl, by simp [C.F_nil]⟩
  case round =>
    obtain ⟨k, hk, rfl, rfl⟩ := hrel
    by_cases hlt : k < l.length
    · obtain ⟨b, o, rfl, hc⟩ := hA (by omega)
      have hck := hc k hlt
      generalize hr : C.F c (l.take k) = r
      generalize hx : l.getD k 0 = x at hck
      have hr0 := r.isLt
      have hx0 := x.toNat_lt
      obtain ⟨y, z, t, y2, z2, t2, n, n2, e1, e2, e3, hn, ht, e4, e5, e6, hn2, ht2, e7⟩ := add_step r x
      have hc1 := hT.cell n hn
      have hc2 := hT.cell n2 hn2
      rw [← ht] at hc1
      rw [← ht2] at hc2
      have HX : Hid (C.F c (l.take (k + 1)) = C.upd r x) := by
        show _ = _
        rw [List.take_succ_eq_append_getElem hlt, C.F_snoc, hr, ← hx]; simp [List.getD, hlt]
      generalize C.upd r x = q at e7 HX
      clear hc ht ht2 hr hx
      go_wp2
      go_round
      case rel => exact ⟨k + 1, by omega, by go_num, by rw [HX.out]⟩
      case measure => simp [intOf]; omega
    · go_wp2
      go_ret
      exact ⟨ret_int (by rw [List.take_of_length_le (by omega)]), rfl⟩
end Go.Proofs.YtjnlkgamnabhjaaDoor
