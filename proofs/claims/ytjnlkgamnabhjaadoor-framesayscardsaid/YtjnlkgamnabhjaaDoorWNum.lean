/-
  Numbers in four bytes: frame.numberBytes, rostrumref1.four, frame.number.
-/
import Derived.Test.YtjnlkgamnabhjaaDoorFKit
import Derived.Test.YtjnlkgamnabhjaaDoorFMath
namespace Go.Proofs.YtjnlkgamnabhjaaDoor
open Go.RowKit Go.Lib
set_option linter.unusedVariables false
set_option linter.unnecessarySimpa false

theorem four_row (s : BitVec 32) : bytesV (C.four s) = [.int .u8 ((s.toNat : Int) % 256), .int .u8 ((s.toNat : Int) / 256 % 256), .int .u8 ((s.toNat : Int) / 65536 % 256), .int .u8 ((s.toNat : Int) / 16777216)] := by
  have hs := s.isLt
  simp only [bytesV, C.four, byteV, List.map_cons, List.map_nil, UInt8.toNat_ofNat']
  refine congr (congrArg _ ?_) (congr (congrArg _ ?_) (congr (congrArg _ ?_) (congr (congrArg _ ?_) rfl))) <;> congr 1 <;> omega
theorem own_four (w : World) (s : BitVec 32) (vs : Array Value) (hv : vs.toList = bytesV (C.four s)) : Own (w.alloc (.cells vs 5)) w.heap.size (.slice (some ⟨w.heap.size, 0, none⟩) 4 4) (C.four s) := by
  have := World.ownsRow_lit (base := w.heap.size) (e := 5) (size := 1) w vs 4 (Nat.le_refl _) (by decide) (by rw [← Array.length_toList, hv]; rfl)
  unfold Own
  rw [hv] at this
  exact this
theorem nb_any (s : BitVec 32) (w : World) : Calls Tryd.prog 16 #[.int .u32 (s.toNat : Nat)] w fun e w' => e = .returned (.slice (some ⟨w.heap.size, 0, none⟩) 4 4) ∧ Own w' w.heap.size (.slice (some ⟨w.heap.size, 0, none⟩) 4 4) (C.four s) ∧ Below w.heap.size w w' := by
  have hs := s.isLt
  go_enter Tryd.func16, Tryd.ntmps16
  go_wp2
  go_ret
  exact ⟨rfl, own_four w s _ (four_row s).symm, below_new _ _⟩
theorem four_any (s : BitVec 32) (w : World) : Calls Tryd.prog 21 #[.int .u32 (s.toNat : Nat)] w fun e w' => e = .returned (.slice (some ⟨w.heap.size, 0, none⟩) 4 4) ∧ Own w' w.heap.size (.slice (some ⟨w.heap.size, 0, none⟩) 4 4) (C.four s) ∧ Below w.heap.size w w' := by
  have hs := s.isLt
  go_enter Tryd.func21, Tryd.ntmps21
  go_wp2
  go_ret
  exact ⟨rfl, own_four w s _ (four_row s).symm, below_new _ _⟩
theorem or_step (a x k : Nat) (ha : a < 2 ^ k) (hx : x < 256) (hk : k ≤ 24) : bits .or .u32 (a : Int) ((x * 2 ^ k : Nat) : Int) = ((a + 2 ^ k * x : Nat) : Int) := by
  have h2 : (2 : Nat) ^ k ≤ 2 ^ 24 := Nat.pow_le_pow_right (by decide) hk
  have h3 : x * 2 ^ k ≤ 255 * 2 ^ 24 := Nat.mul_le_mul (by omega) h2
  rw [u32_or_nat _ _ (by omega) (by omega), Nat.mul_comm x, Nat.or_comm, ← Nat.two_pow_add_eq_or_of_lt ha, Nat.add_comm]
set_option maxHeartbeats 1000000 in
theorem number_any (p : Option Addr) (l : List UInt8) (cap : Nat) (w : World) (hl : l.length ≤ 4) (hA : BAt w p l) :
    Calls Tryd.prog 25 #[.slice p l.length cap] w fun e w' => e = .returned (.int .u32 (C.le l : Nat)) ∧ w' = w := by
  go_enter Tryd.func25, Tryd.ntmps25
  go_wp2
  go_loop [3, 8] (fun s i => ∃ k : Nat, k ≤ l.length ∧ i = .int .i64 k ∧ s = .int .u32 (C.le (l.take k) : Nat)) (fun _ i => l.length - (intOf i).toNat)
  case atStart => exact ⟨0, Nat.zero_le _, rfl, by simp [C.le]⟩
  case round =>
    obtain ⟨k, hk, rfl, rfl⟩ := hrel
    by_cases hlt : k < l.length
    · obtain ⟨b, o, rfl, hc⟩ := hA (by omega)
      have hck := hc k hlt
      have ht : (l.take k).length = k := by rw [List.length_take]; omega
      have hle := C.le_lt (l.take k)
      rw [ht] at hle
      have HX : Hid (C.le (l.take (k + 1)) = C.le (l.take k) + 256 ^ k * (l.getD k 0).toNat) := by
        show _ = _
        rw [List.take_succ_eq_append_getElem hlt, C.le_snoc, ht]; simp [List.getD, hlt]
      generalize C.le (l.take k) = r at hle HX
      generalize l.getD k 0 = x at hck HX
      have hx0 := x.toNat_lt
      have ho := or_step r x.toNat (8 * k) (by rw [Nat.pow_mul]; exact hle) hx0 (by omega)
      rw [show (256 : Nat) ^ k = 2 ^ (8 * k) by rw [Nat.pow_mul]] at HX
      clear hc ht
      rcases (show k = 0 ∨ k = 1 ∨ k = 2 ∨ k = 3 by omega) with rfl | rfl | rfl | rfl
      all_goals
        simp only [Nat.reduceMul, Nat.reducePow, Nat.mul_one, Nat.one_mul, Nat.add_zero] at ho hle hck
        go_wp2
        go_round
        case rel => exact ⟨_, hlt, by go_num, by rw [HX.out]; exact congrArg _ (by simpa using ho)⟩
        case measure => simp [intOf]; omega
    · go_wp2
      go_ret
      exact ⟨ret_int (by rw [List.take_of_length_le (by omega)]), rfl⟩
end Go.Proofs.YtjnlkgamnabhjaaDoor
