/-
  pack.groups, rostrumref1.Num: a number's bytes.
-/
import Derived.Test.YtebfhomopdnkkaaBCat
import Derived.Test.YtebfhomopdnkkaaPMath
namespace Go.Proofs.Ytebfhomopdnkkaa
open Go.RowKit Go.Lib
set_option linter.unusedVariables false

theorem wrap_u64_ge {v : Int} (h0 : 0 ≤ v) (h1 : v < 18446744073709551616) : IntKind.u64.wrap v = v := by
  rw [IntKind.wrap_u64]; omega
theorem wrap_u64_neg {v : Int} (h0 : v < 0) (h1 : -18446744073709551616 ≤ v) : IntKind.u64.wrap v = v + 18446744073709551616 := by
  rw [IntKind.wrap_u64]; omega
theorem xor_all (x : Nat) (h : x < 18446744073709551616) : x ^^^ 18446744073709551615 = 18446744073709551615 - x := by
  have h1 : (BitVec.ofNat 64 x ^^^ BitVec.allOnes 64) = ~~~ (BitVec.ofNat 64 x) := BitVec.xor_allOnes
  have h2 := congrArg BitVec.toNat h1
  rw [BitVec.toNat_xor, BitVec.toNat_not, BitVec.toNat_ofNat, BitVec.toNat_allOnes] at h2
  have h3 : x % 2 ^ 64 = x := Nat.mod_eq_of_lt h
  rw [h3] at h2
  exact h2
/-- A number, its bits turned where it is below 0. -/
theorem zig_xor {v : Int} (h1 : -9223372036854775808 ≤ v) (h2 : v ≤ 9223372036854775807) :
    bits .xor .u64 (IntKind.u64.wrap (IntKind.u64.wrap v * 2)) (IntKind.u64.wrap (v / 9223372036854775808)) = (C.zig v : Nat) := by
  unfold C.zig
  by_cases h : 0 ≤ v
  · rw [wrap_u64_ge h (by omega), wrap_u64_ge (by omega) (by omega), show v / 9223372036854775808 = 0 by omega, wrap_u64_ge (by omega) (by omega)]
    obtain ⟨n, rfl⟩ := Int.eq_ofNat_of_zero_le h
    have := u64_xor_nat (n * 2) 0 (by omega) (by omega)
    rw [Nat.xor_zero] at this
    rw [if_pos h]
    push_cast at this
    refine this.trans ?_
    omega
  · rw [wrap_u64_neg (v := v) (by omega) (by omega), show IntKind.u64.wrap ((v + 18446744073709551616) * 2) = 2 * v + 18446744073709551616 by rw [IntKind.wrap_u64]; omega,
      show v / 9223372036854775808 = -1 by omega, wrap_u64_neg (by omega) (by omega), if_neg h]
    obtain ⟨n, hn⟩ := Int.eq_ofNat_of_zero_le (show 0 ≤ 2 * v + 18446744073709551616 by omega)
    rw [hn]
    have := u64_xor_nat n 18446744073709551615 (by omega) (by omega)
    rw [xor_all n (by omega)] at this
    have e : (-1 + 18446744073709551616 : Int) = ((18446744073709551615 : Nat) : Int) := by omega
    rw [e, this]
    omega
theorem or_more (m : Nat) : bits .or .u8 (IntKind.u8.wrap (m : Int)) 128 = ((UInt8.ofNat (m % 128 + 128)).toNat : Nat) := by
  rw [IntKind.wrap_u8', UInt8.toNat_ofNat']
  have e : ((m : Int) % 256) = ((m % 256 : Nat) : Int) := by omega
  rw [e]
  have := u8_or_nat (m % 256) 128 (by omega) (by omega)
  have key : ∀ x, x < 256 → x ||| 128 = x % 128 + 128 := by decide +kernel
  rw [key _ (by omega)] at this
  refine this.trans ?_
  omega
theorem u8_small (m : Nat) (h : m < 128) : (m : Int) = ((UInt8.ofNat m).toNat : Nat) := by
  rw [UInt8.toNat_ofNat']; omega
/-- One byte in a new block. -/
theorem byte_new (w : World) (b : UInt8) (n : Int) (hn : n = (b.toNat : Nat)) (m : Nat × Nat) : Part.ok (w.alloc (.cells #[.int .u8 n] 5 m)) ⟨some ⟨w.heap.size, 0, none⟩, [b], 1⟩ := by
  subst hn; exact ⟨show 1 ≤ maxLen by decide, bat_new w [b] 5 m⟩
set_option maxRecDepth 100000 in
set_option maxHeartbeats 1000000 in
theorem groups_any (v : Int) (hv : C.fits v) (w : World) :
    Calls Try.prog 47 #[.int .i64 v] w fun e w' => (∃ x, e = .returned x ∧ Own w' w.heap.size x (C.num v)) ∧ Below w.heap.size w w' := by
  have hv1 := hv.1
  have hv2 := hv.2
  have HV : Hid (C.fits v) := hv
  clear hv
  go_enter Try.func47, Try.ntmps47
  go_wp2
  go_loopw [3, 4] (fun n b wr => ∃ (m : Nat) (pre : List UInt8), n = .int .u64 m ∧ m < C.lim ∧ Own wr w.heap.size b pre ∧ pre ++ C.grp m = C.num v ∧ Below w.heap.size w wr) (fun n _ _ => (intOf n).toNat)
  case atStart => exact ⟨C.zig v, [], by rw [zig_xor hv1 hv2], C.zig_lt HV.out, Own.nil _ _, rfl, Below.refl _ _⟩
  case round =>
    obtain ⟨m, pre, rfl, hm, ho, he, hb⟩ := hrel
    have HM : Hid (m < C.lim) := hm
    have HO : Hid _ := ho
    have HE : Hid (pre ++ C.grp m = C.num v) := he
    have HB : Hid (Below w.heap.size w wr) := hb
    have HL : Hid (pre.length ≤ 10) := by
      have h1 := (C.num_ten HV.out).2
      have h2 := congrArg List.length HE.out
      rw [List.length_append] at h2
      show _ ≤ _
      omega
    clear hm ho he hb hv1 hv2
    by_cases h : m < 128
    · have HX : Hid (pre ++ [UInt8.ofNat m] = C.num v) := by
        have := HE.out; rw [C.grp_small h] at this; exact this
      have hu := u8_small m h
      generalize UInt8.ofNat m = x at hu HX
      have HU : Hid _ := hu
      clear hu
      go_wp2_with (at_builtin; go_must (refine wpList_append_part rfl _ _ rfl w.heap.size _ pre rfl (Own.below HO.out (below_new _ _)) ⟨some ⟨wr.heap.size, 0, none⟩, [x], 1⟩ rfl (byte_new _ _ _ HU.out _) (by have := HL.out; simp only [List.length_singleton]; omega) (by have := HB.out.size; simp; omega) ?_); intro v2 w2 ho2 hg2; have h2 : Below w.heap.size w w2 := Own.grown (Own.below HO.out (below_new _ _)) (HB.out.alloc HB.out.size _) (by have := HB.out.size; simp; omega) hg2)
      go_ret
      exact ⟨⟨_, rfl, by rw [← HX.out]; exact ho2⟩, h2⟩
    · have HX : Hid (pre ++ [UInt8.ofNat (m % 128 + 128)] ++ C.grp (m / 128) = C.num v) := by
        have := HE.out; rw [C.grp_big h] at this; show _ = _; rw [List.append_assoc]; exact this
      have hu := or_more m
      generalize UInt8.ofNat (m % 128 + 128) = x at hu HX
      have HU : Hid _ := hu
      clear hu
      go_wp2_with (at_builtin; go_must (refine wpList_append_part rfl _ _ rfl w.heap.size _ pre rfl (Own.below HO.out (below_new _ _)) ⟨some ⟨wr.heap.size, 0, none⟩, [x], 1⟩ rfl (byte_new _ _ _ HU.out _) (by have := HL.out; simp only [List.length_singleton]; omega) (by have := HB.out.size; simp; omega) ?_); intro v2 w2 ho2 hg2; have h2 : Below w.heap.size w w2 := Own.grown (Own.below HO.out (below_new _ _)) (HB.out.alloc HB.out.size _) (by have := HB.out.size; simp; omega) hg2)
      go_roundw
      case rel => exact ⟨m / 128, _, by go_num, Nat.lt_of_le_of_lt (Nat.div_le_self _ _) HM.out, ho2, HX.out, h2⟩
      case measure => simp [intOf]; omega
end Go.Proofs.Ytebfhomopdnkkaa
