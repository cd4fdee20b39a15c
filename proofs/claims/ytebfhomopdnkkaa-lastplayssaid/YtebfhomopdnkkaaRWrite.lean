/-
  The document's own Num, Bytes (rostrumref1).
-/
import Derived.Test.YtebfhomopdnkkaaWLaw
namespace Go.Proofs.Ytebfhomopdnkkaa
open Go.RowKit Go.Lib
set_option linter.unusedVariables false

theorem zig_not {v : Int} (h1 : -9223372036854775808 ≤ v) (h : v < 0) : bits .xor .u64 IntKind.u64.max (IntKind.u64.wrap (IntKind.u64.wrap v * 2)) = (C.zig v : Nat) := by
  rw [wrap_u64_neg (v := v) h (by omega), show IntKind.u64.wrap ((v + 18446744073709551616) * 2) = 2 * v + 18446744073709551616 by rw [IntKind.wrap_u64]; omega]
  obtain ⟨n, hn⟩ := Int.eq_ofNat_of_zero_le (show 0 ≤ 2 * v + 18446744073709551616 by omega)
  rw [hn]
  have := u64_xor_nat 18446744073709551615 n (by omega) (by omega)
  rw [Nat.xor_comm, xor_all n (by omega)] at this
  have e : IntKind.u64.max = ((18446744073709551615 : Nat) : Int) := by decide
  rw [e, this]
  unfold C.zig
  rw [if_neg (by omega)]
  omega
theorem zig_twice {v : Int} (h : 0 ≤ v) : v * 2 = (C.zig v : Nat) := by
  unfold C.zig
  rw [if_pos h]
  omega
theorem byte_more (m : Nat) : (m : Int) % 128 + 128 = ((UInt8.ofNat (m % 128 + 128)).toNat : Nat) := by
  rw [UInt8.toNat_ofNat']; omega
set_option maxRecDepth 100000 in
set_option maxHeartbeats 4000000 in
theorem refnum_any (pb : Option Addr) (nb cb : Nat) (lb : List UInt8) (v : Int) (w : World) (hb : Is w pb nb cb lb) (hv : C.fits v) (hl : lb.length ≤ 90000) :
    Calls Try.prog 37 #[.slice pb nb cb, .int .i64 v] w fun e w' => (∃ x, e = .returned x ∧ Own w' w.heap.size x (lb ++ C.num v)) ∧ Below w.heap.size w w' := by
  obtain ⟨hn, hok⟩ := hb
  subst hn
  have HOK : Hid _ := hok
  have HV : Hid _ := hv
  have hv1 := hv.1
  have hv2 := hv.2
  have ho1 : Hid (Own (w.alloc (.cells #[] 5)) w.heap.size (.slice (some ⟨w.heap.size, 0, none⟩) 0 0) []) := Own.empty w w.heap.size (Nat.le_refl _)
  have HL : Hid (lb.length ≤ 90000) := hl
  clear hok hv
  by_cases h0 : v < 0
  all_goals
    go_enter Try.func37, Try.ntmps37
    go_wp2_with (at_builtin; go_must (refine wpList_append_part rfl _ _ rfl w.heap.size _ [] rfl ho1.out ⟨pb, lb, cb⟩ rfl (Part.ok.below HOK.out (below_new _ _)) (by simp only [List.length_nil]; omega) (by simp) ?_); intro v2 w2 ho2 hg2; have h2 := Own.grown ho1.out (below_new w _) (by simp) hg2)
    go_loopw [5, 6] (fun n b wr => ∃ (m : Nat) (pre : List UInt8), n = .int .u64 m ∧ m < C.lim ∧ Own wr w.heap.size b (lb ++ pre) ∧ pre ++ C.grp m = C.num v ∧ Below w.heap.size w wr) (fun n _ _ => (intOf n).toNat)
    case atStart => exact ⟨C.zig v, [], by first | rw [zig_not hv1 h0] | rw [zig_twice h0], C.zig_lt HV.out, by simpa using ho2, rfl, h2⟩
    case round =>
      obtain ⟨m, pre, rfl, hm, ho, he, hb⟩ := hrel
      have HM : Hid (m < C.lim) := hm
      have HO : Hid _ := ho
      have HE : Hid (pre ++ C.grp m = C.num v) := he
      have HB : Hid _ := hb
      have HLL : Hid ((lb ++ pre).length ≤ 90010) := by
        have h1 := (C.num_ten HV.out).2
        have h2 := congrArg List.length HE.out
        have h3 := HL.out
        rw [List.length_append] at h2
        show _ ≤ _
        rw [List.length_append]
        omega
      clear hm ho he hb hv1 hv2
      by_cases h : m < 128
      · have HX : Hid (lb ++ pre ++ [UInt8.ofNat m] = lb ++ C.num v) := by
          have := HE.out; rw [C.grp_small h] at this; show _ = _; rw [List.append_assoc, this]
        have hu := u8_small m h
        generalize UInt8.ofNat m = x at hu HX
        have HU : Hid _ := hu
        clear hu
        go_wp2_with (at_builtin; go_must (refine wpList_append_part rfl _ _ rfl w.heap.size _ (lb ++ pre) rfl (Own.below HO.out (below_new _ _)) ⟨some ⟨_, 0, none⟩, [x], 1⟩ rfl (byte_new _ _ _ HU.out _) (by have := HLL.out; simp only [List.length_singleton]; omega) (by have := HB.out.size; simp; omega) ?_); intro v3 w3 ho3 hg3; have h3 := Own.grown (Own.below HO.out (below_new _ _)) (HB.out.alloc HB.out.size _) (by have := HB.out.size; simp; omega) hg3)
        go_ret
        exact ⟨⟨_, rfl, by rw [← HX.out]; exact ho3⟩, h3⟩
      · have HX : Hid (pre ++ [UInt8.ofNat (m % 128 + 128)] ++ C.grp (m / 128) = C.num v) := by
          have := HE.out; rw [C.grp_big h] at this; show _ = _; rw [List.append_assoc]; exact this
        have hq : IntKind.u64.wrap ((m : Int) / 128) = (m : Int) / 128 := by
          have h1 := HM.out
          unfold C.lim at h1
          exact wrap_u64_ge (by omega) (by omega)
        have hu := byte_more m
        generalize UInt8.ofNat (m % 128 + 128) = x at hu HX
        have HU : Hid _ := hu
        clear hu
        go_wp2_with (at_builtin; go_must (refine wpList_append_part rfl _ _ rfl w.heap.size _ (lb ++ pre) rfl (Own.below HO.out (below_new _ _)) ⟨some ⟨_, 0, none⟩, [x], 1⟩ rfl (byte_new _ _ _ HU.out _) (by have := HLL.out; simp only [List.length_singleton]; omega) (by have := HB.out.size; simp; omega) ?_); intro v3 w3 ho3 hg3; have h3 := Own.grown (Own.below HO.out (below_new _ _)) (HB.out.alloc HB.out.size _) (by have := HB.out.size; simp; omega) hg3)
        go_roundw
        case rel => exact ⟨m / 128, _, by go_num, Nat.lt_of_le_of_lt (Nat.div_le_self _ _) HM.out, by rw [List.append_assoc] at ho3; exact ho3, HX.out, h3⟩
        case measure => simp [intOf]; omega
set_option maxHeartbeats 1000000 in
theorem refbytes_any (pb : Option Addr) (nb cb : Nat) (lb : List UInt8) (px : Option Addr) (nx cx : Nat) (lx : List UInt8) (w : World) (hb : Is w pb nb cb lb) (hx : Is w px nx cx lx) (hl : lb.length ≤ 40000) (hlx : lx.length ≤ 40000) :
    Calls Try.prog 38 #[.slice pb nb cb, .slice px nx cx] w fun e w' => (∃ x, e = .returned x ∧ Own w' w.heap.size x (lb ++ C.byt lx)) ∧ Below w.heap.size w w' := by
  have HB : Hid (Is w pb nb cb lb) := hb
  have HX : Hid (Is w px nx cx lx) := hx
  have hn := hx.1
  have HN : Hid (nx = lx.length) := hn
  have HV : Hid (C.fits (nx : Int)) := ⟨by omega, by omega⟩
  have HE : Hid (lb ++ C.num (nx : Int) ++ lx = lb ++ C.byt lx) := by show _ = _; rw [hn, List.append_assoc]; rfl
  have HL : Hid ((lb ++ C.num (nx : Int)).length + lx.length ≤ 100000) := by
    have := (C.num_ten HV.out).2
    show _ ≤ _
    rw [List.length_append]
    omega
  clear hb hx hn
  go_enter Try.func38, Try.ntmps38
  go_wp2_with fail
  refine (refnum_any pb nb cb lb (nx : Int) w HB.out HV.out (by omega)).mono ?_
  rintro e w1 ⟨⟨x1, rfl, ho1⟩, h1⟩
  have HO1 : Hid _ := ho1
  have HX1 : Hid (Part.ok w1 ⟨px, lx, cx⟩) := (HX.out.below h1).2
  clear ho1
  obtain rfl : nx = lx.length := HN.out
  go_wp2_with (at_builtin; go_must (refine wpList_append_part rfl _ _ rfl w.heap.size _ (lb ++ C.num (lx.length : Int)) rfl HO1.out ⟨px, lx, cx⟩ rfl HX1.out (Nat.le_trans HL.out (by decide)) h1.size ?_); intro v3 w3 ho3 hg3; have h3 := Own.grown HO1.out h1 h1.size hg3)
  go_ret
  exact ⟨⟨_, rfl, by have := ho3; rw [HE.out] at this; exact this⟩, h3⟩
end Go.Proofs.Ytebfhomopdnkkaa
