/-
  TallyKnown: what chapter 10 says of bounds.
-/
import Derived.Test.YtnkfabonggofgaaYAwake
namespace Go.Proofs.Ytnkfabonggofgaa
open Go.RowKit Go.Lib
set_option linter.unusedVariables false

namespace C
/-- So many of the greatest taken away. -/
def dn3 (k : Nat) : Ta := ⟨zero77, ⟨0, 0, 0, (k : Int) * 1099511627776, 0, 0, 0⟩⟩
theorem dn3_zero : zeroT = dn3 0 := by unfold zeroT dn3 zero77; simp
theorem dn3_err {k : Nat} (h : k < 1024) : errT (dn3 k) 3 (-1099511627776) = 0 := by
  unfold errT
  rw [if_neg (by decide), if_pos (by decide), if_neg]
  show ¬ 1125899906842624 < (k : Int) * 1099511627776 - -1099511627776
  omega
theorem dn3_add {k : Nat} (h : k < 1024) : addT (dn3 k) 3 (-1099511627776) = dn3 (k + 1) := by
  unfold addT
  rw [if_neg (by decide), if_pos (by decide), if_neg]
  · show (⟨zero77, ⟨0, 0, 0, (k : Int) * 1099511627776 - -1099511627776, 0, 0, 0⟩⟩ : Ta) = dn3 (k + 1)
    unfold dn3
    have : (k : Int) * 1099511627776 - -1099511627776 = ((k + 1 : Nat) : Int) * 1099511627776 := by omega
    rw [this]
  · show ¬ 1125899906842624 < (k : Int) * 1099511627776 - -1099511627776
    omega
theorem dn3_all : dn3 1024 = ⟨zero77, ⟨0, 0, 0, 1125899906842624, 0, 0, 0⟩⟩ := rfl
end C
set_option maxRecDepth 100000 in
set_option maxHeartbeats 4000000 in
theorem known10_any (w : World) : Calls Try.prog 3 #[] w fun e w' => e = .returned (.bool true) ∧ Below w.heap.size w w' := by
  go_enter Try.func3, Try.ntmps3
  go_wp2_with fail
  refine (awake10_any w).mono ?_
  rintro e w1 ⟨rfl, hb1⟩
  have HB1 : Hid (Below w.heap.size w w1) := hb1
  clear hb1
  go_wp2_with fail
  refine (t_new (Tas.nil (HB1.out))).mono ?_
  rintro e w2 ⟨g, rfl, h2, -⟩
  have H2 : Hid (Tas w w2 ([] ++ ⟨g, C.zeroT, false⟩ :: [])) := h2
  clear h2
  go_wp2_with fail
  refine (t_add [] [] g C.zeroT C.zeroT 7 1 1 H2.out (by decide) (by rfl)).mono ?_
  rintro e w3 ⟨rfl, h3, -⟩
  have H3 : Hid (Tas w w3 ([] ++ ⟨g, C.zeroT, false⟩ :: [])) := h3
  clear h3 H2
  go_wp2_with fail
  refine (t_add [] [] g C.zeroT C.zeroT 0 1099511627777 1 H3.out (by decide) (by rfl)).mono ?_
  rintro e w4 ⟨rfl, h4, -⟩
  have H4 : Hid (Tas w w4 ([] ++ ⟨g, C.zeroT, false⟩ :: [])) := h4
  clear h4 H3
  go_wp2_with fail
  refine (t_add [] [] g C.zeroT C.zeroT 0 (-1099511627777) 1 H4.out (by decide) (by rfl)).mono ?_
  rintro e w5 ⟨rfl, h5, -⟩
  rw [C.dn3_zero] at h5
  have H5 : Hid (Tas w w5 ([] ++ ⟨g, C.dn3 0, false⟩ :: [])) := h5
  clear h5 H4
  go_wp2_with fail
  go_loopw [5] (fun s5 wr => ∃ (k : Nat), s5 = .int .i64 k ∧ k ≤ 1024 ∧ Hid (Tas w wr ([] ++ ⟨g, C.dn3 k, false⟩ :: []))) (fun s5 _ => 1024 - (intOf s5).toNat)
  case atStart => exact ⟨0, rfl, Nat.zero_le _, H5.out⟩
  case round =>
    clear H5
    obtain ⟨k, rfl, hkn, HO⟩ := hrel
    by_cases hlt : k < 1024
    · have HE : Hid _ := C.dn3_err hlt
      have HA : Hid _ := C.dn3_add hlt
      generalize hdn : C.dn3 (k + 1) = D1 at HA
      generalize hdk : C.dn3 k = D0 at HO HE HA
      have HD1 : Hid _ := hdn
      clear hdn hdk
      go_wp2_with fail
      refine (t_add [] [] g D0 D1 3 (-1099511627776) 0 HO.out HE.out HA.out).mono ?_
      rintro e w6 ⟨rfl, h6, -⟩
      have H6 : Hid (Tas w w6 ([] ++ ⟨g, C.dn3 (k + 1), false⟩ :: [])) := by rw [HD1.out]; exact h6
      clear h6 HO HD1 HE HA
      go_wp2
      go_roundw
      case rel => exact ⟨k + 1, by go_num, by omega, H6.out⟩
      case measure => simp [intOf]; omega
    · obtain rfl : k = 1024 := by omega
      rw [C.dn3_all] at HO
      go_wp2_with fail
      refine (t_add [] [] g ⟨C.zero77, ⟨0, 0, 0, 1125899906842624, 0, 0, 0⟩⟩ ⟨C.zero77, ⟨0, 0, 0, 1125899906842624, 0, 0, 0⟩⟩ 3 (-1) 2 HO.out (by decide) (by rfl)).mono ?_
      rintro e w6 ⟨rfl, h6, -⟩
      have H6 : Hid (Tas w w6 ([] ++ ⟨g, ⟨C.zero77, ⟨0, 0, 0, 1125899906842624, 0, 0, 0⟩⟩, false⟩ :: [])) := h6
      clear h6 HO
      go_wp2_with fail
      refine (t_add [] [] g ⟨C.zero77, ⟨0, 0, 0, 1125899906842624, 0, 0, 0⟩⟩ ⟨⟨0, 0, 0, 1, 0, 0, 0⟩, ⟨0, 0, 0, 1125899906842624, 0, 0, 0⟩⟩ 3 1 0 H6.out (by decide) (by rfl)).mono ?_
      rintro e w7 ⟨rfl, h7, -⟩
      have H7 : Hid (Tas w w7 ([] ++ ⟨g, ⟨⟨0, 0, 0, 1, 0, 0, 0⟩, ⟨0, 0, 0, 1125899906842624, 0, 0, 0⟩⟩, false⟩ :: [])) := h7
      clear h7 H6
      go_wp2_with fail
      refine (t_value [] [] g _ (-1125899906842623) H7.out (by decide)).mono ?_
      rintro e w8 ⟨rfl, hw⟩
      subst hw
      go_wp2_with fail
      refine (read_at w8 none 0 0 [] (Is.nil _) (by decide)).mono ?_
      rintro e w9 ⟨⟨gr, p9, n9, c9, rfl, hlo, hlt9, hr9⟩, hb9⟩
      have HR9 : Hid (Rd w9 gr (some []) p9 n9 c9) := hr9
      have H9 : Hid (Tas w w9 ([] ++ ⟨g, ⟨⟨0, 0, 0, 1, 0, 0, 0⟩, ⟨0, 0, 0, 1125899906842624, 0, 0, 0⟩⟩, false⟩ :: [])) := H7.out.below hb9
      have HLO : Hid (w.heap.size ≤ gr) := Nat.le_trans H7.out.bel.size hlo
      clear hr9 hb9 hlo hlt9 H7
      go_wp2_with fail
      refine (tget_any w9 gr (some []) none p9 n9 c9 C.zeroT HR9.out (by decide) rfl).mono ?_
      rintro e w10 ⟨ht, -, hg10⟩
      obtain rfl : e = .returned (.pointer none) := by
        rcases ht with ⟨-, h⟩ | ⟨r, k, h, -⟩
        · exact h
        · cases h
      have H10 : Hid (Tas w w10 ([] ++ ⟨g, ⟨⟨0, 0, 0, 1, 0, 0, 0⟩, ⟨0, 0, 0, 1125899906842624, 0, 0, 0⟩⟩, false⟩ :: [])) := H9.out.grown HR9.out HLO.out hg10
      clear ht hg10 H9 HR9
      go_wp2_with fail
      refine (t_add [] [] g _ ⟨⟨0, 0, 0, 1, 0, 0, 0⟩, ⟨0, 0, 0, 1125899906842624, 0, 0, 0⟩⟩ 0 0 0 H10.out (by decide) (by rfl)).mono ?_
      rintro e w11 ⟨rfl, h11, -⟩
      have H11 : Hid (Below w.heap.size w w11) := h11.bel
      clear h11 H10
      go_wp2
      go_ret
      exact ⟨rfl, H11.out⟩
end Go.Proofs.Ytnkfabonggofgaa
