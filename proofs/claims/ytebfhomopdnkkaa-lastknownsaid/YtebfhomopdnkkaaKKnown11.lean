/-
  LastKnown: what chapter 11 says of ties, of what may not be.
-/
import Derived.Test.YtebfhomopdnkkaaEAwake
namespace Go.Proofs.Ytebfhomopdnkkaa
open Go.RowKit Go.Lib
set_option linter.unusedVariables false

def txL : ByteArray := strOfNums (List.replicate 101 0)
theorem txL_size : txL.size = 101 := by
  have h := strOfNums_data (List.replicate 101 0)
  have : txL.size = txL.data.toList.length := Array.length_toList.symm
  rw [this]
  show (strOfNums (List.replicate 101 0)).data.toList.length = 101
  rw [h]; simp
theorem txL_bad : C.badL ⟨txL, 1, 0, 1⟩ = true := by
  simp [C.badL, txL_size]
theorem made101 (w : World) : (Instr.makeSlice 32 (.int .i64 101) (.int .i64 101)).run Try.prog w = .ok (.slice (some ⟨w.heap.size, 0, none⟩) 101 101) (w.alloc (.cells (madeCells #[.int .u8 0] 101) 5)) :=
  run_make_row' (P := Try.prog) 32 5 (.int .u8 0) 1 Try.underlying32 info_u8 rfl .i64 .i64 101 (by decide) (by decide) w
theorem conv101 (w : World) : (convert 32 9 (.slice (some ⟨w.heap.size, 0, none⟩) 101 101)).run Try.prog (w.alloc (.cells (madeCells #[.int .u8 0] 101) 5)) = .ok (.string txL) (w.alloc (.cells (madeCells #[.int .u8 0] 101) 5)) :=
  run_convert_bytes_arg (P := Try.prog) _ 32 5 Try.underlying32 Try.underlying5 w.heap.size 0 101 101 (List.replicate 101 0) (by simp) (fun i hi => by
    have h := toList_madeCells_one (.int .u8 0) 101
    have h2 : (madeCells #[.int .u8 0] 101)[i]? = some (.int .u8 0) := by
      rw [← Array.getElem?_toList, h, List.getElem?_replicate, if_pos hi]
    have h4 : (List.replicate 101 (0 : Int)).getD i 0 = 0 := by rw [List.getD_eq_getElem?_getD, List.getElem?_replicate, if_pos hi]; rfl
    rw [h4]
    generalize hM : madeCells #[.int .u8 0] 101 = M at *
    simp [World.cell?_alloc_mark, h2]) 9 Try.underlying9
/-- What Get reads of what Put wrote. -/
theorem put_get {S : C.La} (h : S.Ok) : C.getL (some (C.putL S)) = (S, some []) := by
  have := C.getL_putL h []
  rwa [List.append_nil] at this
theorem put_zero : C.putL C.La.zero = [0] := by
  show C.num 0 = _
  show C.grp 0 = _
  rw [C.grp_small (by omega)]; rfl
theorem ok_ac : (⟨txC, 1, 0, 2⟩ : C.La).Ok := ⟨by decide, by decide, by decide, by decide, fun h => by cases h⟩
set_option maxRecDepth 100000 in
set_option maxHeartbeats 4000000 in
theorem known11_any (w : World) : Calls Try.prog 3 #[] w fun e w' => e = .returned (.bool true) ∧ Below w.heap.size w w' := by
  have HL : Hid _ := tx_len
  go_enter Try.func3, Try.ntmps3
  go_wp2_with fail
  refine (awake11_any w).mono ?_
  rintro e w1 ⟨rfl, hb1⟩
  have HB1 : Hid (Below w.heap.size w w1) := hb1
  clear hb1
  go_wp2_with fail
  refine (e_new (Els.nil HB1.out)).mono ?_
  rintro e w2 ⟨g, rfl, h2, -⟩
  have H2 : Hid (Els w w2 ([] ++ ⟨g, C.La.zero, false⟩ :: [])) := h2
  clear h2
  go_wp2_with fail
  refine (e_value [] [] g C.La.zero ByteArray.empty false H2.out rfl rfl).mono ?_
  rintro e w3 ⟨rfl, hb3⟩
  have H3 : Hid (Els w w3 ([] ++ ⟨g, C.La.zero, false⟩ :: [])) := H2.out.below hb3
  clear hb3 H2
  go_wp2_with fail
  refine (e_wr [] [] g C.La.zero C.La.zero txA (-1) 0 1 false 1 H3.out HL.out.1 (by decide) (by decide) (by rfl)).mono ?_
  rintro e w4 ⟨rfl, h4, -⟩
  have H4 : Hid (Els w w4 ([] ++ ⟨g, C.La.zero, false⟩ :: [])) := h4
  clear h4 H3
  go_wp2_with fail
  refine (e_wr [] [] g C.La.zero C.La.zero txA 1 0 0 false 1 H4.out HL.out.1 (by decide) (by decide) (by rfl)).mono ?_
  rintro e w5 ⟨rfl, h5, -⟩
  have H5 : Hid (Els w w5 ([] ++ ⟨g, C.La.zero, false⟩ :: [])) := h5
  clear h5 H4
  have k1 := made101 w5
  have k2 := conv101 w5
  go_wp2_with fail
  refine (e_wr [] [] g C.La.zero C.La.zero txL 1 0 1 false 1 (H5.out.below (below_new w5 _)) (by rw [txL_size]; decide) (by simp [C.didL, txL_bad]) (by simp [C.errL, txL_bad]) (by simp [C.wrL, txL_bad])).mono ?_
  rintro e w6 ⟨rfl, h6, -⟩
  have H6 : Hid (Els w w6 ([] ++ ⟨g, C.La.zero, false⟩ :: [])) := h6
  clear h6 H5 k1 k2
  go_wp2_with fail
  refine (e_wr [] [] g C.La.zero ⟨txA, 1, 0, 1⟩ txA 1 0 1 true 0 H6.out HL.out.1 (by decide) (by decide) (by rfl)).mono ?_
  rintro e w7 ⟨rfl, h7, -⟩
  have H7 : Hid (Els w w7 ([] ++ ⟨g, ⟨txA, 1, 0, 1⟩, false⟩ :: [])) := h7
  clear h7 H6
  go_wp2_with fail
  refine (e_wr [] [] g ⟨txA, 1, 0, 1⟩ ⟨txA, 1, 0, 1⟩ txB 1 0 1 false 5 H7.out HL.out.2.1 (by decide) (by decide) (by rfl)).mono ?_
  rintro e w8 ⟨rfl, h8, -⟩
  have H8 : Hid (Els w w8 ([] ++ ⟨g, ⟨txA, 1, 0, 1⟩, false⟩ :: [])) := h8
  clear h8 H7
  go_wp2_with fail
  refine (e_wr [] [] g ⟨txA, 1, 0, 1⟩ ⟨txA, 1, 0, 1⟩ txA 1 0 1 false 0 H8.out HL.out.1 (by decide) (by decide) (by rfl)).mono ?_
  rintro e w9 ⟨rfl, h9, -⟩
  have H9 : Hid (Els w w9 ([] ++ ⟨g, ⟨txA, 1, 0, 1⟩, false⟩ :: [])) := h9
  clear h9 H8
  go_wp2_with fail
  refine (e_wr [] [] g ⟨txA, 1, 0, 1⟩ ⟨txC, 1, 0, 2⟩ txC 1 0 2 true 0 H9.out HL.out.2.2 (by decide) (by decide) (by rfl)).mono ?_
  rintro e wa ⟨rfl, ha, -⟩
  have HA : Hid (Els w wa ([] ++ ⟨g, ⟨txC, 1, 0, 2⟩, false⟩ :: [])) := ha
  clear ha H9
  go_wp2_with fail
  refine (e_when [] [] g ⟨txC, 1, 0, 2⟩ HA.out).mono ?_
  rintro e wb ⟨rfl, hb⟩
  have HB : Hid (Els w wb ([] ++ ⟨g, ⟨txC, 1, 0, 2⟩, false⟩ :: [])) := HA.out.below hb
  clear hb HA
  simp only
  go_wp2_with fail
  obtain ⟨gb, hgb⟩ : ∃ gb, gb = wb.heap.size := ⟨_, rfl⟩
  have hq : (wb.alloc (.cells #[.int .i64 0, .int .i64 2] 31)).heap[gb]? = some (.cells #[.int .i64 0, .int .i64 2] 31) := by rw [hgb]; exact heap_alloc_new wb _
  have HC : Hid (Els w (wb.alloc (.cells #[.int .i64 0, .int .i64 2] 31)) ([] ++ ⟨g, ⟨txC, 1, 0, 2⟩, false⟩ :: [])) := HB.out.below (below_new wb _)
  have HQ : Hid _ := hq
  rw [← hgb]
  generalize wb.alloc (.cells #[.int .i64 0, .int .i64 2] 31) = wc at *
  clear hq hgb HB
  obtain ⟨bs, hbs⟩ : ∃ bs, C.putL ⟨txC, 1, 0, 2⟩ = bs := ⟨_, rfl⟩
  have HBS : Hid (bs = [] ++ C.putL ⟨txC, 1, 0, 2⟩) := by show _ = _; rw [hbs]; rfl
  have HGT : Hid (C.getL (some bs) = (⟨txC, 1, 0, 2⟩, some [])) := by show _ = _; rw [← hbs]; exact put_get ok_ac
  have HLN : Hid (bs.length ≤ 100000) := by show _ ≤ _; rw [← hbs]; exact Nat.le_trans (C.putL_len ok_ac) (by decide)
  clear hbs
  refine (e_put [] [] g ⟨txC, 1, 0, 2⟩ none 0 0 [] bs HC.out (Is.nil _) (by decide) HBS.out).mono ?_
  rintro e w4 ⟨⟨p4, n4, c4, rfl, hi4⟩, hb4⟩
  have HI4 : Hid (Is w4 p4 n4 c4 bs) := hi4
  have H4 : Hid (Els w w4 ([] ++ ⟨g, ⟨txC, 1, 0, 2⟩, false⟩ :: [])) := HC.out.below hb4
  have HQ4 : Hid _ := keep_on hb4 HQ.out
  clear hi4 hb4 HC HQ
  go_wp2_with fail
  refine (read_at w4 p4 n4 c4 bs HI4.out HLN.out).mono ?_
  rintro e w5 ⟨⟨gr, p5, n5, c5, rfl, hlo, hlt5, hr5⟩, hb5⟩
  have HR5 : Hid (Rd w5 gr (some bs) p5 n5 c5) := hr5
  have HLO : Hid (w.heap.size ≤ gr) := Nat.le_trans H4.out.bel.size hlo
  have H5 : Hid (Els w w5 ([] ++ ⟨g, ⟨txC, 1, 0, 2⟩, false⟩ :: [])) := H4.out.below hb5
  have HQ5 : Hid _ := keep_on hb5 HQ4.out
  have HNE : Hid (gb ≠ gr) := by have := (Array.getElem?_eq_some_iff.1 HQ4.out).1; show _ ≠ _; omega
  clear hr5 hlo hlt5 hb5 H4 HI4 HQ4
  go_wp2_with fail
  refine (eget_any w5 gr (some bs) (some []) p5 n5 c5 ⟨txC, 1, 0, 2⟩ HR5.out HLN.out HGT.out).mono ?_
  rintro e w6 ⟨ht, -, hg6⟩
  obtain ⟨gx, rfl, hx1, hx2⟩ : ∃ gx, e = .returned (.pointer (some ⟨gx, 0, none⟩)) ∧ w5.heap.size ≤ gx ∧ EAt w6 gx false ⟨txC, 1, 0, 2⟩ := by
    rcases ht with ⟨h, -⟩ | ⟨r, k, -, h, h1, h2⟩
    · cases h
    · exact ⟨k, h, h1, h2⟩
  have H6 : Hid (Els w w6 [⟨g, ⟨txC, 1, 0, 2⟩, false⟩, ⟨gx, ⟨txC, 1, 0, 2⟩, false⟩]) := (H5.out.grown HR5.out HLO.out hg6).add false hx2 ok_ac (fun o ho => by have := (H5.out.at_ o ho).1.lt; omega) (Nat.le_trans H5.out.bel.size hx1)
  have hq6 : w6.heap[gb]? = some (.cells #[.int .i64 0, .int .i64 2] 31) := (hg6.block gb (Array.getElem?_eq_some_iff.1 HQ5.out).1 (fun e => HNE.out (by cases e; rfl))).trans HQ5.out
  obtain ⟨d0, d1⟩ := box2 hq6
  clear ht hg6 hx1 hx2 H5 HR5 hq6
  go_wp2_with fail
  refine (e_same gx g ⟨txC, 1, 0, 2⟩ ⟨txC, 1, 0, 2⟩ true H6.out (by simp) (by simp) (C.sameL_self _)).mono ?_
  rintro e w7 ⟨rfl, hb7⟩
  have H7 : Hid (Els w w7 [⟨g, ⟨txC, 1, 0, 2⟩, false⟩, ⟨gx, ⟨txC, 1, 0, 2⟩, false⟩]) := H6.out.below hb7
  clear hb7 H6 d0 d1
  go_wp2_with fail
  refine (e_new H7.out).mono ?_
  rintro e w8 ⟨gz, rfl, h8, -⟩
  have H8 : Hid (Els w w8 [⟨g, ⟨txC, 1, 0, 2⟩, false⟩, ⟨gx, ⟨txC, 1, 0, 2⟩, false⟩, ⟨gz, C.La.zero, false⟩]) := h8
  clear h8 H7
  go_wp2_with fail
  refine (e_same gx gz ⟨txC, 1, 0, 2⟩ C.La.zero false H8.out (by simp) (by simp) (by decide)).mono ?_
  rintro e w9 ⟨rfl, hb9⟩
  have H9 : Hid (Els w w9 [⟨g, ⟨txC, 1, 0, 2⟩, false⟩, ⟨gx, ⟨txC, 1, 0, 2⟩, false⟩, ⟨gz, C.La.zero, false⟩]) := H8.out.below hb9
  clear hb9 H8
  go_wp2_with fail
  refine (e_new H9.out).mono ?_
  rintro e wa ⟨gy, rfl, ha, -⟩
  have HA : Hid (Els w wa ([⟨g, ⟨txC, 1, 0, 2⟩, false⟩, ⟨gx, ⟨txC, 1, 0, 2⟩, false⟩, ⟨gz, C.La.zero, false⟩] ++ ⟨gy, C.La.zero, false⟩ :: [])) := ha
  clear ha H9
  go_wp2_with fail
  refine (e_put _ [] gy C.La.zero none 0 0 [] [0] HA.out (Is.nil _) (by decide) (by rw [put_zero]; rfl)).mono ?_
  rintro e wb ⟨⟨pb, nb, cb, rfl, hib⟩, hbb⟩
  have hcv := conv_is hib
  have HBB : Hid (Below w.heap.size w wb) := bt HA.out.bel hbb
  have hz0 : ((⟨[(0 : UInt8)].toArray⟩ : ByteArray).toList == [0]) = true := by rw [ByteArray.toList_eq]; rfl
  clear hib hbb HA
  go_wp2
  go_ret
  exact ⟨rfl, HBB.out⟩
end Go.Proofs.Ytebfhomopdnkkaa
