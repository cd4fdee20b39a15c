/-
  CrcXor: three rows of one length, put on one another: their sums, too.
-/
import Derived.Test.YtopiaiemhnbbnaaDoorWOwn
namespace Go.Proofs.YtopiaiemhnbbnaaDoor
open Go.RowKit Go.Lib
set_option linter.unusedVariables false

def xors (a b c : List UInt8) : List UInt8 := List.zipWith (· ^^^ ·) (List.zipWith (· ^^^ ·) a b) c
def upTo (l : List UInt8) (k : Nat) : List UInt8 := l.take k ++ List.replicate (l.length - k) 0
theorem upTo_length (l : List UInt8) (k : Nat) (h : k ≤ l.length) : (upTo l k).length = l.length := by simp [upTo]; omega
theorem upTo_zero (l : List UInt8) : upTo l 0 = List.replicate l.length 0 := by simp [upTo]
theorem upTo_all (l : List UInt8) : upTo l l.length = l := by simp [upTo]
theorem upTo_set (l : List UInt8) (k : Nat) (h : k < l.length) : (upTo l k).set k (l.getD k 0) = upTo l (k + 1) := by
  unfold upTo
  apply List.ext_getElem?
  intro i
  by_cases e : i = k
  · subst e
    rw [List.getElem?_set_self (by simp; omega), List.getElem?_append_left (by simp; omega)]
    simp [List.getD, h]
  · rw [List.getElem?_set_ne (by omega)]
    rcases Nat.lt_or_ge i k with q | q
    · rw [List.getElem?_append_left (by simp; omega), List.getElem?_append_left (by simp; omega)]
      simp [q, show i < k + 1 by omega]
    · rw [List.getElem?_append_right (by simp; omega), List.getElem?_append_right (by simp; omega)]
      simp only [List.length_take, List.getElem?_replicate]
      rw [show min k l.length = k by omega, show min (k + 1) l.length = k + 1 by omega]
      by_cases r : i < l.length
      · rw [if_pos (by omega), if_pos (by omega)]
      · rw [if_neg (by omega), if_neg (by omega)]
theorem xors_length (a b c : List UInt8) (h1 : b.length = a.length) (h2 : c.length = a.length) : (xors a b c).length = a.length := by simp [xors, h1, h2]
theorem xors_at (a b c : List UInt8) (h1 : b.length = a.length) (h2 : c.length = a.length) (k : Nat) (h : k < a.length) : (xors a b c).getD k 0 = (a.getD k 0 ^^^ b.getD k 0) ^^^ c.getD k 0 := by
  simp [xors, List.getD, List.getElem?_zipWith, h, show k < b.length by omega, show k < c.length by omega]

set_option maxHeartbeats 4000000 in
theorem xor_any (pa : Option Addr) (la : List UInt8) (ca : Nat) (pb : Option Addr) (lb : List UInt8) (cb : Nat) (pc : Option Addr) (lc : List UInt8) (cc : Nat) (w : World) (hT : Tabs w) (ha : (Part.mk pa la ca).ok w) (hb : (Part.mk pb lb cb).ok w) (hc : (Part.mk pc lc cc).ok w) :
    Calls Tryd.prog 5 #[.slice pa la.length ca, .slice pb lb.length cb, .slice pc lc.length cc] w fun e w' => e = .returned (.bool true) ∧ Below w.heap.size w w' := by
  have hla : la.length ≤ 9223372036854775807 := Nat.le_trans ha.1 (by decide)
  have hlb : lb.length ≤ 9223372036854775807 := Nat.le_trans hb.1 (by decide)
  have hlc : lc.length ≤ 9223372036854775807 := Nat.le_trans hc.1 (by decide)
  have HA : Hid (Part.ok w ⟨pa, la, ca⟩) := ha
  have HB : Hid (Part.ok w ⟨pb, lb, cb⟩) := hb
  have HC : Hid (Part.ok w ⟨pc, lc, cc⟩) := hc
  clear ha hb hc
  go_enter Tryd.func5, Tryd.ntmps5
  go_wp2_with fail
  refine (awake_any w hT).mono ?_
  rintro e w1 ⟨rfl, h1⟩
  have hT1 := hT.below h1
  have HA1 : Hid (Part.ok w1 ⟨pa, la, ca⟩) := Part.ok.below HA.out h1
  have HB1 : Hid (Part.ok w1 ⟨pb, lb, cb⟩) := Part.ok.below HB.out h1
  have HC1 : Hid (Part.ok w1 ⟨pc, lc, cc⟩) := Part.ok.below HC.out h1
  by_cases h3 : (300 : Int) < la.length
  · go_wp2
    go_ret
    exact ⟨rfl, h1⟩
  by_cases h4 : ((lb.length : Int) != la.length) = true
  · go_wp2
    go_ret
    exact ⟨rfl, h1⟩
  by_cases h5 : ((lc.length : Int) != la.length) = true
  · go_wp2
    go_ret
    exact ⟨rfl, h1⟩
  have hmk := run_make_row' (P := Tryd.prog) 22 5 (.int .u8 0) 1 Tryd.underlying22 info_u8 rfl .i64 .i64 la.length (by omega) (by omega)
  have HBL : Hid (lb.length = la.length) := by show _ = _; simp at h4; omega
  have HCL : Hid (lc.length = la.length) := by show _ = _; simp at h5; omega
  have HXL : Hid ((xors la lb lc).length = la.length) := xors_length la lb lc HBL.out HCL.out
  have hm0 := Own.made w1 w1.heap.size la.length (Nat.le_refl _) (by unfold maxLen; omega)
  rw [List.length_replicate] at hm0
  go_wp2
  go_loopw [8] (fun i wr => ∃ k : Nat, k ≤ la.length ∧ i = .int .i64 k ∧ Below w1.heap.size w1 wr ∧ Own wr w1.heap.size (.slice (some ⟨w1.heap.size, 0, none⟩) la.length la.length) (upTo (xors la lb lc) k)) (fun i _ => la.length - (intOf i).toNat)
  case atStart =>
    refine ⟨0, Nat.zero_le _, rfl, below_new _ _, ?_⟩
    rw [upTo_zero, HXL.out]; exact hm0
  case round =>
    obtain ⟨k, hk, rfl, hbw, how⟩ := hrel
    clear hm0
    by_cases hlt : k < la.length
    · have hkb : k < lb.length := by rw [HBL.out]; exact hlt
      have hkc : k < lc.length := by rw [HCL.out]; exact hlt
      obtain ⟨ba, oa, rfl, hca⟩ := (HA1.out.below hbw).2 (show 0 < la.length by omega)
      obtain ⟨bb, ob, rfl, hcb⟩ := (HB1.out.below hbw).2 (show 0 < lb.length by omega)
      obtain ⟨bc, oc, rfl, hcc⟩ := (HC1.out.below hbw).2 (show 0 < lc.length by omega)
      have ea := hca k hlt
      have eb := hcb k hkb
      have ec := hcc k hkc
      clear hca hcb hcc
      have HX : Hid ((xors la lb lc).getD k 0 = (la.getD k 0 ^^^ lb.getD k 0) ^^^ lc.getD k 0) := xors_at la lb lc HBL.out HCL.out k hlt
      simp only at ea eb ec
      generalize la.getD k 0 = xa at HX ea
      generalize lb.getD k 0 = xb at HX eb
      generalize lc.getD k 0 = xc at HX ec
      have hul := upTo_length (xors la lb lc) k (by rw [HXL.out]; exact hk)
      have HO : Hid _ := how.set (by rw [hul, HXL.out]) k ((xa ^^^ xb) ^^^ xc)
      obtain ⟨ed, fd⟩ := how.cell (by rw [hul, HXL.out]) k (by rw [hul, HXL.out]; exact hlt)
      have e1 := xor8 xa xb
      have e2 := xor8 (xa ^^^ xb) xc
      have HU : Hid ((upTo (xors la lb lc) k).set k ((xa ^^^ xb) ^^^ xc) = upTo (xors la lb lc) (k + 1)) := by
        show _ = _
        rw [← HX.out]; exact upTo_set _ _ (by rw [HXL.out]; exact hlt)
      generalize (xa ^^^ xb) ^^^ xc = xd at HX HO e2 HU
      generalize xa ^^^ xb = xe at e1 e2
      have HW : Hid _ := how
      have HBW : Hid _ := hbw
      clear hul how HX
      go_wp2
      go_region
      go_wp2
      go_roundw
      case rel =>
        refine ⟨k + 1, by omega, by go_num, (HBW.out.setCell (Nat.le_refl _) _).drew, ?_⟩
        have := HO.out
        rw [HU.out] at this
        exact Own.drew this
      case measure => simp [intOf]; omega
    · obtain rfl : k = la.length := by omega
      have HW2 : Hid (Part.ok wr ⟨some ⟨w1.heap.size, 0, none⟩, xors la lb lc, la.length⟩) := by
        have := how
        rw [show la.length = (xors la lb lc).length from HXL.out.symm, upTo_all] at this
        obtain ⟨p, cap, hv, hok⟩ := Own.part this
        simp only [Value.slice.injEq] at hv
        obtain ⟨rfl, _, rfl⟩ := hv
        rw [HXL.out] at hok
        exact hok
      have hTr := hT1.below hbw
      have HAr : Hid (Part.ok wr ⟨pa, la, ca⟩) := Part.ok.below HA1.out hbw
      have HBr : Hid (Part.ok wr ⟨pb, lb, cb⟩) := Part.ok.below HB1.out hbw
      have HCr : Hid (Part.ok wr ⟨pc, lc, cc⟩) := Part.ok.below HC1.out hbw
      have HS : Hid (C.crc (xors la lb lc) = (C.crc la ^^^ C.crc lb) ^^^ C.crc lc) := C.crc_xor3 la lb lc HBL.out HCL.out
      generalize hsa : C.crc la = sa at HS
      generalize hsb : C.crc lb = sb at HS
      generalize hsc : C.crc lc = sc at HS
      have HSA : Hid (C.crc la = sa) := hsa
      have HSB : Hid (C.crc lb = sb) := hsb
      have HSC : Hid (C.crc lc = sc) := hsc
      have e1 := xor32 sa sb
      have e2 := xor32 (sa ^^^ sb) sc
      generalize sa ^^^ sb ^^^ sc = sd at HS e2
      generalize sa ^^^ sb = se at e1 e2
      clear how hsa hsb hsc
      go_wp2_with fail
      refine (of_newB wr [⟨some ⟨w1.heap.size, 0, none⟩, xors la lb lc, la.length⟩] (sd.toNat : Nat) 1 _ 1 _ rfl (by simp [Part.v, HXL.out]) rfl hTr (by simp) (ok_one HW2.out) (by rw [← HS.out]; simp [joined])).mono ?_
      rintro e w5 ⟨rfl, h5'⟩
      have hT5 := hTr.below h5'
      have HA5 : Hid (Part.ok w5 ⟨pa, la, ca⟩) := Part.ok.below HAr.out h5'
      have HB5 : Hid (Part.ok w5 ⟨pb, lb, cb⟩) := Part.ok.below HBr.out h5'
      have HC5 : Hid (Part.ok w5 ⟨pc, lc, cc⟩) := Part.ok.below HCr.out h5'
      go_wp2_with fail
      refine (of_newB w5 [⟨pa, la, ca⟩] (sa.toNat : Nat) 1 _ 1 _ rfl rfl rfl hT5 (by simp) (ok_one HA5.out) (by rw [← HSA.out]; simp [joined])).mono ?_
      rintro e w6 ⟨rfl, h6⟩
      have hT6 := hT5.below h6
      have HB6 : Hid (Part.ok w6 ⟨pb, lb, cb⟩) := Part.ok.below HB5.out h6
      have HC6 : Hid (Part.ok w6 ⟨pc, lc, cc⟩) := Part.ok.below HC5.out h6
      go_wp2_with fail
      refine (of_newB w6 [⟨pb, lb, cb⟩] (sb.toNat : Nat) 1 _ 1 _ rfl rfl rfl hT6 (by simp) (ok_one HB6.out) (by rw [← HSB.out]; simp [joined])).mono ?_
      rintro e w7 ⟨rfl, h7⟩
      have hT7 := hT6.below h7
      have HC7 : Hid (Part.ok w7 ⟨pc, lc, cc⟩) := Part.ok.below HC6.out h7
      go_wp2_with fail
      refine (of_newB w7 [⟨pc, lc, cc⟩] (sc.toNat : Nat) 1 _ 1 _ rfl rfl rfl hT7 (by simp) (ok_one HC7.out) (by rw [← HSC.out]; simp [joined])).mono ?_
      rintro e w8 ⟨rfl, h8⟩
      go_wp2
      go_ret
      exact ⟨rfl, bt (bt (bt (bt (bt h1 hbw) h5') h6) h7) h8⟩
end Go.Proofs.YtopiaiemhnbbnaaDoor
