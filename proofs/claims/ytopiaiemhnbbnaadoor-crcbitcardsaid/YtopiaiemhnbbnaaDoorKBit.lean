/-
  CrcBit: a run of at most 32 bits turned, and the sum is another.
-/
import Derived.Test.YtopiaiemhnbbnaaDoorWOwn
import Derived.Deep.RegionHeld3
namespace Go.Proofs.YtopiaiemhnbbnaaDoor
open Go.RowKit Go.Lib
set_option linter.unusedVariables false

theorem xor_bit (x : UInt8) (r : Nat) : bits .xor .u8 (x.toNat : Int) ((2 : Int) ^ r % 256) = ((x ^^^ UInt8.ofNat (2 ^ r)).toNat : Nat) := by
  have := xor8 x (UInt8.ofNat (2 ^ r))
  rw [UInt8.toNat_ofNat'] at this
  rw [← this]
  congr 1
/-- string(x). -/
theorem conv_str {w : World} {x : Part} (hx : x.ok w) : (convert 22 9 x.v).run Tryd.prog w = .ok (.string ⟨x.l.toArray⟩) w := by
  obtain ⟨p, l, c⟩ := x
  simp only [Part.v]
  rcases Nat.eq_zero_or_pos l.length with h | h
  · obtain rfl : l = [] := List.eq_nil_of_length_eq_zero h
    show (convert 22 9 (.slice p 0 c)).run Tryd.prog w = _
    rw [run_convert_bytes_string w 22 9 5 p 0 c Tryd.underlying22 Tryd.underlying5 Tryd.underlying9]
    cases p <;> simp [Conv.bytesToString, loadCells, loadCellsFrom] <;> rfl
  · obtain ⟨b, o, h1, h2⟩ := hx.2 h
    simp only at h1 h2
    subst h1
    have := run_convert_bytes_arg (P := Tryd.prog) w 22 5 Tryd.underlying22 Tryd.underlying5 b o l.length c (l.map fun z => (z.toNat : Int)) (by simp) (fun i hi => by rw [h2 i hi]; simp [List.getD, hi]) 9 Tryd.underlying9
    rw [this]
    have e : strOfNums (l.map fun z => (z.toNat : Int)) = ⟨l.toArray⟩ := by
      have h3 := strOfNums_data (l.map fun z => (z.toNat : Int))
      have h4 : (l.map fun z => (z.toNat : Int)).map (fun n => UInt8.ofNat n.toNat) = l := by
        rw [List.map_map]; conv => rhs; rw [← List.map_id l]
        apply List.map_congr_left; intro a _; simp
      rw [h4] at h3
      cases hh : strOfNums (l.map fun z => (z.toNat : Int)) with
      | mk d => rw [hh] at h3; simp only at h3; rw [← h3]
    rw [e]
theorem of_one (wr : World) (x : Part) (r : Int) (hT : Tabs wr) (hx : x.ok wr) (hr : ((C.crc x.l).toNat : Int) = r) (w' : World) (B : Nat) (hcell : w'.cell? ⟨B, 0, none⟩ = some x.v) (hb : Below wr.heap.size wr w') :
    Calls Tryd.prog 8 #[.slice (some ⟨B, 0, none⟩) 1 1] w' fun e w'' => e = .returned (.int .u32 r) ∧ w'' = w' := by
  refine of_at (some ⟨B, 0, none⟩) [x] 1 r w' (hT.below hb) (show 1 ≤ maxLen by decide) (fun _ => ⟨B, 0, rfl, fun i y hy => ?_⟩) (ok_one (hx.below hb)) (by simpa [joined] using hr)
  match i, hy with
  | 0, hy => simp at hy; subst hy; exact hcell
set_option maxHeartbeats 4000000 in
theorem bit_any (pa : Option Addr) (la : List UInt8) (ca : Nat) (m : Int) (wm : (Lit.int .i64 m).wf = true) (t : Int) (wt : (Lit.int .u32 t).wf = true) (w : World) (hT : Tabs w) (ha : (Part.mk pa la ca).ok w) :
    Calls Tryd.prog 4 #[.slice pa la.length ca, .int .i64 m, .int .u32 t] w fun e w' => e = .returned (.bool true) ∧ Below w.heap.size w w' := by
  have hla : la.length ≤ 9223372036854775807 := Nat.le_trans ha.1 (by decide)
  have hm0 : -9223372036854775808 ≤ m ∧ m ≤ 9223372036854775807 := by
    have h1 : IntKind.i64.min = -9223372036854775808 := rfl
    have h2 : IntKind.i64.max = 9223372036854775807 := rfl
    simp only [Lit.wf, Bool.and_eq_true, decide_eq_true_eq] at wm
    omega
  have ht0 : 0 ≤ t ∧ t < 4294967296 := by
    have h1 : IntKind.u32.min = 0 := rfl
    have h2 : IntKind.u32.max = 4294967295 := rfl
    simp only [Lit.wf, Bool.and_eq_true, decide_eq_true_eq] at wt
    omega
  have HA : Hid (Part.ok w ⟨pa, la, ca⟩) := ha
  clear ha wm wt
  go_enter Tryd.func4, Tryd.ntmps4
  go_wp2_with fail
  refine (awake_any w hT).mono ?_
  rintro e w1 ⟨rfl, h1⟩
  have hT1 := hT.below h1
  have HA1 : Hid (Part.ok w1 ⟨pa, la, ca⟩) := Part.ok.below HA.out h1
  by_cases h3 : (300 : Int) < la.length
  · go_wp2
    go_ret
    exact ⟨rfl, h1⟩
  by_cases h4 : m < 0
  · go_wp2
    go_ret
    exact ⟨rfl, h1⟩
  obtain ⟨at_, rfl⟩ := Int.eq_ofNat_of_zero_le (show 0 ≤ m by omega)
  by_cases h5 : (8 * (la.length : Int)) ≤ at_
  · go_wp2
    go_ret
    exact ⟨rfl, h1⟩
  by_cases h6 : (t == 0) = true
  · go_wp2
    go_ret
    exact ⟨rfl, h1⟩
  have ho1 := Own.empty w1 w1.heap.size (Nat.le_refl _)
  go_wp2_with (at_builtin; go_must (refine wpList_append_part rfl _ _ rfl w1.heap.size _ [] rfl ho1 ⟨pa, la, ca⟩ rfl (Part.ok.below HA1.out (below_new _ _)) (by simp only [List.length_nil]; omega) (by simp) ?_); intro v2 w2 ho2 hg2; have h2 := ho1.grown (below_new w1 _) (by simp) hg2)
  have hlp : 0 < la.length := by omega
  obtain ⟨g, cap, rfl, hg⟩ := ho2.shape (by simpa using hlp)
  have HO2 : Hid (Own w2 w1.heap.size (.slice (some ⟨g, 0, none⟩) la.length cap) la) := ho2
  try simp only [List.nil_append]
  clear ho1 ho2 hg2
  go_loopw [8] (fun i wr => ∃ (k : Nat) (lk : List UInt8), k ≤ 32 ∧ i = .int .i64 k ∧ lk.length = la.length ∧ Below w1.heap.size w1 wr ∧ Own wr w1.heap.size (.slice (some ⟨g, 0, none⟩) la.length cap) lk ∧ (∀ j, j < at_ → C.bitAt lk j = C.bitAt la j) ∧ (∀ j, at_ + 32 ≤ j → C.bitAt lk j = C.bitAt la j)) (fun i _ => 32 - (intOf i).toNat)
  case atStart => exact ⟨0, la, by omega, rfl, rfl, h2, HO2.out, fun _ _ => rfl, fun _ _ => rfl⟩
  case round =>
    obtain ⟨k, lk, hk, rfl, hlk, hbw, how, hj1, hj2⟩ := hrel
    have HLK : Hid (lk.length = la.length) := hlk
    have HJ1 : Hid (∀ j, j < at_ → C.bitAt lk j = C.bitAt la j) := hj1
    have HJ2 : Hid (∀ j, at_ + 32 ≤ j → C.bitAt lk j = C.bitAt la j) := hj2
    have HBW : Hid (Below w1.heap.size w1 wr) := hbw
    have HOW : Hid (Own wr w1.heap.size (.slice (some ⟨g, 0, none⟩) la.length cap) lk) := how
    clear hlk hj1 hj2 how
    by_cases hin : k < 32 ∧ (at_ : Int) + k < 8 * la.length
    · obtain ⟨hlt, hlt2⟩ := hin
      · obtain ⟨q, hq⟩ : ∃ q, q = (at_ + k) / 8 := ⟨_, rfl⟩
        obtain ⟨r, hr⟩ : ∃ r, r = (at_ + k) % 8 := ⟨_, rfl⟩
        have eq : ((at_ : Int) + (k : Int)) / 8 = (q : Nat) := by omega
        have er : ((at_ : Int) + (k : Int)) % 8 = (r : Nat) := by omega
        have hr8 : r < 8 := by omega
        have hql : q < la.length := by omega
        obtain ⟨ec, fc⟩ := HOW.out.cell HLK.out.symm q (by rw [HLK.out]; exact hql)
        have HQ : Hid (q = (at_ + k) / 8) := hq
        have HR : Hid (r = (at_ + k) % 8) := hr
        clear hq hr
        generalize hx : lk.getD q 0 = x at ec
        have HX : Hid (lk.getD q 0 = x) := hx
        clear hx
        have hx0 := x.toNat_lt
        have e8 := xor_bit x r
        have HS := HOW.out.set HLK.out.symm q (x ^^^ UInt8.ofNat (2 ^ r))
        have HFL : Hid (lk.set q (x ^^^ UInt8.ofNat (2 ^ r)) = C.flip lk (at_ + k)) := by
          show _ = _
          rw [C.flip, ← HQ.out, ← HR.out, HX.out]
        generalize x ^^^ UInt8.ofNat (2 ^ r) = y at e8 HS HFL
        have HS' : Hid (Own (wr.setCell ⟨g, q, none⟩ (.int .u8 (y.toNat : Nat))) w1.heap.size (.slice (some ⟨g, 0, none⟩) la.length cap) (C.flip lk (at_ + k))) := by
          rw [← HFL.out]; exact HS
        clear HS
        go_wp2
        · go_roundw
          case rel =>
            refine ⟨k + 1, C.flip lk (at_ + k), by omega, by go_num, by rw [C.flip_length, HLK.out], HBW.out.setCell hg _, HS'.out, fun j hj => ?_, fun j hj => ?_⟩
            · rw [C.bitAt_flip _ _ _ (by omega)]; exact HJ1.out j hj
            · rw [C.bitAt_flip _ _ _ (by omega)]; exact HJ2.out j hj
          case measure => simp [intOf]; omega
        · go_roundw
          case rel => exact ⟨k + 1, lk, by omega, by go_num, HLK.out, HBW.out, HOW.out, HJ1.out, HJ2.out⟩
          case measure => simp [intOf]; omega
    · have HL : Hid (C.crc la = C.crc lk → la = lk) := C.crc_run la lk at_ HLK.out HJ1.out HJ2.out
      have hTr := hT1.below hbw
      have HAr : Hid (Part.ok wr ⟨pa, la, ca⟩) := Part.ok.below HA1.out hbw
      have HKr : Hid (Part.ok wr ⟨some ⟨g, 0, none⟩, lk, cap⟩) := by
        obtain ⟨p, c, hv, hok⟩ := Own.part HOW.out
        simp only [Value.slice.injEq] at hv
        obtain ⟨rfl, _, rfl⟩ := hv
        exact hok
      have HE : Hid ((C.crc la = C.crc lk) ↔ la = lk) := ⟨HL.out, fun h => by rw [h]⟩
      generalize hsa : C.crc la = sa at HE
      generalize hsk : C.crc lk = sk at HE
      have HSA : Hid (((C.crc la).toNat : Int) = (sa.toNat : Nat)) := by show _ = _; rw [hsa]
      have HSK : Hid (((C.crc lk).toNat : Int) = (sk.toNat : Nat)) := by show _ = _; rw [hsk]
      clear hsa hsk HL
      have HSW : Hid (∀ w', Below wr.heap.size wr w' → (convert 22 9 (.slice pa la.length ca)).run Tryd.prog w' = .ok (.string ⟨la.toArray⟩) w' ∧ (convert 22 9 (.slice (some ⟨g, 0, none⟩) la.length cap)).run Tryd.prog w' = .ok (.string ⟨lk.toArray⟩) w') := by
        intro w' hb
        have k1 := conv_str (HAr.out.below hb)
        have k2 := conv_str (HKr.out.below hb)
        simp only [Part.v, HLK.out] at k1 k2
        exact ⟨k1, k2⟩
      have HV : Hid ((((sa.toNat : Int) == (sk.toNat : Int)) == (la == lk)) = true) := by
        show _ = _
        by_cases h : la = lk
        · have e := HE.out.2 h
          simp [h, e]
        · have e : ¬ sa = sk := fun h' => h (HE.out.1 h')
          have e2 : ¬ (sa.toNat : Int) = sk.toNat := fun h' => e (BitVec.eq_of_toNat_eq (by omega))
          rw [beq_eq_false_iff_ne.2 e2, beq_eq_false_iff_ne.2 h]; rfl
      have HB : Hid (Below w.heap.size w wr) := bt h1 HBW.out
      clear HE
      by_cases hlt : k < 32
      all_goals
        go_wp2
        go_region_held3 (fun w' => (convert 22 9 (.slice pa la.length ca)).run Tryd.prog w' = .ok (.string ⟨la.toArray⟩) w' ∧ (convert 22 9 (.slice (some ⟨g, 0, none⟩) la.length cap)).run Tryd.prog w' = .ok (.string ⟨lk.toArray⟩) w')
          ((refine HSW.out _ ?_; repeat (first | exact Below.refl _ _ | refine Below.drew ?_ | refine Below.alloc ?_ (by simp) _)))
          (first
          | (go_at_call 8; refine (of_one wr ⟨pa, la, ca⟩ (sa.toNat : Nat) hTr HAr.out HSA.out _ _ ?hc ?hb).mono ?_; (case hc => simp [Part.v]); (case hb => repeat (first | exact Below.refl _ _ | refine Below.drew ?_ | refine Below.alloc ?_ (by simp) _)); rintro e w' ⟨rfl, rfl⟩)
          | (go_at_call 8; refine (of_one wr ⟨some ⟨g, 0, none⟩, lk, cap⟩ (sk.toNat : Nat) hTr HKr.out HSK.out _ _ ?hc ?hb).mono ?_; (case hc => simp [Part.v, HLK.out]); (case hb => repeat (first | exact Below.refl _ _ | refine Below.drew ?_ | refine Below.alloc ?_ (by simp) _)); rintro e w' ⟨rfl, rfl⟩))
        all_goals
          go_wp2
          go_ret
          refine ⟨ret_bool HV.out, bt HB.out ?_⟩
          repeat (first | exact Below.refl _ _ | refine Below.drew ?_ | refine Below.alloc ?_ (by simp) _)
end Go.Proofs.YtopiaiemhnbbnaaDoor
