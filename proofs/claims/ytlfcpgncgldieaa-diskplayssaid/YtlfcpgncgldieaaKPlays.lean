/-
  DiskPlays: any calls: both disks answer alike.
-/
import Derived.Test.YtlfcpgncgldieaaRTwo
import Derived.Deep.CutRange
import Derived.Deep.CutBlock
import Derived.BigRegion
import Derived.Deep.RegionHeldLaw
namespace Go.Proofs.Ytlfcpgncgldieaa
open Go.RowKit Go.Lib Go.Maps
open C (upd upd_same upd_other)
set_option linter.unusedVariables false

theorem wf64 {z : Int} (h : (Lit.int .i64 z).wf = true) : -9223372036854775808 ≤ z ∧ z ≤ 9223372036854775807 := by
  have h1 : IntKind.i64.min = -9223372036854775808 := rfl
  have h2 : IntKind.i64.max = 9223372036854775807 := rfl
  simp only [Lit.wf, Bool.and_eq_true, decide_eq_true_eq] at h
  omega
theorem files_len (s : C.St) : (filesE s).length ≤ 1000 := by
  unfold filesE
  split
  · exact Nat.zero_le _
  · exact fiK_len s.is 1000
/-- The cells of an act that was copied. -/
def actO (x : ActL) : Obj := .cells #[.int .i64 x.op, .int .i64 x.f, .int .i64 x.n, .int .i64 x.m, .int .u8 x.by', x.b.v] 44
def ActAt (w : World) (xb : Nat) (x : ActL) : Prop := w.heap[xb]? = some (actO x)
theorem ActAt.cells {w : World} {xb : Nat} {x : ActL} (h : ActAt w xb x) : w.cell? ⟨xb, 0, none⟩ = some (.int .i64 x.op) ∧ w.cell? ⟨xb, 1, none⟩ = some (.int .i64 x.f) ∧ w.cell? ⟨xb, 2, none⟩ = some (.int .i64 x.n) ∧ w.cell? ⟨xb, 3, none⟩ = some (.int .i64 x.m) ∧ w.cell? ⟨xb, 4, none⟩ = some (.int .u8 x.by') ∧ w.cell? ⟨xb, 5, none⟩ = some x.b.v := by
  have h' : w.heap[xb]? = some (.cells #[.int .i64 x.op, .int .i64 x.f, .int .i64 x.n, .int .i64 x.m, .int .u8 x.by', x.b.v] 44) := h
  exact ⟨blk_cell h' 0, blk_cell h' 1, blk_cell h' 2, blk_cell h' 3, blk_cell h' 4, blk_cell h' 5⟩
theorem ActAt.kept {w w' : World} {xb : Nat} {x : ActL} (h : ActAt w xb x) (hk : Kept (fun b => b = xb) w w') : ActAt w' xb x := (hk xb rfl).trans h
set_option maxRecDepth 100000 in
set_option maxHeartbeats 8000000 in
theorem plays_any (room : Int) (wr0 : (Lit.int .i64 room).wf = true) (q : Option Addr) (xs : List ActL) (qc : Nat) (w : World) (hP : AAt w q xs) (hA : ∀ x ∈ xs, x.ok w) (hcap : xs.length ≤ qc) (hcm : qc ≤ maxLen) :
    Calls Try.prog 4 #[.int .i64 room, .slice q xs.length qc] w fun e w' => e = .returned (.bool true) ∧ Below w.heap.size w w' := by
  have hr0 := wf64 wr0
  have HP : Hid (AAt w q xs) := hP
  have HA : Hid (∀ x ∈ xs, x.ok w) := hA
  have hqc : qc ≤ 9223372036854775807 := Nat.le_trans hcm (by decide)
  clear hP hA wr0 hcm
  by_cases hbad : room < 64 ∨ 1048576 < room
  · have HN : Hid (∀ w1, _) := fun w1 => new_bad room w1 hbad
    go_enter Try.func4, Try.ntmps4
    go_wp2_with fail
    refine (awake_any w).mono ?_
    rintro e w1 ⟨rfl, hb1⟩
    have HB1 : Hid (Below w.heap.size w w1) := hb1
    clear hb1
    go_wp2_with fail
    refine Calls.mono (HN.out w1) ?_
    rintro e w2 ⟨rfl, hw⟩
    subst w2
    by_cases h1 : room < 64
    · clear hbad
      go_wp2
      go_ret
      exact ⟨rfl, HB1.out⟩
    · have h2 : 1048576 < room := by omega
      clear hbad
      go_wp2
      go_ret
      exact ⟨rfl, HB1.out⟩
  · obtain ⟨r, rfl⟩ : ∃ r : Nat, room = (r : Int) := ⟨room.toNat, by omega⟩
    have hr1 : 64 ≤ (r : Int) := by omega
    have hr2 : (r : Int) ≤ 1048576 := by omega
    clear hbad hr0
    go_enter Try.func4, Try.ntmps4
    go_wp2_with fail
    refine (awake_any w).mono ?_
    rintro e w1 ⟨rfl, hb1⟩
    have HB1 : Hid (Below w.heap.size w w1) := hb1
    clear hb1
    go_wp2_with fail
    refine (dk_new r w w1 HB1.out (by omega)).mono ?_
    rintro e w2 ⟨g, rfl, hd2, _⟩
    have HD2 : Hid (DK w w2 g (C.newS r)) := hd2
    clear hd2 HB1
    by_cases h80 : 80 < xs.length
    · go_wp2
      go_ret
      exact ⟨rfl, DK.bel HD2.out⟩
    go_upto_region 8 with fail
    go_upto_region 9 with (first | (refine wpList_boxA rfl _ _ rfl _ rfl ?_) | (refine wpList_ref rfl _ rfl r rfl ?_; intro cs hcs; have HCS : Hid _ := hcs; clear hcs))
    refine wp_world (fun wz => Two w wz (fun _ => False) g w2.heap.size (C.newS r)) (two_new HD2.out HCS.out) ?_
    intro w3 ht3
    have HT3 : Hid (Two w w3 (fun _ => False) g w2.heap.size (C.newS r)) := ht3
    generalize w2.heap.size = g2 at HT3 ⊢
    clear ht3 HD2 HCS
    go_wp2
    go_loopw [8] (fun i wr => ∃ (k : Nat) (s : C.St), k ≤ xs.length ∧ i = .int .i64 (k : Int) ∧ Two w wr (fun _ => False) g g2 s ∧ s.made ≤ k ∧ s.lives ≤ k + 1) (fun i _ => xs.length - (intOf i).toNat)
    case atStart => exact ⟨0, C.newS r, Nat.zero_le _, rfl, HT3.out, Nat.le_refl _, Nat.le_refl _⟩
    case round =>
      clear HT3
      obtain ⟨k, s, hk, rfl, ht, hma, hli⟩ := hrel
      have HT : Hid (Two w wr (fun _ => False) g g2 s) := ht
      have HMA : Hid (s.made ≤ k) := hma
      have HLI : Hid (s.lives ≤ k + 1) := hli
      have HBW : Hid (Below w.heap.size w wr) := Two.bel ht
      clear ht hma hli
      by_cases hlt : k < xs.length
      · obtain ⟨x, hx⟩ : ∃ x, xs[k]? = some x := ⟨xs[k], by simp [hlt]⟩
        obtain ⟨b, o, rfl, hc⟩ := HP.out (by omega)
        have hcw : ∀ j, j < 6 → wr.cell? ⟨b, o + k * 6 + j, none⟩ = some (x.cell j) := fun j hj => by
          have e := hc k x hx j hj
          rw [(HBW.out : Below _ _ _).cell (p := ⟨b, o + k * 6 + j, none⟩) (World.block_lt_of_cell? _ _ e)]; exact e
        have x0 := hcw 0 (by omega)
        have x1 := hcw 1 (by omega)
        have x2 := hcw 2 (by omega)
        have x3 := hcw 3 (by omega)
        have x4 := hcw 4 (by omega)
        have x5 := hcw 5 (by omega)
        have HXO : Hid (x.ok w) := HA.out x (List.mem_of_getElem? hx)
        obtain ⟨xo, xf, xn, xm, xy, ⟨xp, xl, xc⟩⟩ := x
        obtain ⟨yb, rfl⟩ : ∃ yb : UInt8, xy = ((yb.toNat : Nat) : Int) := by
          have h := byte_of_wf (HXO.out : ActL.ok _ _).2.2.2.2.1
          simp only at h
          exact ⟨UInt8.ofNat xy.toNat, by rw [UInt8.toNat_ofNat']; omega⟩
        have hxn := wf64 (HXO.out : ActL.ok _ _).2.2.1
        have hxm := wf64 (HXO.out : ActL.ok _ _).2.2.2.1
        simp only at hxn hxm
        simp only [ActL.cell, Part.v, Nat.add_zero] at x0 x1 x2 x3 x4 x5
        have hki : (k : Int) < (xs.length : Int) := by omega
        have hbe := Two.beside HT.out (.cells #[.int .i64 xo, .int .i64 xf, .int .i64 xn, .int .i64 xm, .int .u8 (yb.toNat : Nat), .slice xp xl.length xc] 44)
        have HBE : Hid _ := hbe
        have HB2 : Hid (Below w.heap.size w (wr.alloc (.cells #[.int .i64 xo, .int .i64 xf, .int .i64 xn, .int .i64 xm, .int .u8 (yb.toNat : Nat), .slice xp xl.length xc] 44))) := bt HBW.out (below_new _ _)
        have HPX : Hid (Part.ok w ⟨xp, xl, xc⟩) := (HXO.out : ActL.ok _ _).2.2.2.2.2.1
        clear hc hx hcw hbe HXO
        by_cases hl2 : 200 < xl.length
        · go_wp2
          go_ret
          exact ⟨rfl, HB2.out⟩
        go_upto_block 2 with fail
        refine wp_world (fun wz => Two w wz (fun b => b = wr.heap.size) g g2 s ∧ ActAt wz wr.heap.size ⟨xo, xf, xn, xm, (yb.toNat : Nat), ⟨xp, xl, xc⟩⟩) HBE.out ?_
        rintro w1 ⟨ht1, hx1⟩
        have HT1 : Hid (Two w w1 (fun b => b = wr.heap.size) g g2 s) := ht1
        have HX1 : Hid (ActAt w1 wr.heap.size ⟨xo, xf, xn, xm, (yb.toNat : Nat), ⟨xp, xl, xc⟩⟩) := hx1
        generalize wr.heap.size = xb at HT1 HX1 ⊢
        clear ht1 hx1 HBE HB2 HT HBW x0 x1 x2 x3 x4 x5
        have HMM : Hid (s.made ≤ 1000) := by show _ ≤ _; have := HMA.out; omega
        have HLL : Hid (s.lives ≤ 1000) := by show _ ≤ _; have := HLI.out; omega
        have HT1' : Hid (Two w w1.drew (fun b => b = xb) g g2 s) := Two.below HT1.out (Below.refl _ w1).drew
        go_cut [10] from 54 to 197 (fun s10 wc => s10 = .bool true ∧ ∃ s' : C.St, Two w wc (fun b => b = xb) g g2 s' ∧ ActAt wc xb ⟨xo, xf, xn, xm, (yb.toNat : Nat), ⟨xp, xl, xc⟩⟩ ∧ s'.made ≤ k + 1 ∧ s'.lives ≤ k + 1 + 1)
        case first =>
          by_cases o0 : xo = 0
          · subst o0
            obtain ⟨r1, s', hB⟩ := two_append w w1.drew _ g g2 s xf xp xl xc HT1'.out HMM.out HPX.out (by omega)
            have HR : Hid _ := hB
            have HS1 : Hid ((fun w' => w'.cell? ⟨xb, 1, none⟩ = some (.int .i64 xf) ∧ w'.cell? ⟨xb, 5, none⟩ = some (.slice xp xl.length xc) : World → Prop) w1) := ⟨(ActAt.cells HX1.out).2.1, (ActAt.cells HX1.out).2.2.2.2.2⟩
            have hrr : (r1 == r1) = true := beq_self_eq_true r1
            clear hB
            go_upto_region 19 with fail
            go_region_held_law (fun w' => w'.cell? ⟨xb, 1, none⟩ = some (.int .i64 xf) ∧ w'.cell? ⟨xb, 5, none⟩ = some (.slice xp xl.length xc))
              (first | exact hs3 | exact hs2 | exact HS1.out)
              (first
              | (go_at_call 19; refine Calls.mono ((HR.out : Both _ _ _ _ _ _ _ _ _ _ _ _).2.2.2 _ hm2) ?_; rintro e w3 ⟨rfl, ht3, hk3⟩; have ha3 := ActAt.kept ha2 hk3; have hs3 : (fun w' => w'.cell? ⟨xb, 1, none⟩ = some (.int .i64 xf) ∧ w'.cell? ⟨xb, 5, none⟩ = some (.slice xp xl.length xc) : World → Prop) w3 := ⟨(ActAt.cells ha3).2.1, (ActAt.cells ha3).2.2.2.2.2⟩)
              | (go_at_call 10; refine Calls.mono (HR.out : Both _ _ _ _ _ _ _ _ _ _ _ _).2.2.1 ?_; rintro e w2 ⟨rfl, hm2, hk2⟩; have ha2 := ActAt.kept (w := w1) HX1.out hk2; have hs2 : (fun w' => w'.cell? ⟨xb, 1, none⟩ = some (.int .i64 xf) ∧ w'.cell? ⟨xb, 5, none⟩ = some (.slice xp xl.length xc) : World → Prop) w2 := ⟨(ActAt.cells ha2).2.1, (ActAt.cells ha2).2.2.2.2.2⟩))
            all_goals
              go_wp2_with fail
              go_meet
              case rel => exact ⟨rfl, s', ht3, ha3, Nat.le_trans (HR.out : Both _ _ _ _ _ _ _ _ _ _ _ _).1 (Nat.succ_le_succ HMA.out), Nat.le_trans (HR.out : Both _ _ _ _ _ _ _ _ _ _ _ _).2.1 (Nat.succ_le_succ HLI.out)⟩
          by_cases o1 : xo = 1
          · subst o1
            obtain ⟨r1, s', hB⟩ := two_sync w w1.drew _ g g2 s xf HT1'.out HMM.out
            have HR : Hid _ := hB
            have HS1 : Hid ((fun w' => w'.cell? ⟨xb, 1, none⟩ = some (.int .i64 xf) : World → Prop) w1) := (ActAt.cells HX1.out).2.1
            have hrr : (r1 == r1) = true := beq_self_eq_true r1
            clear hB
            go_upto_region 21 with fail
            go_region_held_law (fun w' => w'.cell? ⟨xb, 1, none⟩ = some (.int .i64 xf))
              (first | exact hs3 | exact hs2 | exact HS1.out)
              (first
              | (go_at_call 20; refine Calls.mono ((HR.out : Both _ _ _ _ _ _ _ _ _ _ _ _).2.2.2 _ hm2) ?_; rintro e w3 ⟨rfl, ht3, hk3⟩; have ha3 := ActAt.kept ha2 hk3; have hs3 : (fun w' => w'.cell? ⟨xb, 1, none⟩ = some (.int .i64 xf) : World → Prop) w3 := (ActAt.cells ha3).2.1)
              | (go_at_call 11; refine Calls.mono (HR.out : Both _ _ _ _ _ _ _ _ _ _ _ _).2.2.1 ?_; rintro e w2 ⟨rfl, hm2, hk2⟩; have ha2 := ActAt.kept (w := w1) HX1.out hk2; have hs2 : (fun w' => w'.cell? ⟨xb, 1, none⟩ = some (.int .i64 xf) : World → Prop) w2 := (ActAt.cells ha2).2.1))
            all_goals
              go_wp2_with fail
              go_meet
              case rel => exact ⟨rfl, s', ht3, ha3, Nat.le_trans (HR.out : Both _ _ _ _ _ _ _ _ _ _ _ _).1 (Nat.succ_le_succ HMA.out), Nat.le_trans (HR.out : Both _ _ _ _ _ _ _ _ _ _ _ _).2.1 (Nat.succ_le_succ HLI.out)⟩
          by_cases o2 : xo = 2
          · subst o2
            obtain ⟨r1, s', hB⟩ := two_drop w w1.drew _ g g2 s xf HT1'.out HMM.out
            have HR : Hid _ := hB
            have HS1 : Hid ((fun w' => w'.cell? ⟨xb, 1, none⟩ = some (.int .i64 xf) : World → Prop) w1) := (ActAt.cells HX1.out).2.1
            have hrr : (r1 == r1) = true := beq_self_eq_true r1
            clear hB
            go_upto_region 23 with fail
            go_region_held_law (fun w' => w'.cell? ⟨xb, 1, none⟩ = some (.int .i64 xf))
              (first | exact hs3 | exact hs2 | exact HS1.out)
              (first
              | (go_at_call 21; refine Calls.mono ((HR.out : Both _ _ _ _ _ _ _ _ _ _ _ _).2.2.2 _ hm2) ?_; rintro e w3 ⟨rfl, ht3, hk3⟩; have ha3 := ActAt.kept ha2 hk3; have hs3 : (fun w' => w'.cell? ⟨xb, 1, none⟩ = some (.int .i64 xf) : World → Prop) w3 := (ActAt.cells ha3).2.1)
              | (go_at_call 17; refine Calls.mono (HR.out : Both _ _ _ _ _ _ _ _ _ _ _ _).2.2.1 ?_; rintro e w2 ⟨rfl, hm2, hk2⟩; have ha2 := ActAt.kept (w := w1) HX1.out hk2; have hs2 : (fun w' => w'.cell? ⟨xb, 1, none⟩ = some (.int .i64 xf) : World → Prop) w2 := (ActAt.cells ha2).2.1))
            all_goals
              go_wp2_with fail
              go_meet
              case rel => exact ⟨rfl, s', ht3, ha3, Nat.le_trans (HR.out : Both _ _ _ _ _ _ _ _ _ _ _ _).1 (Nat.succ_le_succ HMA.out), Nat.le_trans (HR.out : Both _ _ _ _ _ _ _ _ _ _ _ _).2.1 (Nat.succ_le_succ HLI.out)⟩
          by_cases o3 : xo = 3
          · subst o3
            obtain ⟨s', hB⟩ := two_crash w w1 _ g g2 s xn xm HT1.out HMM.out hxn.1 hxn.2 hxm.1 hxm.2
            have HR : Hid _ := hB
            clear hB
            obtain ⟨n2, n3⟩ : (fun w' => w'.cell? ⟨xb, 2, none⟩ = some (.int .i64 xn) ∧ w'.cell? ⟨xb, 3, none⟩ = some (.int .i64 xm) : World → Prop) w1 := ⟨(ActAt.cells HX1.out).2.2.1, (ActAt.cells HX1.out).2.2.2.1⟩
            go_wp2_with fail
            refine Calls.mono (HR.out : Both _ _ _ _ _ _ _ _ _ _ _ _).2.2.1 ?_
            rintro e w2 ⟨rfl, hm2, hk2⟩
            have HM2 : Hid _ := hm2
            have HA2 : Hid _ := ActAt.kept HX1.out hk2
            obtain ⟨m2, m3⟩ : (fun w' => w'.cell? ⟨xb, 2, none⟩ = some (.int .i64 xn) ∧ w'.cell? ⟨xb, 3, none⟩ = some (.int .i64 xm) : World → Prop) w2 := ⟨(ActAt.cells HA2.out).2.2.1, (ActAt.cells HA2.out).2.2.2.1⟩
            clear hm2 hk2
            go_wp2_with fail
            refine Calls.mono ((HR.out : Both _ _ _ _ _ _ _ _ _ _ _ _).2.2.2 _ HM2.out) ?_
            rintro e w3 ⟨rfl, ht3, hk3⟩
            have HT3 : Hid _ := ht3
            have HA3 : Hid _ := ActAt.kept HA2.out hk3
            clear ht3 hk3
            go_wp2_with fail
            go_meet
            case rel => exact ⟨rfl, s', HT3.out, HA3.out, Nat.le_trans (HR.out : Both _ _ _ _ _ _ _ _ _ _ _ _).1 (Nat.succ_le_succ HMA.out), Nat.le_trans (HR.out : Both _ _ _ _ _ _ _ _ _ _ _ _).2.1 (Nat.succ_le_succ HLI.out)⟩
          by_cases o4 : xo = 4
          · subst o4
            obtain ⟨s', hB⟩ := two_on w w1 _ g g2 s HT1.out HLL.out
            have HR : Hid _ := hB
            clear hB
            go_wp2_with fail
            refine Calls.mono (HR.out : Both _ _ _ _ _ _ _ _ _ _ _ _).2.2.1 ?_
            rintro e w2 ⟨rfl, hm2, hk2⟩
            have HM2 : Hid _ := hm2
            have HA2 : Hid _ := ActAt.kept HX1.out hk2
            clear hm2 hk2
            go_wp2_with fail
            refine Calls.mono ((HR.out : Both _ _ _ _ _ _ _ _ _ _ _ _).2.2.2 _ HM2.out) ?_
            rintro e w3 ⟨rfl, ht3, hk3⟩
            have HT3 : Hid _ := ht3
            have HA3 : Hid _ := ActAt.kept HA2.out hk3
            clear ht3 hk3
            go_wp2_with fail
            go_meet
            case rel => exact ⟨rfl, s', HT3.out, HA3.out, Nat.le_trans (HR.out : Both _ _ _ _ _ _ _ _ _ _ _ _).1 (Nat.succ_le_succ HMA.out), Nat.le_trans (HR.out : Both _ _ _ _ _ _ _ _ _ _ _ _).2.1 (Nat.succ_le_succ HLI.out)⟩
          · have p0 : (xo == 0) = false := by simpa using o0
            have p1 : (xo == 1) = false := by simpa using o1
            have p2 : (xo == 2) = false := by simpa using o2
            have p3 : (xo == 3) = false := by simpa using o3
            have p4 : (xo == 4) = false := by simpa using o4
            obtain ⟨r1, s', hB⟩ := two_spoil w w1.drew _ g g2 s xf xn yb HT1'.out HMM.out hxn.2
            have HR : Hid _ := hB
            have HS1 : Hid ((fun w' => w'.cell? ⟨xb, 1, none⟩ = some (.int .i64 xf) ∧ w'.cell? ⟨xb, 2, none⟩ = some (.int .i64 xn) ∧ w'.cell? ⟨xb, 4, none⟩ = some (.int .u8 (yb.toNat : Nat)) : World → Prop) w1) := ⟨(ActAt.cells HX1.out).2.1, (ActAt.cells HX1.out).2.2.1, (ActAt.cells HX1.out).2.2.2.2.1⟩
            have hrr : (r1 == r1) = true := beq_self_eq_true r1
            clear hB
            go_upto_region 17 with fail
            go_region_held_law (fun w' => w'.cell? ⟨xb, 1, none⟩ = some (.int .i64 xf) ∧ w'.cell? ⟨xb, 2, none⟩ = some (.int .i64 xn) ∧ w'.cell? ⟨xb, 4, none⟩ = some (.int .u8 (yb.toNat : Nat)))
              (first | exact hs3 | exact hs2 | exact HS1.out)
              (first
              | (go_at_call 24; refine Calls.mono ((HR.out : Both _ _ _ _ _ _ _ _ _ _ _ _).2.2.2 _ hm2) ?_; rintro e w3 ⟨rfl, ht3, hk3⟩; have ha3 := ActAt.kept ha2 hk3; have hs3 : (fun w' => w'.cell? ⟨xb, 1, none⟩ = some (.int .i64 xf) ∧ w'.cell? ⟨xb, 2, none⟩ = some (.int .i64 xn) ∧ w'.cell? ⟨xb, 4, none⟩ = some (.int .u8 (yb.toNat : Nat)) : World → Prop) w3 := ⟨(ActAt.cells ha3).2.1, (ActAt.cells ha3).2.2.1, (ActAt.cells ha3).2.2.2.2.1⟩)
              | (go_at_call 12; refine Calls.mono (HR.out : Both _ _ _ _ _ _ _ _ _ _ _ _).2.2.1 ?_; rintro e w2 ⟨rfl, hm2, hk2⟩; have ha2 := ActAt.kept (w := w1) HX1.out hk2; have hs2 : (fun w' => w'.cell? ⟨xb, 1, none⟩ = some (.int .i64 xf) ∧ w'.cell? ⟨xb, 2, none⟩ = some (.int .i64 xn) ∧ w'.cell? ⟨xb, 4, none⟩ = some (.int .u8 (yb.toNat : Nat)) : World → Prop) w2 := ⟨(ActAt.cells ha2).2.1, (ActAt.cells ha2).2.2.1, (ActAt.cells ha2).2.2.2.2.1⟩))
            all_goals
              go_wp2_with fail
              go_meet
              case rel => exact ⟨rfl, s', ht3, ha3, Nat.le_trans (HR.out : Both _ _ _ _ _ _ _ _ _ _ _ _).1 (Nat.succ_le_succ HMA.out), Nat.le_trans (HR.out : Both _ _ _ _ _ _ _ _ _ _ _ _).2.1 (Nat.succ_le_succ HLI.out)⟩
        case rest =>
          obtain ⟨rfl, s2, ht2, ha2, hma2, hli2⟩ := hcut
          have HT2 : Hid (Two w wc (fun b => b = xb) g g2 s2) := ht2
          have f1 := (ActAt.cells ha2).2.1
          have HA2 : Hid _ := ha2
          have HMA2 : Hid (s2.made ≤ k + 1) := hma2
          have HLI2 : Hid (s2.lives ≤ k + 1 + 1) := hli2
          have HMM2 : Hid (s2.made ≤ 1000) := by show _ ≤ _; omega
          simp only at f1
          clear ht2 ha2 hma2 hli2 HT1 HX1 HMM HLL HT1' HMA HLI HPX
          go_wp2_with fail
          refine (two_read w wc _ g g2 s2 xf HT2.out).mono ?_
          rintro e w4 ⟨⟨pa, na, ca, rfl, hia⟩, ht4, hb4⟩
          have ha4 := ActAt.kept HA2.out (Two.kept HT2.out hb4)
          have f4 := (ActAt.cells ha4).2.1
          simp only at f4
          have HT4 : Hid (Two w w4 (fun b => b = xb) g g2 s2) := ht4
          have HIA : Hid (Is w4 pa na ca (readB s2 xf)) := hia
          clear ht4 hia ha4 hb4 f1 HA2 HT2
          go_wp2_with fail
          refine (two_rread w w4 _ g g2 s2 xf HT4.out HMM2.out).mono ?_
          rintro e w5 ⟨⟨pb, nb, cb, rfl, hib⟩, ht5, hb5⟩
          have HT5 : Hid (Two w w5 (fun b => b = xb) g g2 s2) := ht5
          obtain ⟨lr, hlr⟩ : ∃ lr, lr = readB s2 xf := ⟨_, rfl⟩
          have HSW : Hid (∀ W, Below w5.heap.size w5 W → (convert 28 9 (.slice pa na ca)).run Try.prog W = .ok (.string ⟨lr.toArray⟩) W ∧ (convert 28 9 (.slice pb nb cb)).run Try.prog W = .ok (.string ⟨lr.toArray⟩) W ∧ W.cell? ⟨g2, 1002, none⟩ = some (.bool s2.off) ∧ W.cell? ⟨g2, 1003, none⟩ = some (.int .i64 (s2.lives : Nat))) := fun W hb => by
            rw [hlr]
            exact ⟨conv_is (Is.below (Is.below HIA.out hb5) hb), conv_is (Is.below hib hb), (two_cells (Two.below HT5.out hb)).1, (two_cells (Two.below HT5.out hb)).2⟩
          have HS5 : Hid _ := HSW.out w5.drew (Below.refl _ w5).drew
          have HT5' : Hid (Two w w5.drew (fun b => b = xb) g g2 s2) := Two.below HT5.out (Below.refl _ w5).drew
          have HFL : Hid ((filesE s2).length ≤ 1000) := files_len s2
          have HLVS : Hid (∀ (W : World), Two w W (fun b => b = xb) g g2 s2 → Calls Try.prog 28 #[.pointer (some ⟨g, 0, none⟩)] W fun e w' => e = .returned (.int .i64 (s2.lives : Nat)) ∧ w' = W) := fun W h => two_lives w W _ g g2 s2 h
          have HPWS : Hid (∀ (W : World), Two w W (fun b => b = xb) g g2 s2 → Calls Try.prog 27 #[.pointer (some ⟨g, 0, none⟩)] W fun e w' => e = .returned (.bool (!s2.off)) ∧ w' = W) := fun W h => two_power w W _ g g2 s2 h
          have hll2 : s2.lives ≤ 1000 := by have := HLI2.out; omega
          generalize readE s2 xf = er at *
          generalize s2.off = of at *
          generalize hlv : s2.lives = lv at HSW HS5 HLVS hll2
          have HLV2 : Hid (s2.lives = lv) := hlv
          clear hlv
          clear ht5 hib hb5 hlr HIA HT4
          have q1 : (lr == lr) = true := beq_self_eq_true lr
          have q2 : (er == er) = true := beq_self_eq_true er
          have q3 : ((!of) == of) = false := by cases of <;> rfl
          have q4 : ((lv : Int) == (lv : Int)) = true := beq_self_eq_true _
          go_upto_region 32 with fail
          go_region_held_law (fun w' => (convert 28 9 (.slice pa na ca)).run Try.prog w' = .ok (.string ⟨lr.toArray⟩) w' ∧ (convert 28 9 (.slice pb nb cb)).run Try.prog w' = .ok (.string ⟨lr.toArray⟩) w' ∧ w'.cell? ⟨g2, 1002, none⟩ = some (.bool of) ∧ w'.cell? ⟨g2, 1003, none⟩ = some (.int .i64 (lv : Nat)))
            (first | exact hs8 | exact hs7 | exact hs6 | exact HS5.out)
            (first
            | (go_at_call 28; refine Calls.mono (HLVS.out _ ht8) ?_; rintro e w10 ⟨rfl, hw⟩; subst w10)
            | (go_at_call 27; refine Calls.mono (HPWS.out _ ht8) ?_; rintro e w9 ⟨rfl, hw⟩; subst w9)
            | (go_at_call 18; refine (ints_true p6 p7 n6 n7 c6 c7 (filesE s2) w7 HN6.out HN7.out HFL.out (ZAt.below HZ6.out h67) HZ7.out).mono ?_; rintro e w8 ⟨rfl, n8, rfl⟩; have ht8 : Two w (w7.drewN n8) (fun b => b = xb) g g2 s2 := Two.below ht7 (drewN_below _ _); have hs8 := HSW.out (w7.drewN n8) (bt hb57 (drewN_below _ _)))
            | (go_at_call 26; refine (two_rfiles w w6 _ g g2 s2 ht6).mono ?_; rintro e w7 ⟨⟨p7, n7, c7, rfl, hn7, hz7⟩, ht7, h67⟩; have HN7 : Hid _ := hn7; have HZ7 : Hid _ := hz7; clear hn7 hz7; have hb57 : Below w5.heap.size w5 w7 := bt hb56 h67; have hs7 := HSW.out w7 hb57)
            | (go_at_call 14; refine (two_files w w5.drew _ g g2 s2 HT5'.out HMM2.out).mono ?_; rintro e w6 ⟨⟨p6, n6, c6, rfl, hn6, hz6⟩, ht6, h56⟩; have HN6 : Hid _ := hn6; have HZ6 : Hid _ := hz6; clear hn6 hz6; have hb56 : Below w5.heap.size w5 w6 := bt (Below.refl _ w5).drew h56; have hs6 := HSW.out w6 hb56))
          all_goals
            go_wp2_with fail
            go_roundw
            case rel => exact ⟨k + 1, s2, by omega, by go_num, Two.bare ht8, HMA2.out, HLI2.out⟩
            case measure => simp [intOf]; omega
      · have HB : Hid (Below w.heap.size w wr) := HBW.out
        go_wp2
        go_ret
        exact ⟨rfl, HB.out⟩
end Go.Proofs.Ytlfcpgncgldieaa
