/-
  PackReads: any bytes, read in any way, tell what the document says, till they are bad.
-/
import Derived.Test.YtpkabcnlkdiajaaWRRead4
import Derived.Test.YtpkabcnlkdiajaaBStructs
namespace Go.Proofs.Ytpkabcnlkdiajaa
open Go.RowKit Go.Lib
set_option linter.unusedVariables false

/-- Acts as they lie. -/
def AAt (w : World) (p : Option Addr) (len : Nat) (V : Nat → Nat → Int) : Prop := 0 < len → ∃ b o, p = some ⟨b, o, none⟩ ∧ ∀ i j, i < len → j < 4 → w.cell? ⟨b, o + i * 4 + j, none⟩ = some (.int .i64 (V i j))
theorem AAt.below {w w' : World} {p : Option Addr} {len : Nat} {V : Nat → Nat → Int} (h : AAt w p len V) (hb : Below w.heap.size w w') : AAt w' p len V := fun hl => by
  obtain ⟨b, o, hp, hc⟩ := h hl
  refine ⟨b, o, hp, fun i j hi hj => ?_⟩
  have hlt := World.block_lt_of_cell? _ _ (hc i j hi hj)
  rw [hb.cell (p := ⟨b, o + i * 4 + j, none⟩) hlt]; exact hc i j hi hj
set_option maxRecDepth 100000 in
set_option maxHeartbeats 8000000 in
theorem reads_walk (pb : Option Addr) (lb : List UInt8) (cb : Nat) (pa : Option Addr) (len ca : Nat) (V : Nat → Nat → Int) (w : World) (hb : Arg w ⟨pb, lb, cb⟩) (hpa : 0 < cb → ∃ b o, pb = some ⟨b, o, none⟩) (hla : len ≤ ca) (hca : ca ≤ maxLen) (hA : AAt w pa len V) :
    Calls Try.prog 4 #[.slice pb lb.length cb, .slice pa len ca] w fun e w' => e = .returned (.bool true) ∧ Below w.heap.size w w' := by
  have HB : Hid (Is w pb lb.length cb lb) := ⟨rfl, hb.1⟩
  have HBC : Hid (lb.length ≤ cb ∧ cb ≤ maxLen) := hb.2
  have HPA : Hid _ := hpa
  have HA : Hid (AAt w pa len V) := hA
  have hlb : lb.length ≤ 9223372036854775807 := Nat.le_trans hb.1.1 (by decide)
  have hln : len ≤ 9223372036854775807 := Nat.le_trans hla (Nat.le_trans hca (by decide))
  obtain ⟨nb, hnb⟩ : ∃ n, n = lb.length := ⟨_, rfl⟩
  have HNB : Hid (nb = lb.length) := hnb
  rw [← hnb] at HB hlb HBC ⊢
  clear hb hnb hpa hA hla hca
  go_enter Try.func4, Try.ntmps4
  go_wp2_with fail
  refine (awake_any w).mono ?_
  rintro e w1 ⟨rfl, h1⟩
  by_cases hb1 : (300 : Int) < nb
  · go_wp2
    go_ret
    exact ⟨rfl, h1⟩
  by_cases ha1 : (30 : Int) < len
  · go_wp2
    go_ret
    exact ⟨rfl, h1⟩
  have HLB : Hid (lb.length ≤ 100000) := by have := HNB.out; show _ ≤ _; omega
  go_wp2_with fail
  refine (read_at w1 pb nb cb lb (HB.out.below h1) HLB.out).mono ?_
  rintro e w2 ⟨⟨g1, p2, n2, c2, rfl, hlo, hlt, hr2⟩, h2⟩
  have HR2 : Hid _ := hr2
  have HLO : Hid (w.heap.size ≤ g1) := Nat.le_trans h1.size hlo
  have HLT : Hid (g1 < w2.heap.size) := hlt
  have HB2 : Hid (Below w.heap.size w w2) := bt h1 h2
  clear hr2 hlo hlt h1 h2
  go_wp2
  go_loopw [7] (fun i wr => ∃ (k : Nat) (s : Option (List UInt8)) (p n c : _), i = .int .i64 k ∧ k ≤ len ∧ Rd wr g1 s p n c ∧ Rs wr w2.heap.size pb nb cb lb s ∧ Below w.heap.size w wr) (fun i _ => len - (intOf i).toNat)
  case atStart =>
    refine ⟨0, some lb, p2, n2, c2, rfl, Nat.zero_le _, HR2.out.below (below_new _ _), ⟨0, ⟨heap_alloc_new _ _, (HB.out.below HB2.out).below (below_new _ _), HBC.out.1, HBC.out.2, Nat.zero_le _, HPA.out⟩, fun r hr => ?_⟩, bt HB2.out (below_new _ _)⟩
    rw [List.drop_zero]; exact (Option.some.inj hr).symm
  case round =>
    obtain ⟨k, s, p, n, c, rfl, hk, hr, hs, hbw⟩ := hrel
    have HR : Hid _ := hr
    have HS : Hid (Rs wr w2.heap.size pb nb cb lb s) := hs
    have HBW : Hid _ := hbw
    clear hr hs hbw
    by_cases hlt : k < len
    · obtain ⟨ba, oa, rfl, hc⟩ := AAt.below HA.out HBW.out (by omega)
      have c0 := hc k 0 hlt (by omega)
      rw [Nat.add_zero] at c0
      have c1 := hc k 1 hlt (by omega)
      have c2 := hc k 2 hlt (by omega)
      have c3 := hc k 3 hlt (by omega)
      generalize V k 0 = v0 at c0
      generalize V k 1 = v1 at c1
      generalize V k 2 = v2 at c2
      generalize V k 3 = v3 at c3
      clear hc
      have HGX : Hid (g1 < wr.heap.size ∧ w2.heap.size < wr.heap.size ∧ g1 ≠ w2.heap.size ∧ w.heap.size ≤ w2.heap.size) := ⟨HR.out.lt, HS.out.lt, Nat.ne_of_lt HLT.out, HB2.out.size⟩
      have HLS : Hid ((s.getD []).length ≤ 100000) := Nat.le_trans HS.out.len HLB.out
      by_cases h00 : v0 = 0
      · subst h00
        go_wp2_with fail
        generalize hw3 : wr.alloc (.cells #[.int .i64 0, .int .i64 v1, .int .i64 v2, .int .i64 v3] 35) = w3
        have HB3 : Hid (Below w.heap.size w w3) := by rw [← hw3]; exact bt HBW.out (below_new _ _)
        have HX3 : Hid (w3.heap[wr.heap.size]? = some (.cells #[.int .i64 0, .int .i64 v1, .int .i64 v2, .int .i64 v3] 35)) := by rw [← hw3]; exact heap_alloc_new _ _
        have HR3 : Hid (Rd w3.drew g1 s p n c) := by rw [← hw3]; exact (HR.out.below (below_new _ _)).below (Below.refl _ _).drew
        have HS3 : Hid (Rs w3.drew w2.heap.size pb nb cb lb s) := by rw [← hw3]; exact (HS.out.below (below_new _ _)).below (Below.refl _ _).drew
        have HZ3 : Hid (wr.heap.size < w3.heap.size) := by rw [← hw3]; show _ < _; simp
        clear hw3 c0 c1 c2 c3 HR HS HBW
        obtain ⟨v, s1, hrn⟩ : ∃ v s1, C.rnum s v2 v3 = (v, s1) := ⟨_, _, rfl⟩
        have HRN : Hid _ := hrn
        clear hrn
        have HSW : Hid (∀ w' : World, w'.heap[wr.heap.size]? = w3.heap[wr.heap.size]? → w'.cell? ⟨wr.heap.size, 2, none⟩ = some (.int .i64 v2) ∧ w'.cell? ⟨wr.heap.size, 3, none⟩ = some (.int .i64 v3)) := fun w' h => by rw [HX3.out] at h; exact ⟨by simp [World.cell?, h], by simp [World.cell?, h]⟩
        go_region_held_law (fun w' => w'.cell? ⟨wr.heap.size, 2, none⟩ = some (.int .i64 v2) ∧ w'.cell? ⟨wr.heap.size, 3, none⟩ = some (.int .i64 v3))
          ((refine HSW.out _ ?_; first | exact hx5 | exact hx4 | rfl))
          (first
          | (go_at_call 16; refine (refrnum_at _ w2.heap.size pb nb cb lb s s1 v2 v3 v hs4 HLB.out HRN.out).mono ?_; rintro e w5 ⟨rfl, hs5, hg5⟩; have hx5 : w5.heap[wr.heap.size]? = w3.heap[wr.heap.size]? := (hg5.block _ hz4 (fun h => by have := HGX.out; have := Option.some.inj h; omega)).trans hx4; have hr5 := hr4.kept hg5 hs4.nb HGX.out.2.2.1; have hb5 := below_g hb4 hg5 HGX.out.2.2.2; clear hg5)
          | (go_at_call 11; refine (rnum_at _ g1 s _ _ _ v2 v3 v s1 HR3.out HLS.out HRN.out).mono ?_; rintro e w4 ⟨rfl, ⟨p4, n4, c4, hr4⟩, hg4⟩; have hx4 : w4.heap[wr.heap.size]? = w3.heap[wr.heap.size]? := hg4.block _ HZ3.out (fun h => by have := HGX.out; have := Option.some.inj h; omega); have hs4 := HS3.out.kept hg4 HR3.out.nb (Ne.symm HGX.out.2.2.1); have hb4 := below_g (Below.drew HB3.out) hg4 HLO.out; have hz4 : wr.heap.size < w4.heap.size := Nat.lt_of_lt_of_le HZ3.out hg4.size; clear hg4))
        all_goals
          have HR5 : Hid _ := hr5
          have HS5 : Hid (Rs w5 w2.heap.size pb nb cb lb s1) := hs5
          have HB5 : Hid _ := hb5
          clear hr5 hs5 hb5 hr4 hs4 hb4 hx4 hx5 hz4
          obtain ⟨a5, hq5, hq5'⟩ := HS5.out
          have h52 := hq5.c2
          have HQ5 : Hid _ := hq5
          clear hq5 hq5'
          have HSV : Hid (∀ w', Below w5.heap.size w5 w' → w'.cell? ⟨w2.heap.size, 2, none⟩ = some (.bool s1.isNone)) := fun w' hb => (HQ5.out.below hb).c2
          go_wp2_with fail
          go_region_held_law (fun w' => w'.cell? ⟨w2.heap.size, 2, none⟩ = some (.bool s1.isNone))
            ((refine HSV.out _ ?_; first | exact hb6 | exact Below.refl _ _ | exact (Below.refl _ _).drew))
            (first
            | (go_at_call 19; refine (refend_any _ w2.heap.size pb nb cb lb s1 (HS5.out.below (Below.refl _ _).drew) HLB.out).mono ?_; rintro e w6 ⟨rfl, hb6'⟩; have hb6 : Below w5.heap.size w5 w6 := bt (Below.refl _ _).drew hb6'; clear hb6')
            | (go_at_call 14; refine (end_any _ g1 _ _ _ _ (HR5.out.below (Below.refl _ _).drew)).mono ?_; rintro e w' ⟨rfl, hw'⟩; subst w')
            | (go_at_call 12; refine (bad_any _ g1 _ _ _ _ (HR5.out.below (Below.refl _ _).drew)).mono ?_; rintro e w' ⟨rfl, hw'⟩; subst w'))
          all_goals
            go_wp2
            go_roundw
            case rel => exact ⟨k + 1, s1, _, _, _, by go_num, by omega, HR5.out.below hb6, HS5.out.below hb6, bt HB5.out hb6⟩
            case measure => simp [intOf]; omega
      by_cases h01 : v0 = 1
      · subst h01
        go_wp2_with fail
        generalize hw3 : wr.alloc (.cells #[.int .i64 1, .int .i64 v1, .int .i64 v2, .int .i64 v3] 35) = w3
        have HB3 : Hid (Below w.heap.size w w3) := by rw [← hw3]; exact bt HBW.out (below_new _ _)
        have HX3 : Hid (w3.heap[wr.heap.size]? = some (.cells #[.int .i64 1, .int .i64 v1, .int .i64 v2, .int .i64 v3] 35)) := by rw [← hw3]; exact heap_alloc_new _ _
        have HR3 : Hid (Rd w3.drew g1 s p n c) := by rw [← hw3]; exact (HR.out.below (below_new _ _)).below (Below.refl _ _).drew
        have HS3 : Hid (Rs w3.drew w2.heap.size pb nb cb lb s) := by rw [← hw3]; exact (HS.out.below (below_new _ _)).below (Below.refl _ _).drew
        have HZ3 : Hid (wr.heap.size < w3.heap.size) := by rw [← hw3]; show _ < _; simp
        clear hw3 c0 c1 c2 c3 HR HS HBW
        obtain ⟨x, s1, hrn⟩ : ∃ x s1, C.rbytes s v1 = (x, s1) := ⟨_, _, rfl⟩
        have HRN : Hid _ := hrn
        clear hrn
        have HSW : Hid (∀ w' : World, w'.heap[wr.heap.size]? = w3.heap[wr.heap.size]? → w'.cell? ⟨wr.heap.size, 1, none⟩ = some (.int .i64 v1)) := fun w' h => by rw [HX3.out] at h; exact by simp [World.cell?, h]
        go_region_held_law (fun w' => w'.cell? ⟨wr.heap.size, 1, none⟩ = some (.int .i64 v1))
          ((refine HSW.out _ ?_; first | exact hx5 | exact hx4 | rfl))
          (first
          | (go_at_call 17; refine (refbytes_at _ w2.heap.size pb nb cb lb s s1 v1 x hs4 HLB.out HRN.out).mono ?_; rintro e w5 ⟨⟨p5, n5, c5, rfl, hi5⟩, hs5, hg5⟩; have hx5 : w5.heap[wr.heap.size]? = w3.heap[wr.heap.size]? := (hg5.block _ hz4 (fun h => by have := HGX.out; have := Option.some.inj h; omega)).trans hx4; have hr5 := hr4.kept hg5 hs4.nb HGX.out.2.2.1; have hb5 := below_g hb4 hg5 HGX.out.2.2.2; have k5 := conv_is hi5; have k45 := conv_is (Is.grown hi4 hg5 hs4.nb); clear hg5)
          | (go_at_call 13; refine (rbytes_at _ g1 s _ _ _ v1 x s1 HR3.out HLS.out HRN.out).mono ?_; rintro e w4 ⟨⟨px, nx, cx, rfl, hi4⟩, ⟨p4, n4, c4, hr4⟩, hg4⟩; have k4 := conv_is hi4; have hx4 : w4.heap[wr.heap.size]? = w3.heap[wr.heap.size]? := hg4.block _ HZ3.out (fun h => by have := HGX.out; have := Option.some.inj h; omega); have hs4 := HS3.out.kept hg4 HR3.out.nb (Ne.symm HGX.out.2.2.1); have hb4 := below_g (Below.drew HB3.out) hg4 HLO.out; have hz4 : wr.heap.size < w4.heap.size := Nat.lt_of_lt_of_le HZ3.out hg4.size; clear hg4))
        all_goals
          have HR5 : Hid _ := hr5
          have HS5 : Hid (Rs w5 w2.heap.size pb nb cb lb s1) := hs5
          have HB5 : Hid _ := hb5
          clear hr5 hs5 hb5 hr4 hs4 hb4 hx4 hx5 hz4
          obtain ⟨a5, hq5, hq5'⟩ := HS5.out
          have h52 := hq5.c2
          have HQ5 : Hid _ := hq5
          clear hq5 hq5'
          have HSV : Hid (∀ w', Below w5.heap.size w5 w' → w'.cell? ⟨w2.heap.size, 2, none⟩ = some (.bool s1.isNone)) := fun w' hb => (HQ5.out.below hb).c2
          go_wp2_with fail
          go_region_held_law (fun w' => w'.cell? ⟨w2.heap.size, 2, none⟩ = some (.bool s1.isNone))
            ((refine HSV.out _ ?_; first | exact hb6 | exact Below.refl _ _ | exact (Below.refl _ _).drew))
            (first
            | (go_at_call 19; refine (refend_any _ w2.heap.size pb nb cb lb s1 (HS5.out.below (Below.refl _ _).drew) HLB.out).mono ?_; rintro e w6 ⟨rfl, hb6'⟩; have hb6 : Below w5.heap.size w5 w6 := bt (Below.refl _ _).drew hb6'; clear hb6')
            | (go_at_call 14; refine (end_any _ g1 _ _ _ _ (HR5.out.below (Below.refl _ _).drew)).mono ?_; rintro e w' ⟨rfl, hw'⟩; subst w')
            | (go_at_call 12; refine (bad_any _ g1 _ _ _ _ (HR5.out.below (Below.refl _ _).drew)).mono ?_; rintro e w' ⟨rfl, hw'⟩; subst w'))
          all_goals
            go_wp2
            go_roundw
            case rel => exact ⟨k + 1, s1, _, _, _, by go_num, by omega, HR5.out.below hb6, HS5.out.below hb6, bt HB5.out hb6⟩
            case measure => simp [intOf]; omega
      · have h00' : ¬ ((v0 == 0) = true) := by simpa using h00
        have h01' : ¬ ((v0 == 1) = true) := by simpa using h01
        go_wp2_with fail
        generalize hw3 : wr.alloc (.cells #[.int .i64 v0, .int .i64 v1, .int .i64 v2, .int .i64 v3] 35) = w3
        have HB3 : Hid (Below w.heap.size w w3) := by rw [← hw3]; exact bt HBW.out (below_new _ _)
        have HX3 : Hid (w3.heap[wr.heap.size]? = some (.cells #[.int .i64 v0, .int .i64 v1, .int .i64 v2, .int .i64 v3] 35)) := by rw [← hw3]; exact heap_alloc_new _ _
        have HR3 : Hid (Rd w3.drew g1 s p n c) := by rw [← hw3]; exact (HR.out.below (below_new _ _)).below (Below.refl _ _).drew
        have HS3 : Hid (Rs w3.drew w2.heap.size pb nb cb lb s) := by rw [← hw3]; exact (HS.out.below (below_new _ _)).below (Below.refl _ _).drew
        have HZ3 : Hid (wr.heap.size < w3.heap.size) := by rw [← hw3]; show _ < _; simp
        clear hw3 c0 c1 c2 c3 HR HS HBW
        obtain ⟨x, s1, hrn⟩ : ∃ x s1, C.rbytes s v1 = (x, s1) := ⟨_, _, rfl⟩
        have HRN : Hid _ := hrn
        clear hrn
        have HSW : Hid (∀ w' : World, w'.heap[wr.heap.size]? = w3.heap[wr.heap.size]? → w'.cell? ⟨wr.heap.size, 1, none⟩ = some (.int .i64 v1)) := fun w' h => by rw [HX3.out] at h; exact by simp [World.cell?, h]
        go_region_held_law (fun w' => w'.cell? ⟨wr.heap.size, 1, none⟩ = some (.int .i64 v1))
          ((refine HSW.out _ ?_; first | exact hx5 | exact hx4 | rfl))
          (first
          | (go_at_call 17; refine (refbytes_at _ w2.heap.size pb nb cb lb s s1 v1 x hs4 HLB.out HRN.out).mono ?_; rintro e w5 ⟨⟨p5, n5, c5, rfl, hi5⟩, hs5, hg5⟩; have hx5 : w5.heap[wr.heap.size]? = w3.heap[wr.heap.size]? := (hg5.block _ hz4 (fun h => by have := HGX.out; have := Option.some.inj h; omega)).trans hx4; have hr5 := hr4.kept hg5 hs4.nb HGX.out.2.2.1; have hb5 := below_g hb4 hg5 HGX.out.2.2.2; have k5 := conv_is hi5; clear hg5)
          | (go_at_call 18; refine (rtext_at _ g1 s _ _ _ v1 x s1 HR3.out HLS.out HRN.out).mono ?_; rintro e w4 ⟨rfl, ⟨p4, n4, c4, hr4⟩, hg4⟩; have hx4 : w4.heap[wr.heap.size]? = w3.heap[wr.heap.size]? := hg4.block _ HZ3.out (fun h => by have := HGX.out; have := Option.some.inj h; omega); have hs4 := HS3.out.kept hg4 HR3.out.nb (Ne.symm HGX.out.2.2.1); have hb4 := below_g (Below.drew HB3.out) hg4 HLO.out; have hz4 : wr.heap.size < w4.heap.size := Nat.lt_of_lt_of_le HZ3.out hg4.size; clear hg4))
        all_goals
          have HR5 : Hid _ := hr5
          have HS5 : Hid (Rs w5 w2.heap.size pb nb cb lb s1) := hs5
          have HB5 : Hid _ := hb5
          clear hr5 hs5 hb5 hr4 hs4 hb4 hx4 hx5 hz4
          obtain ⟨a5, hq5, hq5'⟩ := HS5.out
          have h52 := hq5.c2
          have HQ5 : Hid _ := hq5
          clear hq5 hq5'
          have HSV : Hid (∀ w', Below w5.heap.size w5 w' → w'.cell? ⟨w2.heap.size, 2, none⟩ = some (.bool s1.isNone)) := fun w' hb => (HQ5.out.below hb).c2
          go_wp2_with fail
          go_region_held_law (fun w' => w'.cell? ⟨w2.heap.size, 2, none⟩ = some (.bool s1.isNone))
            ((refine HSV.out _ ?_; first | exact hb6 | exact Below.refl _ _ | exact (Below.refl _ _).drew))
            (first
            | (go_at_call 19; refine (refend_any _ w2.heap.size pb nb cb lb s1 (HS5.out.below (Below.refl _ _).drew) HLB.out).mono ?_; rintro e w6 ⟨rfl, hb6'⟩; have hb6 : Below w5.heap.size w5 w6 := bt (Below.refl _ _).drew hb6'; clear hb6')
            | (go_at_call 14; refine (end_any _ g1 _ _ _ _ (HR5.out.below (Below.refl _ _).drew)).mono ?_; rintro e w' ⟨rfl, hw'⟩; subst w')
            | (go_at_call 12; refine (bad_any _ g1 _ _ _ _ (HR5.out.below (Below.refl _ _).drew)).mono ?_; rintro e w' ⟨rfl, hw'⟩; subst w'))
          all_goals
            go_wp2
            go_roundw
            case rel => exact ⟨k + 1, s1, _, _, _, by go_num, by omega, HR5.out.below hb6, HS5.out.below hb6, bt HB5.out hb6⟩
            case measure => simp [intOf]; omega
    · go_wp2
      go_ret
      exact ⟨rfl, HBW.out⟩
end Go.Proofs.Ytpkabcnlkdiajaa
