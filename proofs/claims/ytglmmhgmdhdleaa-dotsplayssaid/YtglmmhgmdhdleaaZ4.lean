/-
  Several texts in one: WRef7c, RWrite, RRead, RRead2, RRead3, WRef7d, TPut, RPut, XObjs2, KPlays.
-/
import Derived.Test.YtglmmhgmdhdleaaZ3
import Derived.Test.YtglmmhgmdhdleaaWLaw
import Derived.Deep.QuietTactic
import Derived.BigQuiet
import Derived.Test.YtglmmhgmdhdleaaZ2
import Derived.Deep.RegionHeldLaw
namespace Go.Proofs.Ytglmmhgmdhdleaa
open Go.RowKit Go.Lib
set_option linter.unusedVariables false

end Go.Proofs.Ytglmmhgmdhdleaa

namespace Go.Proofs.Ytglmmhgmdhdleaa
open Go.RowKit Go.Lib
set_option linter.unusedVariables false

theorem zig_not {v : Int} (h1 : -9223372036854775808 ≤ v) (h : v < 0) : bits .xor .u64 IntKind.u64.max (IntKind.u64.wrap (IntKind.u64.wrap v * 2)) = (C.zig v : Nat) := by
  rw [wrap_u64_neg (v := v) h (by omega), show IntKind.u64.wrap ((v + 18446744073709551616) * 2) = 2 * v + 18446744073709551616 by rw [IntKind.wrap_u64]; omega]
  obtain ⟨n, hn⟩ := Int.eq_ofNat_of_zero_le (show 0 ≤ 2 * v + 18446744073709551616 by omega)
  rw [hn]
  have := u64_xor_nat 18446744073709551615 n (by omega) (by omega)
  rw [Nat.xor_comm, xor_all n (by omega)] at this
  have e : IntKind.u64.max = ((18446744073709551615 : Nat) : Int) := by decide
  rw [e, this]
  unfold C.zig
  rw [if_neg (by omega)]
  omega
theorem zig_twice {v : Int} (h : 0 ≤ v) : v * 2 = (C.zig v : Nat) := by
  unfold C.zig
  rw [if_pos h]
  omega
theorem byte_more (m : Nat) : (m : Int) % 128 + 128 = ((UInt8.ofNat (m % 128 + 128)).toNat : Nat) := by
  rw [UInt8.toNat_ofNat']; omega
set_option maxRecDepth 100000 in
set_option maxHeartbeats 4000000 in
theorem refnum_any (pb : Option Addr) (nb cb : Nat) (lb : List UInt8) (v : Int) (w : World) (hb : Is w pb nb cb lb) (hv : C.fits v) (hl : lb.length ≤ 90000) :
    Calls Try.prog 55 #[.slice pb nb cb, .int .i64 v] w fun e w' => (∃ x, e = .returned x ∧ Own w' w.heap.size x (lb ++ C.num v)) ∧ Below w.heap.size w w' := by
  obtain ⟨hn, hok⟩ := hb
  subst hn
  have HOK : Hid _ := hok
  have HV : Hid _ := hv
  have hv1 := hv.1
  have hv2 := hv.2
  have ho1 : Hid (Own (w.alloc (.cells #[] 5)) w.heap.size (.slice (some ⟨w.heap.size, 0, none⟩) 0 0) []) := Own.empty w w.heap.size (Nat.le_refl _)
  have HL : Hid (lb.length ≤ 90000) := hl
  clear hok hv
  by_cases h0 : v < 0
  all_goals
    go_enter Try.func55, Try.ntmps55
    go_wp2_with (at_builtin; go_must (refine wpList_append_part rfl _ _ rfl w.heap.size _ [] rfl ho1.out ⟨pb, lb, cb⟩ rfl (Part.ok.below HOK.out (below_new _ _)) (by simp only [List.length_nil]; omega) (by simp) ?_); intro v2 w2 ho2 hg2; have h2 := Own.grown ho1.out (below_new w _) (by simp) hg2)
    go_loopw [5, 6] (fun n b wr => ∃ (m : Nat) (pre : List UInt8), n = .int .u64 m ∧ m < C.lim ∧ Own wr w.heap.size b (lb ++ pre) ∧ pre ++ C.grp m = C.num v ∧ Below w.heap.size w wr) (fun n _ _ => (intOf n).toNat)
    case atStart => exact ⟨C.zig v, [], by first | rw [zig_not hv1 h0] | rw [zig_twice h0], C.zig_lt HV.out, by simpa using ho2, rfl, h2⟩
    case round =>
      obtain ⟨m, pre, rfl, hm, ho, he, hb⟩ := hrel
      have HM : Hid (m < C.lim) := hm
      have HO : Hid _ := ho
      have HE : Hid (pre ++ C.grp m = C.num v) := he
      have HB : Hid _ := hb
      have HLL : Hid ((lb ++ pre).length ≤ 90010) := by
        have h1 := (C.num_ten HV.out).2
        have h2 := congrArg List.length HE.out
        have h3 := HL.out
        rw [List.length_append] at h2
        show _ ≤ _
        rw [List.length_append]
        omega
      clear hm ho he hb hv1 hv2
      by_cases h : m < 128
      · have HX : Hid (lb ++ pre ++ [UInt8.ofNat m] = lb ++ C.num v) := by
          have := HE.out; rw [C.grp_small h] at this; show _ = _; rw [List.append_assoc, this]
        have hu := u8_small m h
        generalize UInt8.ofNat m = x at hu HX
        have HU : Hid _ := hu
        clear hu
        go_wp2_with (at_builtin; go_must (refine wpList_append_part rfl _ _ rfl w.heap.size _ (lb ++ pre) rfl (Own.below HO.out (below_new _ _)) ⟨some ⟨_, 0, none⟩, [x], 1⟩ rfl (byte_new _ _ _ HU.out _) (by have := HLL.out; simp only [List.length_singleton]; omega) (by have := HB.out.size; simp; omega) ?_); intro v3 w3 ho3 hg3; have h3 := Own.grown (Own.below HO.out (below_new _ _)) (HB.out.alloc HB.out.size _) (by have := HB.out.size; simp; omega) hg3)
        go_ret
        exact ⟨⟨_, rfl, by rw [← HX.out]; exact ho3⟩, h3⟩
      · have HX : Hid (pre ++ [UInt8.ofNat (m % 128 + 128)] ++ C.grp (m / 128) = C.num v) := by
          have := HE.out; rw [C.grp_big h] at this; show _ = _; rw [List.append_assoc]; exact this
        have hq : IntKind.u64.wrap ((m : Int) / 128) = (m : Int) / 128 := by
          have h1 := HM.out
          unfold C.lim at h1
          exact wrap_u64_ge (by omega) (by omega)
        have hu := byte_more m
        generalize UInt8.ofNat (m % 128 + 128) = x at hu HX
        have HU : Hid _ := hu
        clear hu
        go_wp2_with (at_builtin; go_must (refine wpList_append_part rfl _ _ rfl w.heap.size _ (lb ++ pre) rfl (Own.below HO.out (below_new _ _)) ⟨some ⟨_, 0, none⟩, [x], 1⟩ rfl (byte_new _ _ _ HU.out _) (by have := HLL.out; simp only [List.length_singleton]; omega) (by have := HB.out.size; simp; omega) ?_); intro v3 w3 ho3 hg3; have h3 := Own.grown (Own.below HO.out (below_new _ _)) (HB.out.alloc HB.out.size _) (by have := HB.out.size; simp; omega) hg3)
        go_roundw
        case rel => exact ⟨m / 128, _, by go_num, Nat.lt_of_le_of_lt (Nat.div_le_self _ _) HM.out, by rw [List.append_assoc] at ho3; exact ho3, HX.out, h3⟩
        case measure => simp [intOf]; omega
end Go.Proofs.Ytglmmhgmdhdleaa

namespace Go.Proofs.Ytglmmhgmdhdleaa
open Go.RowKit Go.Lib
set_option linter.unusedVariables false

/-- The document's reader at block g. -/
structure Rr (w : World) (g : Nat) (p : Option Addr) (n c : Nat) (l : List UInt8) (a : Nat) (bad : Bool) : Prop where
  blk : w.heap[g]? = some (.cells #[.slice p n c, .int .i64 (a : Nat), .bool bad] 53)
  is : Is w p n c l
  nc : n ≤ c
  cm : c ≤ maxLen
  al : a ≤ n
  pa : 0 < c → ∃ b o, p = some ⟨b, o, none⟩
section
variable {w w' : World} {g k : Nat} {p : Option Addr} {n c : Nat} {l : List UInt8} {a : Nat} {bad : Bool}
theorem Rr.lt (h : Rr w g p n c l a bad) : g < w.heap.size := (Array.getElem?_eq_some_iff.1 h.blk).1
theorem Rr.c0 (h : Rr w g p n c l a bad) : w.cell? ⟨g, 0, none⟩ = some (.slice p n c) := by simp [World.cell?, h.blk]
theorem Rr.c1 (h : Rr w g p n c l a bad) : w.cell? ⟨g, 1, none⟩ = some (.int .i64 (a : Nat)) := by simp [World.cell?, h.blk]
theorem Rr.c2 (h : Rr w g p n c l a bad) : w.cell? ⟨g, 2, none⟩ = some (.bool bad) := by simp [World.cell?, h.blk]
theorem Rr.fz (h : Rr w g p n c l a bad) (o : Nat) : w.frozen? ⟨g, o, none⟩ = false := by simp [World.frozen?, h.blk]
theorem Rr.nb (h : Rr w g p n c l a bad) : NB w g := by
  intro o x
  simp only [World.cell?, h.blk]
  rcases o with _ | _ | _ | o <;> simp
theorem Rr.kept (h : Rr w g p n c l a bad) (hg : w.grownBy w' (some k)) (hn : NB w k) (hne : g ≠ k) : Rr w' g p n c l a bad :=
  ⟨by rw [hg.block g h.lt (fun e => hne (by cases e; rfl))]; exact h.blk, h.is.grown hg hn, h.nc, h.cm, h.al, h.pa⟩
theorem Rr.below (h : Rr w g p n c l a bad) (hb : Below w.heap.size w w') : Rr w' g p n c l a bad :=
  ⟨by rw [hb.block g h.lt]; exact h.blk, h.is.below hb, h.nc, h.cm, h.al, h.pa⟩
theorem Rr.heap (h : Rr w g p n c l a bad) (hb : Below w.heap.size w w') : Rr w' g p n c l a bad := h.below hb
theorem Rr.at (h : Rr w g p n c l a bad) (m : Nat) (v : Int) (hv : v = (m : Nat)) (hm : m ≤ n) : Rr (w.setCell ⟨g, 1, none⟩ (.int .i64 v)) g p n c l m bad := by
  subst hv
  exact ⟨set_block (o := 1) (v := .int .i64 (m : Nat)) h.blk, h.is.grown (set_grown _ _ _ _) h.nb, h.nc, h.cm, hm, h.pa⟩
theorem Rr.spoilt (h : Rr w g p n c l a bad) : Rr (w.setCell ⟨g, 2, none⟩ (.bool true)) g p n c l a true :=
  ⟨set_block (o := 2) (v := .bool true) h.blk, h.is.grown (set_grown _ _ _ _) h.nb, h.nc, h.cm, h.al, h.pa⟩
end
theorem drawn_below (w : World) (m : Nat) : Below w.heap.size w (w.drewN m) := ⟨rfl, rfl, rfl, Nat.le_refl _, fun _ _ => rfl⟩
theorem and_less (x : UInt8) : bits .and .u8 (x.toNat : Int) 127 = ((x.toNat % 128 : Nat) : Int) := by
  have h := x.toNat_lt
  have := u8_and_nat x.toNat 127 h (by omega)
  have key : ∀ n, n < 256 → n &&& 127 = n % 128 := by decide +kernel
  rw [key x.toNat h] at this
  exact this
theorem raw_bad_ret {x : Nat} (h : x = 0) : Ending.returned (.tuple #[.int .u64 0, .bool false]) = .returned (.tuple #[.int .u64 ((x : Nat) : Int), .bool false]) := by subst h; rfl
set_option maxRecDepth 100000 in
set_option maxHeartbeats 4000000 in
theorem raw_any (w : World) (g : Nat) (p : Option Addr) (n c : Nat) (l : List UInt8) (a : Nat) (bad : Bool) (h : Rr w g p n c l a bad) (hl : l.length ≤ 100000) :
    Calls Try.prog 75 #[.pointer (some ⟨g, 0, none⟩)] w fun e w' => (∃ (x : Nat) (ok : Bool) (a' : Nat), e = .returned (.tuple #[.int .u64 x, .bool ok]) ∧ x < C.lim ∧ Rr w' g p n c l a' bad ∧ (ok = true → C.raw (l.drop a) = some (x, a' - a) ∧ a ≤ a') ∧ (ok = false → C.raw (l.drop a) = none)) ∧ w.grownBy w' (some g) := by
  have H : Hid _ := h
  have hnl := h.is.1
  have HN : Hid (n = l.length) := hnl
  have hn' : n ≤ 100000 := by omega
  have hal := h.al
  clear h hnl
  go_enter Try.func75, Try.ntmps75
  go_wp2
  go_loopw [4, 5] (fun s i wr => ∃ (k acc : Nat), a + k ≤ n ∧ k ≤ 9 ∧ acc < 128 ^ k ∧ i = .int .i64 k ∧ s = .int .u64 acc ∧ C.raw (l.drop a) = C.rawAt k acc (l.drop (a + k)) ∧ Rr wr g p n c l a bad ∧ w.grownBy wr (some g)) (fun _ i _ => n - (intOf i).toNat)
  case atStart => exact ⟨0, 0, by omega, by omega, by simp, rfl, rfl, by simp [C.raw], H.out, World.grownBy.refl _ _⟩
  case round =>
    obtain ⟨k, acc, hk, hk9, ha, rfl, rfl, hr, hrr, hgw⟩ := hrel
    have h0 := hrr.c0
    have h1 := hrr.c1
    have f1 := hrr.fz 1
    have HR : Hid _ := hrr
    have HG : Hid _ := hgw
    clear hrr hgw
    have hd : decide ((k : Int) < 10) = true := by simp; omega
    by_cases hlt : a + k < n
    · have hd2 : decide ((a : Int) + (k : Int) < (n : Int)) = true := by simp; omega
      have hkl : a + k < l.length := by have := HN.out; omega
      obtain ⟨b, o, rfl, hc⟩ := HR.out.is.2.2 (show 0 < l.length by omega)
      have hck := hc (a + k) hkl
      have hdr : l.drop (a + k) = l.getD (a + k) 0 :: l.drop (a + (k + 1)) := by
        rw [List.drop_eq_getElem_cons hkl]; simp [List.getD, hkl, Nat.add_assoc]
      simp only at hck
      generalize l.getD (a + k) 0 = x at hck hdr
      rw [hdr] at hr
      have hx0 := x.toNat_lt
      have HRW : Hid (C.raw (l.drop a) = C.rawAt k acc (x :: l.drop (a + (k + 1)))) := hr
      have HAC : Hid (acc < 128 ^ k) := ha
      have HXL : Hid (x.toNat < 256) := hx0
      have hi1 : (0 : Int) ≤ (a : Int) + (k : Int) := by omega
      have hi2 : (a : Int) + (k : Int) < (n : Int) := by omega
      have hi3 : ((a : Int) + (k : Int)).toNat = a + k := by omega
      clear hc hr ha hdr hkl hx0
      by_cases hbad : k = 9 ∧ 1 < x.toNat
      · obtain ⟨rfl, hx1⟩ := hbad
        have hx1' : (1 : Int) < (x.toNat : Nat) := by omega
        go_wp2_with fail
        go_quiet (fail)
        go_wp2_with fail
        go_quiet (fail)
        go_wp2
        go_ret2
        refine ⟨⟨0, false, a, rfl, by decide, ?_, (fun h => by cases h), fun _ => HRW.out.trans (rawAt_none (Or.inl ⟨rfl, hx1⟩))⟩, ?_⟩
        · exact HR.out.below (drawn_below _ _)
        · exact gtrans HG.out (gbelow (drawn_below _ _))
      have hy := and_less x
      have hg := or_group k acc (x.toNat % 128) hk9 HAC.out (by omega) (fun h => by omega)
      have HQ : Hid (acc + x.toNat % 128 * 128 ^ k < 18446744073709551616) := hg.2.2
      generalize hyy : x.toNat % 128 = y at hy hg HQ
      have hy128 : y < 128 := by omega
      obtain ⟨hw2, hw3, _⟩ := hg
      generalize hz : y * 128 ^ k = z at hw2 hw3 HQ
      generalize hq : acc + z = q at hw3 HQ
      have HE : Hid (q = acc + x.toNat % 128 * 128 ^ k) := by show _ = _; rw [← hq, ← hz, hyy]
      clear hyy hz hq
      by_cases h128 : x.toNat < 128
      · have h128' : ((x.toNat : Nat) : Int) < 128 := by omega
        have HST : Hid (∀ (wq : World) (m : Int), Rr wq g (some ⟨b, o, none⟩) n c l a bad → m = ((a + k + 1 : Nat) : Int) → Rr (wq.setCell ⟨g, 1, none⟩ (.int .i64 m)) g (some ⟨b, o, none⟩) n c l (a + k + 1) bad) := fun wq m hq hm => hq.at (a + k + 1) m hm (by omega)
        by_cases h9 : k = 9
        · subst h9
          rw [two_pow_63] at hw2
          have hx1 : ((x.toNat : Nat) : Int) ≤ 1 := by omega
          by_cases h0 : x.toNat = 0
          · have hk0 : 0 < 9 := by omega
            have hy' : bits .and .u8 0 127 = (y : Int) := by have := hy; rw [h0] at this; exact this
            go_wp2_with fail
            go_quiet (fail)
            go_wp2_with fail
            go_quiet (fail)
            go_wp2
            go_ret2
            refine ⟨⟨q, false, a + 9 + 1, rfl, HQ.out, HST.out _ _ (HR.out.below (drawn_below _ _)) (by push_cast; rfl), (fun h => by cases h), (fun _ => HRW.out.trans (rawAt_none (Or.inr ⟨h0, hk0⟩)))⟩, gtrans HG.out (gtrans (gbelow (drawn_below _ _)) (set_grown _ _ _ _))⟩
          · have hx2 : (0 : Int) < ((x.toNat : Nat) : Int) := by omega
            go_wp2_with fail
            go_quiet (fail)
            go_wp2_with fail
            go_quiet (fail)
            go_wp2
            go_ret2
            refine ⟨⟨q, true, a + 9 + 1, rfl, HQ.out, HST.out _ _ (HR.out.below (drawn_below _ _)) (by push_cast; rfl), (fun _ => ⟨?_, by omega⟩), (fun h => by cases h)⟩, gtrans HG.out (gtrans (gbelow (drawn_below _ _)) (set_grown _ _ _ _))⟩
            rw [HRW.out, rawAt_last (by omega) (by omega) (by omega), HE.out]
            congr 2
            omega
        · have h9' : ¬ ((k : Int) = 9) := by omega
          by_cases h0 : x.toNat = 0
          · have hy' : bits .and .u8 0 127 = (y : Int) := by have := hy; rw [h0] at this; exact this
            by_cases hk0 : 0 < k
            · have hk0' : ((k : Int) == 0) = false := by simp; omega
              go_wp2_with fail
              go_quiet (fail)
              go_wp2_with fail
              go_quiet (fail)
              go_wp2
              go_ret2
              refine ⟨⟨q, false, a + k + 1, rfl, HQ.out, HST.out _ _ (HR.out.below (drawn_below _ _)) (by push_cast; rfl), (fun h => by cases h), (fun _ => HRW.out.trans (rawAt_none (Or.inr ⟨h0, hk0⟩)))⟩, gtrans HG.out (gtrans (gbelow (drawn_below _ _)) (set_grown _ _ _ _))⟩
            · have hk0' : ((k : Int) == 0) = true := by simp; omega
              have HK : Hid (k = 0) := by show _ = _; omega
              clear hk0
              go_wp2_with fail
              go_quiet (fail)
              go_wp2_with fail
              go_quiet (fail)
              go_wp2
              go_ret2
              refine ⟨⟨q, true, a + k + 1, rfl, HQ.out, HST.out _ _ (HR.out.below (drawn_below _ _)) (by push_cast; rfl), (fun _ => ⟨?_, by omega⟩), (fun h => by cases h)⟩, gtrans HG.out (gtrans (gbelow (drawn_below _ _)) (set_grown _ _ _ _))⟩
              rw [HRW.out, rawAt_last (by omega) (by omega) (fun _ => HK.out), HE.out]
              congr 2
              omega
          · have hx2 : (0 : Int) < ((x.toNat : Nat) : Int) := by omega
            go_wp2_with fail
            go_quiet (fail)
            go_wp2_with fail
            go_quiet (fail)
            go_wp2
            go_ret2
            refine ⟨⟨q, true, a + k + 1, rfl, HQ.out, HST.out _ _ (HR.out.below (drawn_below _ _)) (by push_cast; rfl), (fun _ => ⟨?_, by omega⟩), (fun h => by cases h)⟩, gtrans HG.out (gtrans (gbelow (drawn_below _ _)) (set_grown _ _ _ _))⟩
            rw [HRW.out, rawAt_last (by omega) (by omega) (by omega), HE.out]
            congr 2
            omega
      · have h128' : 128 ≤ ((x.toNat : Nat) : Int) := by omega
        have h9 : ¬ k = 9 := by omega
        have h9' : ¬ ((k : Int) = 9) := by omega
        go_wp2_with fail
        go_quiet (fail)
        go_wp2_with fail
        go_quiet (fail)
        go_wp2
        go_roundw
        case rel => exact ⟨k + 1, q, by omega, by omega, by rw [HE.out]; exact acc_lt HAC.out (by omega), by go_num, rfl, by rw [HRW.out, rawAt_more h9 (by omega), HE.out], HR.out.below (drawn_below _ _), gtrans HG.out (gbelow (drawn_below _ _))⟩
        case measure => simp [intOf]; omega
    · have hd2 : decide ((a : Int) + (k : Int) < (n : Int)) = false := by simp; omega
      have HRW : Hid _ := hr
      clear hr ha
      go_wp2_with fail
      go_quiet (fail)
      go_wp2
      go_ret2
      refine ⟨⟨0, false, a, rfl, by decide, HR.out.below (drawn_below _ _), (fun h => by cases h), (fun _ => ?_)⟩, gtrans HG.out (gbelow (drawn_below _ _))⟩
      rw [HRW.out, List.drop_of_length_le (by have := HN.out; omega)]; rfl
end Go.Proofs.Ytglmmhgmdhdleaa

namespace Go.Proofs.Ytglmmhgmdhdleaa
open Go.RowKit Go.Lib
set_option linter.unusedVariables false

theorem and_one (x : Nat) (h : x < C.lim) : bits .and .u64 (x : Int) 1 = ((x % 2 : Nat) : Int) := by
  have := u64_and_nat x 1 h (by omega)
  rw [Nat.and_one_is_mod] at this
  exact this
/-- What the document's Num tells, and where it stands then. -/
def RefNum (w' : World) (g : Nat) (p : Option Addr) (n c : Nat) (l : List UInt8) (a : Nat) (least most v : Int) : Prop :=
  (∃ a', Rr w' g p n c l a' false ∧ a ≤ a' ∧ C.fst (l.drop a) = (v, a' - a) ∧ a' - a ≠ 0 ∧ least ≤ v ∧ v ≤ most) ∨
  (v = 0 ∧ (∃ a', Rr w' g p n c l a' true) ∧ ((C.fst (l.drop a)).2 = 0 ∨ (C.fst (l.drop a)).1 < least ∨ most < (C.fst (l.drop a)).1))
theorem RefNum.good {w' : World} {g : Nat} {p : Option Addr} {n c : Nat} {l : List UInt8} {a a' x : Nat} {least most v : Int} (h : Rr w' g p n c l a' false) (hr : C.raw (l.drop a) = some (x, a' - a) ∧ a ≤ a') (hv : v = C.unzig x) (h1 : least ≤ v) (h2 : v ≤ most) : RefNum w' g p n c l a least most v := by
  refine Or.inl ⟨a', h, hr.2, ?_, ?_, h1, h2⟩
  · rw [fst_some hr.1, hv]
  · have := C.raw_lt hr.1; omega
theorem RefNum.none {w' : World} {g : Nat} {p : Option Addr} {n c : Nat} {l : List UInt8} {a a' : Nat} {least most : Int} (h : Rr w' g p n c l a' true) (hr : C.raw (l.drop a) = none) : RefNum w' g p n c l a least most 0 := by
  refine Or.inr ⟨rfl, ⟨a', h⟩, Or.inl ?_⟩
  rw [fst_none hr]
theorem RefNum.out {w' : World} {g : Nat} {p : Option Addr} {n c : Nat} {l : List UInt8} {a a' x : Nat} {least most v : Int} {b : Nat} (h : Rr w' g p n c l a' true) (hr : C.raw (l.drop a) = some (x, b)) (hv : v = C.unzig x) (h1 : v < least ∨ most < v) : RefNum w' g p n c l a least most 0 := by
  refine Or.inr ⟨rfl, ⟨a', h⟩, Or.inr ?_⟩
  rw [fst_some hr, ← hv]; exact h1
theorem unzig_even {x : Nat} (h : x % 2 = 0) : (x : Int) / 2 = C.unzig x := by unfold C.unzig; rw [if_pos h]; omega
theorem unzig_odd {x : Nat} (h : x % 2 = 1) : -1 - (x : Int) / 2 = C.unzig x := by unfold C.unzig; rw [if_neg (by omega)]; omega
set_option maxRecDepth 100000 in
set_option maxHeartbeats 8000000 in
theorem refrnum_walk (w : World) (g : Nat) (p : Option Addr) (n c : Nat) (l : List UInt8) (a : Nat) (least most : Int) (h : Rr w g p n c l a false) (hl : l.length ≤ 100000) :
    Calls Try.prog 58 #[.pointer (some ⟨g, 0, none⟩), .int .i64 least, .int .i64 most] w fun e w' => (∃ v, e = .returned (.int .i64 v) ∧ RefNum w' g p n c l a least most v) ∧ w.grownBy w' (some g) := by
  have h2 := h.c2
  have H : Hid _ := h
  clear h
  go_enter Try.func58, Try.ntmps58
  go_wp2_with fail
  refine (raw_any w g p n c l a false H.out hl).mono ?_
  rintro e w1 ⟨⟨x, ok, a', rfl, hx, hr1, hok, hno⟩, hg1⟩
  have h2 := hr1.c2
  have f2 := hr1.fz 2
  have HR1 : Hid _ := hr1
  have hand := and_one x hx
  have HOK : Hid _ := hok
  have HNO : Hid _ := hno
  have hx' : x < 18446744073709551616 := hx
  clear hx hr1 hok hno
  cases ok with
  | false =>
    clear hx' hand
    by_cases h1 : (bits .and .u64 (x : Int) 1 == 1) = true
    all_goals
      go_wp2
      go_ret
      exact ⟨⟨0, rfl, RefNum.none HR1.out.spoilt (HNO.out (by trivial))⟩, gtrans hg1 (set_grown _ _ _ _)⟩
  | true =>
    rcases Nat.mod_two_eq_zero_or_one x with hm | hm
    · rw [hm] at hand
      have HM : Hid (x % 2 = 0) := hm
      have hodd : (bits .and .u64 (x : Int) 1 == 1) = false := by rw [hand]; decide
      clear hand hm
      by_cases hva : (x : Int) / 2 < least
      · go_wp2
        go_ret
        exact ⟨⟨0, rfl, RefNum.out HR1.out.spoilt (HOK.out (by trivial)).1 (unzig_even HM.out) (Or.inl hva)⟩, gtrans hg1 (set_grown _ _ _ _)⟩
      by_cases hvb : most < (x : Int) / 2
      · go_wp2
        go_ret
        exact ⟨⟨0, rfl, RefNum.out HR1.out.spoilt (HOK.out (by trivial)).1 (unzig_even HM.out) (Or.inr hvb)⟩, gtrans hg1 (set_grown _ _ _ _)⟩
      go_wp2
      go_ret
      exact ⟨⟨_, rfl, RefNum.good HR1.out (HOK.out (by trivial)) (unzig_even HM.out) (by omega) (by omega)⟩, hg1⟩
    · rw [hm] at hand
      have HM : Hid (x % 2 = 1) := hm
      have hodd : (bits .and .u64 (x : Int) 1 == 1) = true := by rw [hand]; decide
      clear hand hm
      by_cases hva : -1 - (x : Int) / 2 < least
      · go_wp2
        go_ret
        exact ⟨⟨0, rfl, RefNum.out HR1.out.spoilt (HOK.out (by trivial)).1 (unzig_odd HM.out) (Or.inl hva)⟩, gtrans hg1 (set_grown _ _ _ _)⟩
      by_cases hvb : most < -1 - (x : Int) / 2
      · go_wp2
        go_ret
        exact ⟨⟨0, rfl, RefNum.out HR1.out.spoilt (HOK.out (by trivial)).1 (unzig_odd HM.out) (Or.inr hvb)⟩, gtrans hg1 (set_grown _ _ _ _)⟩
      go_wp2
      go_ret
      exact ⟨⟨_, rfl, RefNum.good HR1.out (HOK.out (by trivial)) (unzig_odd HM.out) (by omega) (by omega)⟩, hg1⟩
end Go.Proofs.Ytglmmhgmdhdleaa

namespace Go.Proofs.Ytglmmhgmdhdleaa
open Go.RowKit Go.Lib
set_option linter.unusedVariables false

/-- The document's reader at block g: none: it is bad. -/
def Rs (w : World) (g : Nat) (p : Option Addr) (n c : Nat) (l : List UInt8) (s : Option (List UInt8)) : Prop := ∃ a, Rr w g p n c l a s.isNone ∧ ∀ r, s = some r → r = l.drop a
section
variable {w w' : World} {g k : Nat} {p : Option Addr} {n c : Nat} {l : List UInt8} {s : Option (List UInt8)}
theorem Rs.nb (h : Rs w g p n c l s) : NB w g := by obtain ⟨a, h, _⟩ := h; exact h.nb
theorem Rs.lt (h : Rs w g p n c l s) : g < w.heap.size := by obtain ⟨a, h, _⟩ := h; exact h.lt
theorem Rs.kept (h : Rs w g p n c l s) (hg : w.grownBy w' (some k)) (hn : NB w k) (hne : g ≠ k) : Rs w' g p n c l s := by obtain ⟨a, h, h'⟩ := h; exact ⟨a, h.kept hg hn hne, h'⟩
theorem Rs.below (h : Rs w g p n c l s) (hb : Below w.heap.size w w') : Rs w' g p n c l s := by obtain ⟨a, h, h'⟩ := h; exact ⟨a, h.below hb, h'⟩
theorem Rs.len (h : Rs w g p n c l s) : (s.getD []).length ≤ l.length := by
  obtain ⟨a, h, h'⟩ := h
  cases s with
  | none => exact Nat.zero_le _
  | some r => rw [h' r rfl]; simp only [Option.getD_some, List.length_drop]; omega
end
theorem refrnum_any (w : World) (g : Nat) (p : Option Addr) (n c : Nat) (l : List UInt8) (s : Option (List UInt8)) (least most : Int) (h : Rs w g p n c l s) (hl : l.length ≤ 100000) :
    Calls Try.prog 58 #[.pointer (some ⟨g, 0, none⟩), .int .i64 least, .int .i64 most] w fun e w' => e = .returned (.int .i64 (C.rnum s least most).1) ∧ Rs w' g p n c l (C.rnum s least most).2 ∧ w.grownBy w' (some g) := by
  obtain ⟨a, h, hs⟩ := h
  cases s with
  | none =>
    have h2 : w.cell? ⟨g, 2, none⟩ = some (.bool true) := h.c2
    have H : Hid _ := h
    have HN : Hid (C.rnum none least most = (0, none)) := rfl
    clear h hs
    rw [HN.out]
    go_enter Try.func58, Try.ntmps58
    go_wp2
    go_ret
    exact ⟨rfl, ⟨a, H.out, fun r hr => by cases hr⟩, World.grownBy.refl _ _⟩
  | some r =>
    obtain rfl := hs r rfl
    refine (refrnum_walk w g p n c l a least most h hl).mono ?_
    rintro e w' ⟨⟨v, rfl, hv⟩, hg⟩
    rw [rnum_all]
    simp only [Option.getD_some]
    rcases hv with ⟨a', h1, h2, h3, h4, h5, h6⟩ | ⟨rfl, ⟨a', h1⟩, h2⟩
    · rw [h3, if_neg (by omega)]
      refine ⟨rfl, ⟨a', h1, fun r hr => ?_⟩, hg⟩
      simp only [Option.some.injEq] at hr
      rw [← hr, List.drop_drop]
      congr 1; omega
    · rw [if_pos h2]
      exact ⟨rfl, ⟨a', h1, fun r hr => by cases hr⟩, hg⟩
theorem refrnum_at (w : World) (g : Nat) (p : Option Addr) (n c : Nat) (l : List UInt8) (s s1 : Option (List UInt8)) (least most v : Int) (h : Rs w g p n c l s) (hl : l.length ≤ 100000) (hr : C.rnum s least most = (v, s1)) :
    Calls Try.prog 58 #[.pointer (some ⟨g, 0, none⟩), .int .i64 least, .int .i64 most] w fun e w' => e = .returned (.int .i64 v) ∧ Rs w' g p n c l s1 ∧ w.grownBy w' (some g) := by
  have := refrnum_any w g p n c l s least most h hl
  rw [hr] at this
  exact this
set_option maxHeartbeats 4000000 in
theorem refend_any (w : World) (g : Nat) (p : Option Addr) (n c : Nat) (l : List UInt8) (s : Option (List UInt8)) (h : Rs w g p n c l s) (hl : l.length ≤ 100000) :
    Calls Try.prog 28 #[.pointer (some ⟨g, 0, none⟩)] w fun e w' => e = .returned (.bool (s == some [])) ∧ Below w.heap.size w w' := by
  obtain ⟨a, h, hs⟩ := h
  have h0 := h.c0
  have h1 := h.c1
  have hn := h.is.1
  have hal := h.al
  cases s with
  | none =>
    have h2 : w.cell? ⟨g, 2, none⟩ = some (.bool true) := h.c2
    clear h hs hn
    go_enter Try.func28, Try.ntmps28
    go_wp2_with fail
    go_quiet (fail)
    go_wp2
    go_ret
    exact ⟨rfl, drawn_below _ _⟩
  | some r =>
    have h2 : w.cell? ⟨g, 2, none⟩ = some (.bool false) := h.c2
    have HE : Hid ((((a : Nat) : Int) == (n : Int)) = (some r == some [])) := by
      show _ = _
      rw [hs r rfl]
      by_cases hh : a = n
      · have : l.drop a = [] := List.drop_of_length_le (by omega)
        rw [this, hh]; simp
      · have : ¬ l.drop a = [] := fun h' => by have := congrArg List.length h'; simp only [List.length_drop, List.length_nil] at this; omega
        rw [beq_eq_false_iff_ne.2 (show ¬ ((a : Int) = (n : Int)) by omega)]
        symm
        rw [beq_eq_false_iff_ne]
        intro h'
        exact this (Option.some.inj h')
    clear h hs hn
    go_enter Try.func28, Try.ntmps28
    go_wp2_with fail
    go_quiet (fail)
    go_wp2
    go_ret
    exact ⟨ret_bool HE.out, drawn_below _ _⟩
end Go.Proofs.Ytglmmhgmdhdleaa

namespace Go.Proofs.Ytglmmhgmdhdleaa
open Go.RowKit Go.Lib
set_option linter.unusedVariables false

theorem refnum_at (pb : Option Addr) (nb cb : Nat) (lb l' : List UInt8) (v : Int) (w : World) (hb : Is w pb nb cb lb) (hv : C.fits v) (hl : lb.length ≤ 90000) (e : l' = lb ++ C.num v) :
    Calls Try.prog 55 #[.slice pb nb cb, .int .i64 v] w fun e w' => (∃ p n c, e = .returned (.slice p n c) ∧ Is w' p n c l') ∧ Below w.heap.size w w' := by
  subst e
  refine (refnum_any pb nb cb lb v w hb hv hl).mono ?_
  rintro e w' ⟨⟨x, rfl, ho⟩, hb⟩
  obtain ⟨p, n, c, rfl, hi⟩ := Own.is ho
  exact ⟨⟨p, n, c, rfl, hi⟩, hb⟩
set_option maxRecDepth 100000 in
set_option maxHeartbeats 8000000 in
theorem rput_any (pb : Option Addr) (nb cb : Nat) (lb : List UInt8) (a : V7) (w : World) (hb : Is w pb nb cb lb) (hv : C.fits7 a) (hl : lb.length ≤ 80000) :
    Calls Try.prog 56 #[.slice pb nb cb, a.v] w fun e w' => (∃ p n c, e = .returned (.slice p n c) ∧ Is w' p n c (lb ++ C.vbytes a)) ∧ Below w.heap.size w w' := by
  have HI0 : Hid (Is w pb nb cb lb) := hb
  obtain ⟨a0, a1, a2, a3, a4, a5, a6⟩ := a
  have HV : Hid _ := hv
  have N0 : Hid ((C.num a0).length ≤ 10) := (C.num_ten hv.1).2
  have N1 : Hid ((C.num a1).length ≤ 10) := (C.num_ten hv.2.1).2
  have N2 : Hid ((C.num a2).length ≤ 10) := (C.num_ten hv.2.2.1).2
  have N3 : Hid ((C.num a3).length ≤ 10) := (C.num_ten hv.2.2.2.1).2
  have N4 : Hid ((C.num a4).length ≤ 10) := (C.num_ten hv.2.2.2.2.1).2
  have N5 : Hid ((C.num a5).length ≤ 10) := (C.num_ten hv.2.2.2.2.2.1).2
  have N6 : Hid ((C.num a6).length ≤ 10) := (C.num_ten hv.2.2.2.2.2.2).2
  obtain ⟨l1, e1⟩ : ∃ l, l = lb ++ C.num a0 := ⟨_, rfl⟩
  obtain ⟨l2, e2⟩ : ∃ l, l = l1 ++ C.num a1 := ⟨_, rfl⟩
  obtain ⟨l3, e3⟩ : ∃ l, l = l2 ++ C.num a2 := ⟨_, rfl⟩
  obtain ⟨l4, e4⟩ : ∃ l, l = l3 ++ C.num a3 := ⟨_, rfl⟩
  obtain ⟨l5, e5⟩ : ∃ l, l = l4 ++ C.num a4 := ⟨_, rfl⟩
  obtain ⟨l6, e6⟩ : ∃ l, l = l5 ++ C.num a5 := ⟨_, rfl⟩
  obtain ⟨l7, e7⟩ : ∃ l, l = l6 ++ C.num a6 := ⟨_, rfl⟩
  have E : Hid (l7 = lb ++ C.vbytes ⟨a0, a1, a2, a3, a4, a5, a6⟩ ∧ l1.length ≤ 90000 ∧ l2.length ≤ 90000 ∧ l3.length ≤ 90000 ∧ l4.length ≤ 90000 ∧ l5.length ≤ 90000 ∧ l6.length ≤ 90000 ∧ lb.length ≤ 90000) := by
    have := N0.out; have := N1.out; have := N2.out; have := N3.out; have := N4.out; have := N5.out; have := N6.out
    refine ⟨?_, ?_, ?_, ?_, ?_, ?_, ?_, by omega⟩
    · subst e7 e6 e5 e4 e3 e2 e1; simp only [C.vbytes, List.append_assoc]
    all_goals (subst e7 e6 e5 e4 e3 e2 e1; simp only [List.length_append]; omega)
  rw [← E.out.1]
  have G1 : Hid _ := e1
  have G2 : Hid _ := e2
  have G3 : Hid _ := e3
  have G4 : Hid _ := e4
  have G5 : Hid _ := e5
  have G6 : Hid _ := e6
  have G7 : Hid _ := e7
  clear e1 e2 e3 e4 e5 e6 e7 N0 N1 N2 N3 N4 N5 N6 hb hv hl
  simp only [V7.v]
  go_enter Try.func56, Try.ntmps56
  go_wp2
  refine wp_loop_rounds 8 ?_
  rw [rounds_succ]
  go_wp2_with fail
  refine (refnum_at pb nb cb lb l1 a0 _ (HI0.out.below (below_new _ _)) HV.out.1 E.out.2.2.2.2.2.2.2 G1.out).mono ?_
  rintro x w1 ⟨⟨p1, n1, c1, rfl, hi1⟩, hb1⟩
  have HI1 : Hid _ := hi1
  have HQ1 : Hid (RB w1 w.heap.size ⟨a0, a1, a2, a3, a4, a5, a6⟩) := kept_block hb1
  have HB1 : Hid (Below w.heap.size w w1) := bt (below_new _ _) hb1
  obtain ⟨A0, A1, A2, A3, A4, A5, A6⟩ := box7 HQ1.out
  clear hi1 hb1
  go_wp2
  rw [rounds_succ]
  go_wp2_with fail
  refine (refnum_at p1 n1 c1 l1 l2 a1 _ HI1.out HV.out.2.1 E.out.2.1 G2.out).mono ?_
  rintro x w2 ⟨⟨p2, n2, c2, rfl, hi2⟩, hb2⟩
  have HI2 : Hid _ := hi2
  have HQ2 : Hid (RB w2 w.heap.size ⟨a0, a1, a2, a3, a4, a5, a6⟩) := HQ1.out.keep hb2
  have HB2 : Hid (Below w.heap.size w w2) := bt HB1.out hb2
  clear A0 A1 A2 A3 A4 A5 A6 hi2 hb2
  obtain ⟨A0, A1, A2, A3, A4, A5, A6⟩ := box7 HQ2.out
  go_wp2
  rw [rounds_succ]
  go_wp2_with fail
  refine (refnum_at p2 n2 c2 l2 l3 a2 _ HI2.out HV.out.2.2.1 E.out.2.2.1 G3.out).mono ?_
  rintro x w3 ⟨⟨p3, n3, c3, rfl, hi3⟩, hb3⟩
  have HI3 : Hid _ := hi3
  have HQ3 : Hid (RB w3 w.heap.size ⟨a0, a1, a2, a3, a4, a5, a6⟩) := HQ2.out.keep hb3
  have HB3 : Hid (Below w.heap.size w w3) := bt HB2.out hb3
  clear A0 A1 A2 A3 A4 A5 A6 hi3 hb3
  obtain ⟨A0, A1, A2, A3, A4, A5, A6⟩ := box7 HQ3.out
  go_wp2
  rw [rounds_succ]
  go_wp2_with fail
  refine (refnum_at p3 n3 c3 l3 l4 a3 _ HI3.out HV.out.2.2.2.1 E.out.2.2.2.1 G4.out).mono ?_
  rintro x w4 ⟨⟨p4, n4, c4, rfl, hi4⟩, hb4⟩
  have HI4 : Hid _ := hi4
  have HQ4 : Hid (RB w4 w.heap.size ⟨a0, a1, a2, a3, a4, a5, a6⟩) := HQ3.out.keep hb4
  have HB4 : Hid (Below w.heap.size w w4) := bt HB3.out hb4
  clear A0 A1 A2 A3 A4 A5 A6 hi4 hb4
  obtain ⟨A0, A1, A2, A3, A4, A5, A6⟩ := box7 HQ4.out
  go_wp2
  rw [rounds_succ]
  go_wp2_with fail
  refine (refnum_at p4 n4 c4 l4 l5 a4 _ HI4.out HV.out.2.2.2.2.1 E.out.2.2.2.2.1 G5.out).mono ?_
  rintro x w5 ⟨⟨p5, n5, c5, rfl, hi5⟩, hb5⟩
  have HI5 : Hid _ := hi5
  have HQ5 : Hid (RB w5 w.heap.size ⟨a0, a1, a2, a3, a4, a5, a6⟩) := HQ4.out.keep hb5
  have HB5 : Hid (Below w.heap.size w w5) := bt HB4.out hb5
  clear A0 A1 A2 A3 A4 A5 A6 hi5 hb5
  obtain ⟨A0, A1, A2, A3, A4, A5, A6⟩ := box7 HQ5.out
  go_wp2
  rw [rounds_succ]
  go_wp2_with fail
  refine (refnum_at p5 n5 c5 l5 l6 a5 _ HI5.out HV.out.2.2.2.2.2.1 E.out.2.2.2.2.2.1 G6.out).mono ?_
  rintro x w6 ⟨⟨p6, n6, c6, rfl, hi6⟩, hb6⟩
  have HI6 : Hid _ := hi6
  have HQ6 : Hid (RB w6 w.heap.size ⟨a0, a1, a2, a3, a4, a5, a6⟩) := HQ5.out.keep hb6
  have HB6 : Hid (Below w.heap.size w w6) := bt HB5.out hb6
  clear A0 A1 A2 A3 A4 A5 A6 hi6 hb6
  obtain ⟨A0, A1, A2, A3, A4, A5, A6⟩ := box7 HQ6.out
  go_wp2
  rw [rounds_succ]
  go_wp2_with fail
  refine (refnum_at p6 n6 c6 l6 l7 a6 _ HI6.out HV.out.2.2.2.2.2.2 E.out.2.2.2.2.2.2.1 G7.out).mono ?_
  rintro x w7 ⟨⟨p7, n7, c7, rfl, hi7⟩, hb7⟩
  have HI7 : Hid _ := hi7
  have HQ7 : Hid (RB w7 w.heap.size ⟨a0, a1, a2, a3, a4, a5, a6⟩) := HQ6.out.keep hb7
  have HB7 : Hid (Below w.heap.size w w7) := bt HB6.out hb7
  clear A0 A1 A2 A3 A4 A5 A6 hi7 hb7
  obtain ⟨A0, A1, A2, A3, A4, A5, A6⟩ := box7 HQ7.out
  go_wp2
  rw [rounds_succ]
  go_wp2
  go_ret
  exact ⟨⟨_, _, _, rfl, HI7.out⟩, HB7.out⟩
theorem rgrow_nb {w : World} {b : Nat} {v : V7} (h : RB w b v) : NB w b := nb7 h
theorem rlen' {s s' : Option (List UInt8)} {a b v : Int} (h : C.rnum s a b = (v, s')) (hl : (s.getD []).length ≤ 100000) : (s'.getD []).length ≤ 100000 := rnum_len' h hl
set_option maxRecDepth 100000 in
set_option maxHeartbeats 8000000 in
theorem rgetN_any (w : World) (g : Nat) (p : Option Addr) (n c : Nat) (l : List UInt8) (s s0 s1 s2 s3 s4 s5 s6 : Option (List UInt8)) (x0 x1 x2 x3 x4 x5 x6 : Int) (h : Rs w g p n c l s) (hl : l.length ≤ 100000)
    (h0 : C.rnum s 0 1099511627776 = (x0, s0)) (h1 : C.rnum s0 0 1099511627776 = (x1, s1)) (h2 : C.rnum s1 0 1099511627776 = (x2, s2)) (h3 : C.rnum s2 0 1099511627776 = (x3, s3)) (h4 : C.rnum s3 0 1099511627776 = (x4, s4)) (h5 : C.rnum s4 0 1099511627776 = (x5, s5)) (h6 : C.rnum s5 0 1099511627776 = (x6, s6)) :
    Calls Try.prog 57 #[.pointer (some ⟨g, 0, none⟩)] w fun e w' => e = .returned (if s6.isNone then zero7 else ⟨x0, x1, x2, x3, x4, x5, x6⟩ : V7).v ∧ Rs w' g p n c l s6 ∧ w.grownBy w' (some g) := by
  have HX : Hid (Rs w g p n c l s) := h
  have HG : Hid (g < w.heap.size) := h.lt
  have HL : Hid (l.length ≤ 100000) := hl
  have E0 : Hid _ := h0
  have E1 : Hid _ := h1
  have E2 : Hid _ := h2
  have E3 : Hid _ := h3
  have E4 : Hid _ := h4
  have E5 : Hid _ := h5
  have E6 : Hid _ := h6
  clear h hl h0 h1 h2 h3 h4 h5 h6
  go_enter Try.func57, Try.ntmps57
  go_wp2
  refine wp_loop_rounds 8 ?_
  rw [rounds_succ]
  go_wp2_with fail
  refine (refrnum_at _ g p n c l s s0 0 1099511627776 x0 (HX.out.below (bt (below_new _ _) (below_new _ _))) HL.out E0.out).mono ?_
  rintro x w0 ⟨rfl, hr0, hg0'⟩
  have hz0 : w0.heap[w.heap.size]? = some (.cells #[.int .i64 0, .int .i64 0, .int .i64 0, .int .i64 0, .int .i64 0, .int .i64 0, .int .i64 0] 40) := (hg0'.block _ (by simp <;> omega) (fun e => by have := HG.out; have := Option.some.inj e; omega)).trans (by rw [(below_new _ _).block _ (by simp)]; exact heap_alloc_new _ _)
  have hq0 : w0.heap[w.heap.size + 1]? = some (.cells #[.int .i64 0, .int .i64 0, .int .i64 0, .int .i64 0, .int .i64 0, .int .i64 0, .int .i64 0] 40) := (hg0'.block _ (by simp) (fun e => by have := HG.out; have := Option.some.inj e; omega)).trans (by have := heap_alloc_new (w.alloc (.cells #[.int .i64 0, .int .i64 0, .int .i64 0, .int .i64 0, .int .i64 0, .int .i64 0, .int .i64 0] 40)) (.cells #[.int .i64 0, .int .i64 0, .int .i64 0, .int .i64 0, .int .i64 0, .int .i64 0, .int .i64 0] 40); simpa using this)
  have hg0 : w.grownBy w0 (some g) := gtrans (gbelow (bt (below_new _ _) (below_new _ _))) hg0'
  clear hg0'
  have HR0 : Hid (Rs (w0.setCell ⟨w.heap.size + 1, 0, none⟩ (.int .i64 x0)) g p n c l s0) := hr0.kept (set_grown _ _ _ _) (nb7 hq0) (by have := HG.out; omega)
  have HZ0 : Hid _ := hz0
  have HQ0 : Hid _ := hq0
  have HGB0 : Hid _ := hg0
  have f0 := frozen_cells hq0 0
  have a0 := (box7 hq0).1
  clear hr0 hz0 hq0 hg0
  go_wp2
  rw [rounds_succ]
  go_wp2_with fail
  refine (refrnum_at _ g p n c l s0 s1 0 1099511627776 x1 HR0.out HL.out E1.out).mono ?_
  rintro x w1 ⟨rfl, hr1, hg1'⟩
  have hz1 : w1.heap[w.heap.size]? = some (.cells #[.int .i64 0, .int .i64 0, .int .i64 0, .int .i64 0, .int .i64 0, .int .i64 0, .int .i64 0] 40) := (hg1'.block _ (by rw [size_set]; exact (Array.getElem?_eq_some_iff.1 HZ0.out).1) (fun e => by have := HG.out; have := Option.some.inj e; omega)).trans ((Below.heap_setCell _ _ _ _ (by show w.heap.size ≠ w.heap.size + 1; omega)).trans HZ0.out)
  have hq1 : w1.heap[w.heap.size + 1]? = some (.cells #[.int .i64 x0, .int .i64 0, .int .i64 0, .int .i64 0, .int .i64 0, .int .i64 0, .int .i64 0] 40) := (hg1'.block _ (by rw [size_set]; exact (Array.getElem?_eq_some_iff.1 HQ0.out).1) (fun e => by have := HG.out; have := Option.some.inj e; omega)).trans (set_block HQ0.out)
  have hg1 : w.grownBy w1 (some g) := gtrans (grown_set HGB0.out (Nat.le_succ _)) hg1'
  clear hg1' f0 a0
  have HR1 : Hid (Rs (w1.setCell ⟨w.heap.size + 1, 1, none⟩ (.int .i64 x1)) g p n c l s1) := hr1.kept (set_grown _ _ _ _) (nb7 hq1) (by have := HG.out; omega)
  have HZ1 : Hid _ := hz1
  have HQ1 : Hid _ := hq1
  have HGB1 : Hid _ := hg1
  have f1 := frozen_cells hq1 1
  have a1 := (box7 hq1).2.1
  clear hr1 hz1 hq1 hg1
  go_wp2
  rw [rounds_succ]
  go_wp2_with fail
  refine (refrnum_at _ g p n c l s1 s2 0 1099511627776 x2 HR1.out HL.out E2.out).mono ?_
  rintro x w2 ⟨rfl, hr2, hg2'⟩
  have hz2 : w2.heap[w.heap.size]? = some (.cells #[.int .i64 0, .int .i64 0, .int .i64 0, .int .i64 0, .int .i64 0, .int .i64 0, .int .i64 0] 40) := (hg2'.block _ (by rw [size_set]; exact (Array.getElem?_eq_some_iff.1 HZ1.out).1) (fun e => by have := HG.out; have := Option.some.inj e; omega)).trans ((Below.heap_setCell _ _ _ _ (by show w.heap.size ≠ w.heap.size + 1; omega)).trans HZ1.out)
  have hq2 : w2.heap[w.heap.size + 1]? = some (.cells #[.int .i64 x0, .int .i64 x1, .int .i64 0, .int .i64 0, .int .i64 0, .int .i64 0, .int .i64 0] 40) := (hg2'.block _ (by rw [size_set]; exact (Array.getElem?_eq_some_iff.1 HQ1.out).1) (fun e => by have := HG.out; have := Option.some.inj e; omega)).trans (set_block HQ1.out)
  have hg2 : w.grownBy w2 (some g) := gtrans (grown_set HGB1.out (Nat.le_succ _)) hg2'
  clear hg2' f1 a1
  have HR2 : Hid (Rs (w2.setCell ⟨w.heap.size + 1, 2, none⟩ (.int .i64 x2)) g p n c l s2) := hr2.kept (set_grown _ _ _ _) (nb7 hq2) (by have := HG.out; omega)
  have HZ2 : Hid _ := hz2
  have HQ2 : Hid _ := hq2
  have HGB2 : Hid _ := hg2
  have f2 := frozen_cells hq2 2
  have a2 := (box7 hq2).2.2.1
  clear hr2 hz2 hq2 hg2
  go_wp2
  rw [rounds_succ]
  go_wp2_with fail
  refine (refrnum_at _ g p n c l s2 s3 0 1099511627776 x3 HR2.out HL.out E3.out).mono ?_
  rintro x w3 ⟨rfl, hr3, hg3'⟩
  have hz3 : w3.heap[w.heap.size]? = some (.cells #[.int .i64 0, .int .i64 0, .int .i64 0, .int .i64 0, .int .i64 0, .int .i64 0, .int .i64 0] 40) := (hg3'.block _ (by rw [size_set]; exact (Array.getElem?_eq_some_iff.1 HZ2.out).1) (fun e => by have := HG.out; have := Option.some.inj e; omega)).trans ((Below.heap_setCell _ _ _ _ (by show w.heap.size ≠ w.heap.size + 1; omega)).trans HZ2.out)
  have hq3 : w3.heap[w.heap.size + 1]? = some (.cells #[.int .i64 x0, .int .i64 x1, .int .i64 x2, .int .i64 0, .int .i64 0, .int .i64 0, .int .i64 0] 40) := (hg3'.block _ (by rw [size_set]; exact (Array.getElem?_eq_some_iff.1 HQ2.out).1) (fun e => by have := HG.out; have := Option.some.inj e; omega)).trans (set_block HQ2.out)
  have hg3 : w.grownBy w3 (some g) := gtrans (grown_set HGB2.out (Nat.le_succ _)) hg3'
  clear hg3' f2 a2
  have HR3 : Hid (Rs (w3.setCell ⟨w.heap.size + 1, 3, none⟩ (.int .i64 x3)) g p n c l s3) := hr3.kept (set_grown _ _ _ _) (nb7 hq3) (by have := HG.out; omega)
  have HZ3 : Hid _ := hz3
  have HQ3 : Hid _ := hq3
  have HGB3 : Hid _ := hg3
  have f3 := frozen_cells hq3 3
  have a3 := (box7 hq3).2.2.2.1
  clear hr3 hz3 hq3 hg3
  go_wp2
  rw [rounds_succ]
  go_wp2_with fail
  refine (refrnum_at _ g p n c l s3 s4 0 1099511627776 x4 HR3.out HL.out E4.out).mono ?_
  rintro x w4 ⟨rfl, hr4, hg4'⟩
  have hz4 : w4.heap[w.heap.size]? = some (.cells #[.int .i64 0, .int .i64 0, .int .i64 0, .int .i64 0, .int .i64 0, .int .i64 0, .int .i64 0] 40) := (hg4'.block _ (by rw [size_set]; exact (Array.getElem?_eq_some_iff.1 HZ3.out).1) (fun e => by have := HG.out; have := Option.some.inj e; omega)).trans ((Below.heap_setCell _ _ _ _ (by show w.heap.size ≠ w.heap.size + 1; omega)).trans HZ3.out)
  have hq4 : w4.heap[w.heap.size + 1]? = some (.cells #[.int .i64 x0, .int .i64 x1, .int .i64 x2, .int .i64 x3, .int .i64 0, .int .i64 0, .int .i64 0] 40) := (hg4'.block _ (by rw [size_set]; exact (Array.getElem?_eq_some_iff.1 HQ3.out).1) (fun e => by have := HG.out; have := Option.some.inj e; omega)).trans (set_block HQ3.out)
  have hg4 : w.grownBy w4 (some g) := gtrans (grown_set HGB3.out (Nat.le_succ _)) hg4'
  clear hg4' f3 a3
  have HR4 : Hid (Rs (w4.setCell ⟨w.heap.size + 1, 4, none⟩ (.int .i64 x4)) g p n c l s4) := hr4.kept (set_grown _ _ _ _) (nb7 hq4) (by have := HG.out; omega)
  have HZ4 : Hid _ := hz4
  have HQ4 : Hid _ := hq4
  have HGB4 : Hid _ := hg4
  have f4 := frozen_cells hq4 4
  have a4 := (box7 hq4).2.2.2.2.1
  clear hr4 hz4 hq4 hg4
  go_wp2
  rw [rounds_succ]
  go_wp2_with fail
  refine (refrnum_at _ g p n c l s4 s5 0 1099511627776 x5 HR4.out HL.out E5.out).mono ?_
  rintro x w5 ⟨rfl, hr5, hg5'⟩
  have hz5 : w5.heap[w.heap.size]? = some (.cells #[.int .i64 0, .int .i64 0, .int .i64 0, .int .i64 0, .int .i64 0, .int .i64 0, .int .i64 0] 40) := (hg5'.block _ (by rw [size_set]; exact (Array.getElem?_eq_some_iff.1 HZ4.out).1) (fun e => by have := HG.out; have := Option.some.inj e; omega)).trans ((Below.heap_setCell _ _ _ _ (by show w.heap.size ≠ w.heap.size + 1; omega)).trans HZ4.out)
  have hq5 : w5.heap[w.heap.size + 1]? = some (.cells #[.int .i64 x0, .int .i64 x1, .int .i64 x2, .int .i64 x3, .int .i64 x4, .int .i64 0, .int .i64 0] 40) := (hg5'.block _ (by rw [size_set]; exact (Array.getElem?_eq_some_iff.1 HQ4.out).1) (fun e => by have := HG.out; have := Option.some.inj e; omega)).trans (set_block HQ4.out)
  have hg5 : w.grownBy w5 (some g) := gtrans (grown_set HGB4.out (Nat.le_succ _)) hg5'
  clear hg5' f4 a4
  have HR5 : Hid (Rs (w5.setCell ⟨w.heap.size + 1, 5, none⟩ (.int .i64 x5)) g p n c l s5) := hr5.kept (set_grown _ _ _ _) (nb7 hq5) (by have := HG.out; omega)
  have HZ5 : Hid _ := hz5
  have HQ5 : Hid _ := hq5
  have HGB5 : Hid _ := hg5
  have f5 := frozen_cells hq5 5
  have a5 := (box7 hq5).2.2.2.2.2.1
  clear hr5 hz5 hq5 hg5
  go_wp2
  rw [rounds_succ]
  go_wp2_with fail
  refine (refrnum_at _ g p n c l s5 s6 0 1099511627776 x6 HR5.out HL.out E6.out).mono ?_
  rintro x w6 ⟨rfl, hr6, hg6'⟩
  have hz6 : w6.heap[w.heap.size]? = some (.cells #[.int .i64 0, .int .i64 0, .int .i64 0, .int .i64 0, .int .i64 0, .int .i64 0, .int .i64 0] 40) := (hg6'.block _ (by rw [size_set]; exact (Array.getElem?_eq_some_iff.1 HZ5.out).1) (fun e => by have := HG.out; have := Option.some.inj e; omega)).trans ((Below.heap_setCell _ _ _ _ (by show w.heap.size ≠ w.heap.size + 1; omega)).trans HZ5.out)
  have hq6 : w6.heap[w.heap.size + 1]? = some (.cells #[.int .i64 x0, .int .i64 x1, .int .i64 x2, .int .i64 x3, .int .i64 x4, .int .i64 x5, .int .i64 0] 40) := (hg6'.block _ (by rw [size_set]; exact (Array.getElem?_eq_some_iff.1 HQ5.out).1) (fun e => by have := HG.out; have := Option.some.inj e; omega)).trans (set_block HQ5.out)
  have hg6 : w.grownBy w6 (some g) := gtrans (grown_set HGB5.out (Nat.le_succ _)) hg6'
  clear hg6' f5 a5
  have HR6 : Hid (Rs (w6.setCell ⟨w.heap.size + 1, 6, none⟩ (.int .i64 x6)) g p n c l s6) := hr6.kept (set_grown _ _ _ _) (nb7 hq6) (by have := HG.out; omega)
  have HZ6 : Hid _ := hz6
  have HQ6 : Hid _ := hq6
  have HGB6 : Hid _ := hg6
  have f6 := frozen_cells hq6 6
  have a6 := (box7 hq6).2.2.2.2.2.2
  clear hr6 hz6 hq6 hg6
  have HW : Hid (∃ W, W = w6.setCell ⟨w.heap.size + 1, 6, none⟩ (.int .i64 x6) ∧ Rs W g p n c l s6 ∧ w.grownBy W (some g) ∧ W.heap[w.heap.size]? = some (.cells #[.int .i64 0, .int .i64 0, .int .i64 0, .int .i64 0, .int .i64 0, .int .i64 0, .int .i64 0] 40) ∧ W.heap[w.heap.size + 1]? = some (.cells #[.int .i64 x0, .int .i64 x1, .int .i64 x2, .int .i64 x3, .int .i64 x4, .int .i64 x5, .int .i64 x6] 40)) :=
    ⟨_, rfl, HR6.out, grown_set HGB6.out (Nat.le_succ _), (Below.heap_setCell _ _ _ _ (by show w.heap.size ≠ w.heap.size + 1; omega)).trans HZ6.out, set_block HQ6.out⟩
  clear HR6 HZ6 HQ6 HGB6 HR5 HZ5 HQ5 HGB5 HR4 HZ4 HQ4 HGB4 HR3 HZ3 HQ3 HGB3 HR2 HZ2 HQ2 HGB2 HR1 HZ1 HQ1 HGB1 HR0 HZ0 HQ0 HGB0
  obtain ⟨W, hWe, hR, hG, hZ, hQ⟩ := HW.out
  go_wp2
  rw [rounds_succ]
  rw [← hWe]
  clear f6 a6 hWe HW
  have HR : Hid _ := hR
  have HGW : Hid _ := hG
  obtain ⟨b0, b1, b2, b3, b4, b5, b6⟩ := box7 hZ
  obtain ⟨f0, f1, f2, f3, f4, f5, f6⟩ := frozen7 hZ
  obtain ⟨q0, q1, q2, q3, q4, q5, q6⟩ := box7 hQ
  have HNB : Hid (NB W w.heap.size) := nb7 hZ
  have HLT : Hid (g ≠ w.heap.size) := by have := HG.out; show ¬ _; omega
  clear hZ hQ hG
  cases s6 with
  | none =>
    obtain ⟨ai, hrr, hdr⟩ := hR
    clear hdr
    have k2 : W.cell? ⟨g, 2, none⟩ = some (.bool true) := hrr.c2
    clear hrr
    go_wp2
    refine bodyPost_ret (v := zero7.v) (by simp [results, Try.results57, go_sem, zero7, V7.v, *]) rfl ⟨rfl, ?_, ?_⟩
    · exact Rs.kept HR.out (sets7 _ _ _ _ _ _ _ _ _) HNB.out HLT.out
    · repeat' (refine grown_set ?_ (Nat.le_refl _))
      exact HGW.out
  | some r =>
    obtain ⟨ai, hrr, hdr⟩ := hR
    clear hdr
    have k2 : W.cell? ⟨g, 2, none⟩ = some (.bool false) := hrr.c2
    clear hrr
    go_wp2
    refine bodyPost_ret (v := (⟨x0, x1, x2, x3, x4, x5, x6⟩ : V7).v) (by simp [results, Try.results57, go_sem, V7.v, *]) rfl ⟨rfl, ?_, ?_⟩
    · exact Rs.kept HR.out (sets7 _ _ _ _ _ _ _ _ _) HNB.out HLT.out
    · repeat' (refine grown_set ?_ (Nat.le_refl _))
      exact HGW.out
theorem rget_any (w : World) (g : Nat) (p : Option Addr) (n c : Nat) (l : List UInt8) (s : Option (List UInt8)) (h : Rs w g p n c l s) (hl : l.length ≤ 100000) :
    Calls Try.prog 57 #[.pointer (some ⟨g, 0, none⟩)] w fun e w' => e = .returned (C.getV s).1.v ∧ Rs w' g p n c l (C.getV s).2 ∧ w.grownBy w' (some g) := by
  obtain ⟨x0, s0, h0⟩ : ∃ x s', C.rnum s 0 1099511627776 = (x, s') := ⟨_, _, rfl⟩
  obtain ⟨x1, s1, h1⟩ : ∃ x s', C.rnum s0 0 1099511627776 = (x, s') := ⟨_, _, rfl⟩
  obtain ⟨x2, s2, h2⟩ : ∃ x s', C.rnum s1 0 1099511627776 = (x, s') := ⟨_, _, rfl⟩
  obtain ⟨x3, s3, h3⟩ : ∃ x s', C.rnum s2 0 1099511627776 = (x, s') := ⟨_, _, rfl⟩
  obtain ⟨x4, s4, h4⟩ : ∃ x s', C.rnum s3 0 1099511627776 = (x, s') := ⟨_, _, rfl⟩
  obtain ⟨x5, s5, h5⟩ : ∃ x s', C.rnum s4 0 1099511627776 = (x, s') := ⟨_, _, rfl⟩
  obtain ⟨x6, s6, h6⟩ : ∃ x s', C.rnum s5 0 1099511627776 = (x, s') := ⟨_, _, rfl⟩
  rw [getV_eq h0 h1 h2 h3 h4 h5 h6]
  exact rgetN_any w g p n c l s s0 s1 s2 s3 s4 s5 s6 x0 x1 x2 x3 x4 x5 x6 h hl h0 h1 h2 h3 h4 h5 h6
theorem rget_at (w : World) (g : Nat) (p : Option Addr) (n c : Nat) (l : List UInt8) (s s1 : Option (List UInt8)) (v : V7) (h : Rs w g p n c l s) (hl : l.length ≤ 100000) (hv : C.getV s = (v, s1)) :
    Calls Try.prog 57 #[.pointer (some ⟨g, 0, none⟩)] w fun e w' => e = .returned v.v ∧ Rs w' g p n c l s1 ∧ w.grownBy w' (some g) := by
  have := rget_any w g p n c l s h hl
  rw [hv] at this
  exact this
end Go.Proofs.Ytglmmhgmdhdleaa

namespace Go.Proofs.Ytglmmhgmdhdleaa
open Go.RowKit Go.Lib
set_option linter.unusedVariables false

namespace C
def dbytes (l : List Dt) : List UInt8 := l.flatMap fun d => num d.1 ++ num d.2
def sbytes (s : Ds) : List UInt8 := vbytes s.c ++ (num (s.l.length : Nat) ++ dbytes s.l)
theorem dbytes_snoc (l : List Dt) (x : Dt) : dbytes (l ++ [x]) = dbytes l ++ (num x.1 ++ num x.2) := by simp [dbytes]
theorem may_fits {d : Dt} (h : may d = true) : fits d.1 ∧ fits d.2 := by
  have := (may_iff d).1 h
  unfold fits
  omega
theorem dbytes_len : ∀ (l : List Dt), (∀ d ∈ l, may d = true) → (dbytes l).length ≤ l.length * 20
  | [], _ => Nat.le_refl _
  | d :: t, h => by
    have e : dbytes (d :: t) = num d.1 ++ num d.2 ++ dbytes t := rfl
    have := dbytes_len t fun x hx => h x (List.mem_cons_of_mem _ hx)
    obtain ⟨h1, h2⟩ := may_fits (h d (List.mem_cons_self ..))
    have := (num_ten h1).2
    have := (num_ten h2).2
    rw [e]; simp only [List.length_append, List.length_cons]; omega
theorem vbytes_len {c : V7} (h : fits7 c) : (vbytes c).length ≤ 70 := by
  obtain ⟨h0, h1, h2, h3, h4, h5, h6⟩ := h
  have := (num_ten h0).2; have := (num_ten h1).2; have := (num_ten h2).2; have := (num_ten h3).2; have := (num_ten h4).2; have := (num_ten h5).2; have := (num_ten h6).2
  unfold vbytes
  simp only [List.length_append]
  omega
end C
set_option maxHeartbeats 1000000 in
theorem num_own (pb : Option Addr) (nb cb : Nat) (lb l' : List UInt8) (v : Int) (w : World) (hb : Is w pb nb cb lb) (hv : C.fits v) (hl : lb.length ≤ 90000) (hl' : l' = lb ++ C.num v) :
    Calls Try.prog 34 #[.slice pb nb cb, .int .i64 v] w fun e w' => (∃ x, e = .returned x ∧ Own w' w.heap.size x l') ∧ Below w.heap.size w w' := by
  subst hl'
  have HB : Hid (Is w pb nb cb lb) := hb
  have HL : Hid (lb.length + (C.num v).length ≤ 100000) := by
    have := (C.num_ten hv).2
    show _ ≤ _
    omega
  clear hb
  go_enter Try.func34, Try.ntmps34
  go_wp2_with fail
  refine (groups_is v hv w).mono ?_
  rintro e w1 ⟨⟨p1, n1, c1, rfl, hi1⟩, h1⟩
  have HI1 : Hid (Is w1 p1 n1 c1 (C.num v)) := hi1
  have HB1 : Hid (Below w.heap.size w w1) := h1
  clear hi1 h1
  obtain ⟨rfl, k1⟩ := Is.below HB.out HB1.out
  obtain ⟨rfl, k2⟩ := HI1.out
  have HC : Hid _ := concat_new w1 [⟨pb, lb, cb⟩, ⟨p1, C.num v, c1⟩] 2 w1.heap.size 2 _ (lb ++ C.num v) rfl rfl rfl (by simp) (ok_cons k1 (ok_one k2)) (Nat.le_trans (by simpa [joined] using HL.out) (by decide)) (by simp [joined])
  clear k1 k2
  go_wp2_with fail
  refine Calls.mono HC.out ?_
  rintro e w2 ⟨⟨x, rfl, ho⟩, h2⟩
  have HO : Hid (Own w2 w1.heap.size x (lb ++ C.num v)) := ho
  clear ho
  go_wp2
  go_ret
  exact ⟨⟨_, rfl, HO.out.lower HB1.out.size⟩, bt HB1.out h2⟩
set_option maxRecDepth 100000 in
set_option maxHeartbeats 8000000 in
theorem put_obj (w : World) (g : Nat) (c : V7) (v : Value) (l : List C.Dt) (pb : Option Addr) (nb cb : Nat) (lb : List UInt8) (h : DotsAt w g c v l) (hs : C.Ds.Ok ⟨c, l⟩) (hl : l.length ≤ 1000) (hb : Is w pb nb cb lb) (hlb : lb.length ≤ 50000) :
    Calls Try.prog 11 #[.pointer (some ⟨g, 0, none⟩), .slice pb nb cb] w fun e w' => (∃ p n k, e = .returned (.slice p n k) ∧ Is w' p n k (lb ++ C.sbytes ⟨c, l⟩)) ∧ Below w.heap.size w w' := by
  have HD : Hid (DotsAt w g c v l) := h
  have HS : Hid (C.Ds.Ok ⟨c, l⟩) := hs
  have HBI : Hid (Is w pb nb cb lb) := hb
  have HLL : Hid (l.length ≤ 1000) := hl
  have HLB : Hid (lb.length ≤ 50000) := hlb
  have HF : Hid (C.fits7 c) := good_fits hs.good
  have HVL : Hid ((C.vbytes c).length ≤ 70) := C.vbytes_len HF.out
  have HMY : Hid (∀ d ∈ l, C.may d = true) := fun d hd => C.far_may hs.good (hs.far d hd)
  obtain ⟨q, cp, hv⟩ := h.row.len
  subst hv
  obtain ⟨n, hn⟩ : ∃ n, n = l.length := ⟨_, rfl⟩
  have HN : Hid (n = l.length) := hn
  obtain ⟨pre, hpre⟩ : ∃ pre, pre = C.vbytes c ++ C.num (n : Nat) := ⟨_, rfl⟩
  have HP : Hid (pre = C.vbytes c ++ C.num (n : Nat)) := hpre
  have HPL : Hid (pre.length ≤ 80) := by
    have h1 := (C.num_ten (show C.fits (n : Int) from ⟨by omega, by omega⟩)).2
    have h2 := HVL.out
    show _ ≤ _
    rw [hpre, List.length_append]; omega
  have HSW : Hid (∀ w', Below w.heap.size w w' → w'.cell? ⟨g, 0, none⟩ = some (.int .i64 c.x0) ∧ w'.cell? ⟨g, 1, none⟩ = some (.int .i64 c.x1) ∧ w'.cell? ⟨g, 2, none⟩ = some (.int .i64 c.x2) ∧ w'.cell? ⟨g, 3, none⟩ = some (.int .i64 c.x3) ∧ w'.cell? ⟨g, 4, none⟩ = some (.int .i64 c.x4) ∧ w'.cell? ⟨g, 5, none⟩ = some (.int .i64 c.x5) ∧ w'.cell? ⟨g, 6, none⟩ = some (.int .i64 c.x6) ∧ w'.cell? ⟨g, 7, none⟩ = some (.slice q n cp)) := fun w' hb => by rw [hn]; exact cells8_at (HD.out.below hb).blk
  have HPV : Hid (∀ W, Calls Try.prog 35 #[.slice none 0 0, c.v] W fun e w' => (∃ p n k, e = .returned (.slice p n k) ∧ Is w' p n k (C.vbytes c)) ∧ Below W.heap.size W w') := fun W => put_nil (C.vbytes c) c W HF.out rfl
  clear h hs hb hpre hlb
  rw [← hn] at hl
  clear hn
  obtain ⟨x0, x1, x2, x3, x4, x5, x6⟩ := c
  simp only [V7.v] at HPV
  simp only at HSW
  go_enter Try.func11, Try.ntmps11
  go_wp2_with fail
  go_region_held_law (fun w' => w'.cell? ⟨g, 0, none⟩ = some (.int .i64 x0) ∧ w'.cell? ⟨g, 1, none⟩ = some (.int .i64 x1) ∧ w'.cell? ⟨g, 2, none⟩ = some (.int .i64 x2) ∧ w'.cell? ⟨g, 3, none⟩ = some (.int .i64 x3) ∧ w'.cell? ⟨g, 4, none⟩ = some (.int .i64 x4) ∧ w'.cell? ⟨g, 5, none⟩ = some (.int .i64 x5) ∧ w'.cell? ⟨g, 6, none⟩ = some (.int .i64 x6) ∧ w'.cell? ⟨g, 7, none⟩ = some (.slice q n cp))
    ((refine HSW.out _ ?_; repeat (first | assumption | exact Below.refl _ _ | refine Below.drew ?_)))
    (first
    | (go_at_call 35; refine (HPV.out _).mono ?_; rintro e w1 ⟨⟨p1, n1, k1, rfl, hi1⟩, hb1⟩; have hB1 : Below w.heap.size w w1 := bt ((Below.refl _ w).drew) hb1; clear hb1)
    | (go_at_call 34; refine (num_own p1 n1 k1 _ pre (n : Int) _ hi1 (⟨by omega, by omega⟩) (by have := HVL.out; omega) HP.out).mono ?_; rintro e w2 ⟨⟨vt, rfl, ho2⟩, hb2⟩; have hB2 : Below w.heap.size w w2 := bt hB1 hb2; have HO2 : Hid (Own w2 w1.heap.size vt pre) := ho2; have hW1 := hB1.size; have HW1 : Hid (w.heap.size ≤ w1.heap.size) := hW1; clear hb2 ho2 hi1 hB1 hW1))
  have HB2 : Hid (Below w.heap.size w w2) := hB2
  have HO3 : Hid (Own w2 0 vt (pre ++ C.dbytes (l.take 0))) := by show Own _ _ _ _; simpa [C.dbytes] using HO2.out.lower (Nat.zero_le _)
  have HF3 : Hid (∀ b, vt.ownBlock = some b → w.heap.size ≤ b) := fun b hb => Nat.le_trans HW1.out (HO2.out.ge b hb)
  have hc7 := (HSW.out _ HB2.out).2.2.2.2.2.2.2
  clear hB2 HO2 HW1
  rename_i hHeld
  clear hHeld
  go_wp2_with fail
  clear hc7
  go_loopw [5, 24] (fun s5 s24 wr => ∃ (k : Nat), s24 = .int .i64 k ∧ k ≤ n ∧ Hid (Own wr 0 s5 (pre ++ C.dbytes (l.take k))) ∧ Hid (∀ b, s5.ownBlock = some b → w.heap.size ≤ b) ∧ Hid (Below w.heap.size w wr)) (fun _ s24 _ => n - (intOf s24).toNat)
  case atStart => exact ⟨0, rfl, Nat.zero_le _, HO3.out, HF3.out, HB2.out⟩
  case round =>
    clear HO3 HF3 HB2
    obtain ⟨k, rfl, hkn, HO, HF2, HB⟩ := hrel
    by_cases hlt : k < n
    · obtain ⟨x, hx⟩ : ∃ x, l[k]? = some x := ⟨_, List.getElem?_eq_getElem (by have := HN.out; omega)⟩
      have hmx := HMY.out x (List.mem_of_getElem? hx)
      have HFX : Hid (C.fits x.1 ∧ C.fits x.2) := C.may_fits hmx
      have hrow := (HD.out.below HB.out).row
      obtain ⟨gb, cap, hvs⟩ := hrow.at (by have := HN.out; omega)
      rw [← HN.out] at hvs
      cases hvs
      obtain ⟨a0, a1⟩ := OwnD.cell hrow k x hx
      have HDN : Hid (C.dbytes (l.take (k + 1)) = C.dbytes (l.take k) ++ (C.num x.1 ++ C.num x.2)) := by show _ = _; rw [C.take_snoc hx, C.dbytes_snoc]
      have HTL : Hid ((pre ++ C.dbytes (l.take k)).length ≤ 30000) := by
        have h1 := C.dbytes_len (l.take k) fun d hd => HMY.out d (List.mem_of_mem_take hd)
        have h2 := HPL.out
        have h3 := List.length_take_le k l
        show _ ≤ _
        rw [List.length_append]; omega
      obtain ⟨l1, e1⟩ : ∃ l1, l1 = [] ++ C.num x.1 := ⟨_, rfl⟩
      obtain ⟨l2, e2⟩ : ∃ l2, l2 = l1 ++ C.num x.2 := ⟨_, rfl⟩
      have HL1 : Hid (l1.length ≤ 10) := by show _ ≤ _; rw [e1]; exact (C.num_ten HFX.out.1).2
      have HL2 : Hid (l2.length ≤ 20) := by have h1 := HL1.out; have h2 := (C.num_ten HFX.out.2).2; show _ ≤ _; rw [e2, List.length_append]; omega
      have HL12 : Hid (C.num x.1 ++ C.num x.2 = l2) := by show _ = l2; rw [e2, e1]; rfl
      have E1 : Hid (l1 = [] ++ C.num x.1) := e1
      have E2 : Hid (l2 = l1 ++ C.num x.2) := e2
      clear hrow hx hmx e1 e2
      obtain ⟨d1, d2⟩ := x
      simp only at a0 a1
      obtain ⟨W1, hW1⟩ : ∃ W1, W1 = wr.alloc (.cells #[.int .i64 d1, .int .i64 d2] 29) := ⟨_, rfl⟩
      have HB1 : Hid (Below wr.heap.size wr W1) := by show Below _ _ _; rw [hW1]; exact below_new _ _
      have HD1 : Hid (W1.heap[wr.heap.size]? = some (.cells #[.int .i64 d1, .int .i64 d2] 29)) := by show _ = _; rw [hW1]; exact heap_alloc_new _ _
      have HSD : Hid (∀ w', Below W1.heap.size W1 w' → w'.cell? ⟨wr.heap.size, 0, none⟩ = some (.int .i64 d1) ∧ w'.cell? ⟨wr.heap.size, 1, none⟩ = some (.int .i64 d2)) := fun w' hb => box2 (keep_on hb HD1.out)
      have HOB : Hid (∀ w', Below W1.heap.size W1 w' → Own w' 0 u5 (pre ++ C.dbytes (l.take k))) := fun w' hb => HO.out.below (bt HB1.out hb)
      go_wp2_with fail
      rw [← hW1]
      clear a0 a1 hW1
      go_region_held_law (fun w' => w'.cell? ⟨wr.heap.size, 0, none⟩ = some (.int .i64 d1) ∧ w'.cell? ⟨wr.heap.size, 1, none⟩ = some (.int .i64 d2))
        ((first | assumption | (refine HSD.out _ ?_; repeat (first | assumption | exact Below.refl _ _ | refine Below.drew ?_))))
        (first
        | (go_at_call 34; refine (num_at none 0 0 [] l1 d1 _ (Is.nil _) HFX.out.1 (by decide) E1.out).mono ?_; rintro e w3 ⟨⟨p3, n3, k3, rfl, hi3⟩, hb3⟩; have hB3 : Below W1.heap.size W1 w3 := bt ((Below.refl _ W1).drew) hb3; clear hb3)
        | (go_at_call 34; refine (num_at p3 n3 k3 l1 l2 d2 _ hi3 HFX.out.2 (by have := HL1.out; omega) E2.out).mono ?_; rintro e w4 ⟨⟨p4, n4, k4, rfl, hi4⟩, hb4⟩; have hB4 : Below W1.heap.size W1 w4 := bt hB3 hb4; clear hb4 hi3)
        | (obtain ⟨rfl, hk4⟩ := hi4; refine step_append_src Try.underlying30 info_u8 rfl (by decide) rfl _ _ rfl rfl (HOB.out _ hB4) rfl (Part.src hk4) (one_bytes _) (by have := HTL.out; have := HL2.out; simp only; unfold maxLen; omega) (by have := HTL.out; have := HL2.out; simp only; omega) ?_; intro v5 w5 ho5 hg5 hb5; have hS5 : w5.cell? ⟨wr.heap.size, 0, none⟩ = some (.int .i64 d1) ∧ w5.cell? ⟨wr.heap.size, 1, none⟩ = some (.int .i64 d2) := box2 ((hg5.block wr.heap.size (Array.getElem?_eq_some_iff.1 (keep_on hB4 HD1.out)).1 (fun e => by have := row_lt HO.out e.symm; omega)).trans (keep_on hB4 HD1.out)); have HO5 : Hid (Own w5 0 v5 (pre ++ C.dbytes (l.take k) ++ l2)) := (show Own w5 0 v5 _ from (by unfold Own; rw [List.length_append, ← bytesV_append]; exact ho5)); have HB5 : Hid (Below w.heap.size w w5) := Below.grown (bt HB.out (bt HB1.out hB4)) hg5 (bt HB.out (bt HB1.out hB4)).size HF2.out; have HF5 : Hid (∀ b, v5.ownBlock = some b → w.heap.size ≤ b) := (fun b hb => by rcases hb5 with h | h; exact HF2.out b (h.symm.trans hb); rw [h] at hb; cases hb; exact (bt HB.out (bt HB1.out hB4)).size); clear ho5 hg5 hb5 hB4 hk4))
      rename_i hHeld
      clear hHeld hS5
      go_wp2
      go_roundw
      case rel => exact ⟨k + 1, by go_num, by omega, by show Own _ _ _ _; rw [HDN.out, HL12.out, ← List.append_assoc]; exact HO5.out, HF5.out, HB5.out⟩
      case measure => simp [intOf]; omega
    · obtain rfl : k = n := by omega
      have htk : l.take k = l := List.take_of_length_le (by have := HN.out; omega)
      rw [htk] at HO
      obtain ⟨p6, n6, c6, hv6, hi6⟩ := Own.is HO.out
      have HI6 : Hid (Is wr p6 n6 c6 (pre ++ C.dbytes l)) := hi6
      subst hv6
      have HTL : Hid ((pre ++ C.dbytes l).length ≤ 30000) := by
        have h1 := C.dbytes_len l HMY.out
        have h2 := HPL.out
        have h3 := HLL.out
        show _ ≤ _
        rw [List.length_append]; omega
      clear hi6 htk HO
      go_wp2_with fail
      refine (concat_two pb nb cb lb p6 n6 c6 (pre ++ C.dbytes l) _ _ wr rfl (Is.below HBI.out HB.out) HI6.out (by have := HTL.out; have := HLB.out; omega)).mono ?_
      rintro e w7 ⟨⟨p7, n7, c7, rfl, hi7⟩, hb7⟩
      have HI7 : Hid _ := hi7
      have HB7 : Hid (Below w.heap.size w w7) := bt HB.out hb7
      clear hi7 hb7
      go_wp2
      go_ret
      refine ⟨⟨p7, n7, c7, rfl, ?_⟩, HB7.out⟩
      have h := HI7.out
      rw [HP.out, HN.out, List.append_assoc] at h
      exact h
end Go.Proofs.Ytglmmhgmdhdleaa

namespace Go.Proofs.Ytglmmhgmdhdleaa
open Go.RowKit Go.Lib
set_option linter.unusedVariables false

set_option maxRecDepth 100000 in
set_option maxHeartbeats 8000000 in
theorem rput_obj (w : World) (g : Nat) (c : V7) (v : Value) (l : List C.Dt) (pb : Option Addr) (nb cb : Nat) (lb : List UInt8) (h : RDAt w g c v l) (hs : C.Ds.Ok ⟨c, l⟩) (hl : l.length ≤ 1000) (hb : Is w pb nb cb lb) (hlb : lb.length ≤ 50000) :
    Calls Try.prog 26 #[.pointer (some ⟨g, 0, none⟩), .slice pb nb cb] w fun e w' => (∃ p n k, e = .returned (.slice p n k) ∧ Is w' p n k (lb ++ C.sbytes ⟨c, l⟩)) ∧ Below w.heap.size w w' := by
  have HD : Hid (RDAt w g c v l) := h
  have HBI : Hid (Is w pb nb cb lb) := hb
  have HF : Hid (C.fits7 c) := good_fits hs.good
  have HMY : Hid (∀ d ∈ l, C.may d = true) := fun d hd => C.far_may hs.good (hs.far d hd)
  obtain ⟨q, cp, hv⟩ := h.row.len
  subst hv
  obtain ⟨n, hn⟩ : ∃ n, n = l.length := ⟨_, rfl⟩
  have HN : Hid (n = l.length) := hn
  obtain ⟨lv, hlv⟩ : ∃ lv, lv = lb ++ C.vbytes c := ⟨_, rfl⟩
  obtain ⟨pre, hpre⟩ : ∃ pre, pre = lv ++ C.num (n : Nat) := ⟨_, rfl⟩
  have HP : Hid (pre = lv ++ C.num (n : Nat)) := hpre
  have HE : Hid (pre ++ C.dbytes l = lb ++ C.sbytes ⟨c, l⟩) := by
    show _ = _
    rw [hpre, hlv, hn]
    unfold C.sbytes
    simp only [List.append_assoc]
  have HLV : Hid (lv.length ≤ 50070) := by
    have h1 := C.vbytes_len HF.out
    show _ ≤ _
    rw [hlv, List.length_append]; omega
  have HPL : Hid (pre.length ≤ 50080) := by
    have h1 := (C.num_ten (show C.fits (n : Int) from ⟨by omega, by omega⟩)).2
    have h2 := HLV.out
    show _ ≤ _
    rw [hpre, List.length_append]; omega
  have HTK : Hid (∀ k, (pre ++ C.dbytes (l.take k)).length ≤ 80000) := fun k => by
    have h1 := C.dbytes_len (l.take k) fun d hd => HMY.out d (List.mem_of_mem_take hd)
    have h2 := HPL.out
    have h3 := List.length_take_le' k l
    rw [List.length_append]; omega
  have HSW : Hid (∀ w', Below w.heap.size w w' → w'.cell? ⟨g, 0, none⟩ = some (.int .i64 c.x0) ∧ w'.cell? ⟨g, 1, none⟩ = some (.int .i64 c.x1) ∧ w'.cell? ⟨g, 2, none⟩ = some (.int .i64 c.x2) ∧ w'.cell? ⟨g, 3, none⟩ = some (.int .i64 c.x3) ∧ w'.cell? ⟨g, 4, none⟩ = some (.int .i64 c.x4) ∧ w'.cell? ⟨g, 5, none⟩ = some (.int .i64 c.x5) ∧ w'.cell? ⟨g, 6, none⟩ = some (.int .i64 c.x6) ∧ w'.cell? ⟨g, 7, none⟩ = some (.slice q n cp)) := fun w' hb => by rw [hn]; exact cells8_at (HD.out.below hb).blk
  have HPV : Hid (∀ W, Below w.heap.size w W → Calls Try.prog 56 #[.slice pb nb cb, c.v] W fun e w' => (∃ p n k, e = .returned (.slice p n k) ∧ Is w' p n k lv) ∧ Below W.heap.size W w') := fun W hW => by rw [hlv]; exact rput_any pb nb cb lb c W (Is.below HBI.out hW) HF.out (by omega)
  clear h hs hb hpre hlb hlv
  rw [← hn] at hl
  clear hn
  obtain ⟨x0, x1, x2, x3, x4, x5, x6⟩ := c
  simp only [V7.v] at HPV
  simp only at HSW
  go_enter Try.func26, Try.ntmps26
  go_wp2_with fail
  have hne : Nonempty (NewW w) := ⟨NewW.start w⟩
  obtain ⟨a0, a1, a2, a3, a4, a5, a6, a7⟩ := cells8_all HD.out.blk
  rw [← HN.out] at a7
  simp only at a0 a1 a2 a3 a4 a5 a6
  have hC : ∃ m : NewW w, w.drew = m.v := ⟨⟨w.drew, (Below.refl _ w).drew⟩, rfl⟩
  refine wp_region_held_drew (S := fun w' => ∃ m : NewW w, w' = m.v) (by kernel_rfl) hC (fun _ => ?_)
  have hB : Below w.heap.size w w.drew := (Below.refl _ w).drew
  generalize hW0 : w.drew = W0 at *
  clear hW0
  refine takeList (i := 0) rfl (by kernel_rfl) (by kernel_rfl) (by kernel_rfl) (fun _ _ _ _ h => h) rfl rfl hC (fun K hK => ?_)
  go_big_quiet_op
  refine hK _ ?_
  clear hK K
  refine takeList (i := 1) rfl (by kernel_rfl) (by kernel_rfl) (by kernel_rfl) (fun _ _ _ _ h => h) rfl rfl hC (fun K hK => ?_)
  go_big_quiet_op
  refine hK _ ?_
  clear hK K
  refine takeNil (i := 2) rfl rfl rfl (by kernel_rfl) (by kernel_rfl) (by kernel_rfl) (fun _ _ _ _ h => h) rfl hC ?_
  go_simp
  refine takeList (i := 3) rfl (by kernel_rfl) (by kernel_rfl) (by kernel_rfl) (fun _ _ _ _ h => h) rfl rfl hC (fun K hK => ?_)
  go_big_quiet_op
  refine hK _ ?_
  clear hK K
  refine takeList (i := 4) rfl (by kernel_rfl) (by kernel_rfl) (by kernel_rfl) (fun _ _ _ _ h => h) rfl rfl hC (fun K hK => ?_)
  go_big_quiet_op
  refine hK _ ?_
  clear hK K
  refine takeList (i := 6) rfl (by kernel_rfl) (by kernel_rfl) (by kernel_rfl) (fun _ _ _ _ h => h) rfl rfl hC (fun K hK => ?_)
  go_big_quiet_op
  refine hK _ ?_
  clear hK K
  refine takeNil (i := 7) rfl rfl rfl (by kernel_rfl) (by kernel_rfl) (by kernel_rfl) (fun _ _ _ _ h => h) rfl hC ?_
  go_simp
  refine takeList (i := 8) rfl (by kernel_rfl) (by kernel_rfl) (by kernel_rfl) (fun _ _ _ _ h => h) rfl rfl hC (fun K hK => ?_)
  go_big_quiet_op
  refine hK _ ?_
  clear hK K
  refine takeList (i := 9) rfl (by kernel_rfl) (by kernel_rfl) (by kernel_rfl) (fun _ _ _ _ h => h) rfl rfl hC (fun K hK => ?_)
  go_big_quiet_op
  refine hK _ ?_
  clear hK K
  refine takeVal (i := 10) (.int .i64 (n : Int)) rfl (by kernel_rfl) (by kernel_rfl) (by kernel_rfl) (fun _ _ _ _ h => h) rfl hC (fun w' _ => by go_simp) ?_
  go_simp
  clear a0 a1 a2 a3 a4 a5 a6 a7
  refine callList (i := 5) rfl (by kernel_rfl) rfl (fun K hK => ?_)
  go_simp
  refine (HPV.out _ hB).mono ?_
  rintro e w1 ⟨⟨p1, n1, k1, rfl, hi1⟩, hb1⟩
  replace hB := bt hB hb1
  refine hK.out _ _ ⟨⟨_, hB⟩, rfl⟩ ?_
  go_simp
  clear hK K hC hb1
  have hC : ∃ m : NewW w, w1 = m.v := ⟨⟨_, hB⟩, rfl⟩
  refine callList (i := 11) rfl (by kernel_rfl) rfl (fun K hK => ?_)
  go_simp
  refine (refnum_at p1 n1 k1 _ pre (n : Int) _ hi1 (⟨by omega, by omega⟩) (by have := HLV.out; omega) HP.out).mono ?_
  rintro e w2 ⟨⟨p2, n2, k2, rfl, hi2⟩, hb2⟩
  have hB2 := bt hB hb2
  refine hK.out _ _ ⟨⟨_, hB2⟩, rfl⟩ ?_
  go_simp
  clear hK K hC hb2 hB hi1
  have hC : ∃ m : NewW w, w2 = m.v := ⟨⟨_, hB2⟩, rfl⟩
  refine takeList (i := 12) rfl (by kernel_rfl) (by kernel_rfl) (by kernel_rfl) (fun _ _ _ _ h => h) rfl rfl hC (fun K hK => ?_)
  go_big_quiet_op
  refine hK _ ?_
  clear hK K
  clear hC hne
  refine wpAnyH_done (by kernel_rfl) ?_ _
  have HB2 : Hid (Below w.heap.size w w2) := hB2
  have HI2 : Hid (Is w2 p2 n2 k2 (pre ++ C.dbytes (l.take 0))) := by show Is _ _ _ _ _; simpa [C.dbytes] using hi2
  clear hB2 hi2
  go_wp2_with fail
  go_loopw [1, 5] (fun s1 s5 wr => ∃ (k : Nat) (p : Option Addr) (m c : Nat), s1 = .slice p m c ∧ s5 = .int .i64 k ∧ k ≤ n ∧ Hid (Is wr p m c (pre ++ C.dbytes (l.take k))) ∧ Hid (Below w.heap.size w wr)) (fun _ s5 _ => n - (intOf s5).toNat)
  case atStart => exact ⟨0, _, _, _, rfl, rfl, Nat.zero_le _, HI2.out, HB2.out⟩
  case round =>
    clear HI2 HB2
    obtain ⟨k, p, m, c, rfl, rfl, hkn, HI, HB⟩ := hrel
    have y7 : wr.cell? ⟨g, 7, none⟩ = some (.slice q n cp) := (HSW.out _ HB.out).2.2.2.2.2.2.2
    by_cases hlt : k < n
    · obtain ⟨x, hx⟩ : ∃ x, l[k]? = some x := ⟨_, List.getElem?_eq_getElem (by have := HN.out; omega)⟩
      have hmx := HMY.out x (List.mem_of_getElem? hx)
      have HFX : Hid (C.fits x.1 ∧ C.fits x.2) := C.may_fits hmx
      obtain ⟨gb, cap, hvs⟩ := HD.out.row.at (by have := HN.out; omega)
      rw [← HN.out] at hvs
      cases hvs
      have HDN : Hid (C.dbytes (l.take (k + 1)) = C.dbytes (l.take k) ++ (C.num x.1 ++ C.num x.2)) := by show _ = _; rw [C.take_snoc hx, C.dbytes_snoc]
      obtain ⟨l0, e0⟩ : ∃ l0, l0 = pre ++ C.dbytes (l.take k) := ⟨_, rfl⟩
      obtain ⟨l1, e1⟩ : ∃ l1, l1 = l0 ++ C.num x.1 := ⟨_, rfl⟩
      obtain ⟨l2, e2⟩ : ∃ l2, l2 = l1 ++ C.num x.2 := ⟨_, rfl⟩
      have HL0 : Hid (l0.length ≤ 80000) := by show _ ≤ _; rw [e0]; exact HTK.out k
      have HL1 : Hid (l1.length ≤ 80010) := by have h1 := HL0.out; have h2 := (C.num_ten HFX.out.1).2; show _ ≤ _; rw [e1, List.length_append]; omega
      have HL2 : Hid (pre ++ C.dbytes (l.take (k + 1)) = l2) := by show _ = l2; rw [HDN.out, e2, e1, e0]; simp only [List.append_assoc]
      have E1 : Hid (l1 = l0 ++ C.num x.1) := e1
      have E2 : Hid (l2 = l1 ++ C.num x.2) := e2
      rw [← e0] at HI
      have HSD : Hid (∀ w', Below wr.heap.size wr w' → w'.cell? ⟨g, 7, none⟩ = some (.slice (some ⟨gb, 0, none⟩) n cp) ∧ w'.cell? ⟨gb, k * 2, none⟩ = some (.int .i64 x.1) ∧ w'.cell? ⟨gb, k * 2 + 1, none⟩ = some (.int .i64 x.2)) := fun w' hb => ⟨(HSW.out _ (bt HB.out hb)).2.2.2.2.2.2.2, OwnD.cell (HD.out.below (bt HB.out hb)).row k x hx⟩
      clear hx hmx e0 e1 e2
      obtain ⟨d1, d2⟩ := x
      simp only at HSD
      go_wp2_with fail
      have hne : Nonempty (NewW wr) := ⟨NewW.start wr⟩
      have e7 : ∀ m : NewW wr, m.v.cell? ⟨g, 7, none⟩ = some (.slice (some ⟨gb, 0, none⟩) n cp) := fun m => (HSD.out _ m.h).1
      have u0 : ∀ m : NewW wr, m.v.cell? ⟨gb, k * 2, none⟩ = some (.int .i64 d1) := fun m => (HSD.out _ m.h).2.1
      have u1 : ∀ m : NewW wr, m.v.cell? ⟨gb, k * 2 + 1, none⟩ = some (.int .i64 d2) := fun m => (HSD.out _ m.h).2.2
      clear y7
      have hC : ∃ m : NewW wr, wr.drew = m.v := ⟨⟨wr.drew, (Below.refl _ wr).drew⟩, rfl⟩
      refine wp_region_held_drew (S := fun w' => ∃ m : NewW wr, w' = m.v) (by kernel_rfl) hC (fun _ => ?_)
      have hB : Below wr.heap.size wr wr.drew := (Below.refl _ wr).drew
      generalize hW0 : wr.drew = W0 at *
      clear hW0
      refine takeList (i := 0) rfl (by kernel_rfl) (by kernel_rfl) (by kernel_rfl) (fun _ _ _ _ h => h) rfl rfl hC (fun K hK => ?_)
      go_big_quiet_op
      refine hK _ ?_
      clear hK K
      refine takeList (i := 1) rfl (by kernel_rfl) (by kernel_rfl) (by kernel_rfl) (fun _ _ _ _ h => h) rfl rfl hC (fun K hK => ?_)
      go_big_quiet_op
      refine hK _ ?_
      clear hK K
      refine takeNil (i := 2) rfl rfl rfl (by kernel_rfl) (by kernel_rfl) (by kernel_rfl) (fun _ _ _ _ h => h) rfl hC ?_
      go_simp
      refine takeList (i := 3) rfl (by kernel_rfl) (by kernel_rfl) (by kernel_rfl) (fun _ _ _ _ h => h) rfl rfl hC (fun K hK => ?_)
      go_big_quiet_op
      refine hK _ ?_
      clear hK K
      refine takeList (i := 4) rfl (by kernel_rfl) (by kernel_rfl) (by kernel_rfl) (fun _ _ _ _ h => h) rfl rfl hC (fun K hK => ?_)
      go_big_quiet_op
      refine hK _ ?_
      clear hK K
      refine takeList (i := 5) rfl (by kernel_rfl) (by kernel_rfl) (by kernel_rfl) (fun _ _ _ _ h => h) rfl rfl hC (fun K hK => ?_)
      go_big_quiet_op
      refine hK _ ?_
      clear hK K
      refine takeList (i := 6) rfl (by kernel_rfl) (by kernel_rfl) (by kernel_rfl) (fun _ _ _ _ h => h) rfl rfl hC (fun K hK => ?_)
      go_big_quiet_op
      refine hK _ ?_
      clear hK K
      refine takeList (i := 7) rfl (by kernel_rfl) (by kernel_rfl) (by kernel_rfl) (fun _ _ _ _ h => h) rfl rfl hC (fun K hK => ?_)
      go_big_quiet_op
      refine hK _ ?_
      clear hK K
      refine takeList (i := 8) rfl (by kernel_rfl) (by kernel_rfl) (by kernel_rfl) (fun _ _ _ _ h => h) rfl rfl hC (fun K hK => ?_)
      go_big_quiet_op
      refine hK _ ?_
      clear hK K
      refine takeList (i := 10) rfl (by kernel_rfl) (by kernel_rfl) (by kernel_rfl) (fun _ _ _ _ h => h) rfl rfl hC (fun K hK => ?_)
      go_big_quiet_op
      refine hK _ ?_
      clear hK K
      refine takeNil (i := 11) rfl rfl rfl (by kernel_rfl) (by kernel_rfl) (by kernel_rfl) (fun _ _ _ _ h => h) rfl hC ?_
      go_simp
      refine takeList (i := 12) rfl (by kernel_rfl) (by kernel_rfl) (by kernel_rfl) (fun _ _ _ _ h => h) rfl rfl hC (fun K hK => ?_)
      go_big_quiet_op
      refine hK _ ?_
      clear hK K
      refine takeList (i := 13) rfl (by kernel_rfl) (by kernel_rfl) (by kernel_rfl) (fun _ _ _ _ h => h) rfl rfl hC (fun K hK => ?_)
      go_big_quiet_op
      refine hK _ ?_
      clear hK K
      refine takeList (i := 14) rfl (by kernel_rfl) (by kernel_rfl) (by kernel_rfl) (fun _ _ _ _ h => h) rfl rfl hC (fun K hK => ?_)
      go_big_quiet_op
      refine hK _ ?_
      clear hK K
      refine takeList (i := 15) rfl (by kernel_rfl) (by kernel_rfl) (by kernel_rfl) (fun _ _ _ _ h => h) rfl rfl hC (fun K hK => ?_)
      go_big_quiet_op
      refine hK _ ?_
      clear hK K
      refine takeList (i := 16) rfl (by kernel_rfl) (by kernel_rfl) (by kernel_rfl) (fun _ _ _ _ h => h) rfl rfl hC (fun K hK => ?_)
      go_big_quiet_op
      refine hK _ ?_
      clear hK K
      refine takeList (i := 17) rfl (by kernel_rfl) (by kernel_rfl) (by kernel_rfl) (fun _ _ _ _ h => h) rfl rfl hC (fun K hK => ?_)
      go_big_quiet_op
      refine hK _ ?_
      clear hK K
      clear e7 u0 u1
      refine callList (i := 9) rfl (by kernel_rfl) rfl (fun K hK => ?_)
      go_simp
      refine (refnum_at p m c l0 l1 d1 _ (Is.below HI.out hB) HFX.out.1 (by have := HL0.out; omega) E1.out).mono ?_
      rintro e w3 ⟨⟨p3, n3, k3, rfl, hi3⟩, hb3⟩
      replace hB := bt hB hb3
      refine hK.out _ _ ⟨⟨_, hB⟩, rfl⟩ ?_
      go_simp
      clear hK K hC hb3
      have hC : ∃ m : NewW wr, w3 = m.v := ⟨⟨_, hB⟩, rfl⟩
      refine callList (i := 18) rfl (by kernel_rfl) rfl (fun K hK => ?_)
      go_simp
      refine (refnum_at p3 n3 k3 l1 l2 d2 _ hi3 HFX.out.2 (by have := HL1.out; omega) E2.out).mono ?_
      rintro e w4 ⟨⟨p4, n4, k4, rfl, hi4⟩, hb4⟩
      have hB4 := bt hB hb4
      refine hK.out _ _ ⟨⟨_, hB4⟩, rfl⟩ ?_
      go_simp
      clear hK K hC hb4 hB hi3
      have hC : ∃ m : NewW wr, w4 = m.v := ⟨⟨_, hB4⟩, rfl⟩
      refine takeList (i := 19) rfl (by kernel_rfl) (by kernel_rfl) (by kernel_rfl) (fun _ _ _ _ h => h) rfl rfl hC (fun K hK => ?_)
      go_big_quiet_op
      refine hK _ ?_
      clear hK K
      clear hC hne
      refine wpAnyH_done (by kernel_rfl) ?_ _
      have HI4 : Hid (Is w4 p4 n4 k4 l2) := hi4
      have HB4 : Hid (Below w.heap.size w w4) := bt HB.out hB4
      clear hi4 hB4
      go_wp2
      go_roundw
      case rel => exact ⟨k + 1, _, _, _, rfl, by go_num, by omega, by show Is _ _ _ _ _; rw [HL2.out]; exact HI4.out, HB4.out⟩
      case measure => simp [intOf]; omega
    · obtain rfl : k = n := by omega
      have htk : l.take k = l := List.take_of_length_le (by have := HN.out; omega)
      rw [htk, HE.out] at HI
      clear htk
      go_wp2
      go_ret
      exact ⟨⟨_, _, _, rfl, HI.out⟩, HB.out⟩
end Go.Proofs.Ytglmmhgmdhdleaa

namespace Go.Proofs.Ytglmmhgmdhdleaa
open Go.RowKit Go.Lib
set_option linter.unusedVariables false

theorem y_merge (L1 L2 : List XObj) {w0 w : World} (g : Nat) (v : Value) (s s' : C.Ds) (g2 : Nat) (v2 : Value) (s2 : C.Ds) (h : XObjs w0 w (L1 ++ ⟨g, v, s, true⟩ :: L2)) (ho : ⟨g2, v2, s2, true⟩ ∈ L1 ++ ⟨g, v, s, true⟩ :: L2) (hl : s.l.length + s2.l.length ≤ 1000) (hs : C.mergeS s s2 = s') :
    Calls Try.prog 25 #[.pointer (some ⟨g, 0, none⟩), .pointer (some ⟨g2, 0, none⟩)] w fun e w' => e = .returned (.bool true) ∧ ∃ v', XObjs w0 w' (L1 ++ ⟨g, v', s', true⟩ :: L2) := by
  subst hs
  obtain ⟨h1, h2⟩ := h.get
  obtain ⟨h3, h4, _⟩ := h.at_ _ ho
  refine (rmerge_obj w g g2 s s2 v v2 h1 h3 h2 h4 hl).mono ?_
  rintro e w' ⟨rfl, hr⟩
  exact ⟨rfl, h.step (C.merge_ok h2 h4) (XRet.of_radd hr)⟩
theorem x_put (L1 L2 : List XObj) {w0 w : World} (g : Nat) (v : Value) (s : C.Ds) (l : List UInt8) (h : XObjs w0 w (L1 ++ ⟨g, v, s, false⟩ :: L2)) (hl : s.l.length ≤ 1000) (hb : C.sbytes s = l) :
    Calls Try.prog 11 #[.pointer (some ⟨g, 0, none⟩), .slice none 0 0] w fun e w' => (∃ p n k, e = .returned (.slice p n k) ∧ Is w' p n k l) ∧ Below w.heap.size w w' := by
  subst hb
  exact put_obj w g s.c v s.l none 0 0 [] h.get.1 h.get.2 hl (Is.nil _) (by decide)
theorem y_put (L1 L2 : List XObj) {w0 w : World} (g : Nat) (v : Value) (s : C.Ds) (l : List UInt8) (h : XObjs w0 w (L1 ++ ⟨g, v, s, true⟩ :: L2)) (hl : s.l.length ≤ 1000) (hb : C.sbytes s = l) :
    Calls Try.prog 26 #[.pointer (some ⟨g, 0, none⟩), .slice none 0 0] w fun e w' => (∃ p n k, e = .returned (.slice p n k) ∧ Is w' p n k l) ∧ Below w.heap.size w w' := by
  subst hb
  exact rput_obj w g s.c v s.l none 0 0 [] h.get.1 h.get.2 hl (Is.nil _) (by decide)
end Go.Proofs.Ytglmmhgmdhdleaa

namespace Go.Proofs.Ytglmmhgmdhdleaa
open Go.RowKit Go.Lib
set_option linter.unusedVariables false

theorem eq_ref8 (a : V7) (w : World) : (Op.equalIn 10000 40 a.v a.v).run Try.prog w = .ok true w := by rw [eq7_ref, C.same_self]
theorem same_self8 (w : World) (v1 v2 : Value) (l : List C.Dt) (h1 : OwnD w v1 l) (h2 : OwnD w v2 l) (hl : l.length ≤ 1000000) :
    Calls Try.prog 19 #[v1, v2] w fun e w' => e = .returned (.bool true) ∧ Below w.heap.size w w' := by
  have h := rsame_any v1 v2 l l w h1 h2 hl
  rwa [show eqL l l = true from decide_eq_true rfl] at h
set_option maxRecDepth 100000 in
set_option maxHeartbeats 0 in
theorem plays_walk (pa : Option Addr) (l : List C.Dt) (ca : Nat) (pb : Option Addr) (m : List C.Dt) (cb : Nat) (d1 d2 : Int) (w : World) (ha : ArgD w pa l) (hla : l.length ≤ maxLen) (hb : ArgD w pb m) (hlb : m.length ≤ maxLen) :
    Calls Try.prog 4 #[.slice pa l.length ca, .slice pb m.length cb, .agg #[.int .i64 d1, .int .i64 d2]] w fun e w' => e = .returned (.bool true) ∧ Below w.heap.size w w' := by
  have HA : Hid (ArgD w pa l) := ha
  have HB : Hid (ArgD w pb m) := hb
  clear ha hb
  unfold maxLen at hla hlb
  obtain ⟨n, hn⟩ : ∃ n, n = l.length := ⟨_, rfl⟩
  have HN : Hid (n = l.length) := hn
  obtain ⟨q, hq⟩ : ∃ q, q = m.length := ⟨_, rfl⟩
  have HQ : Hid (q = m.length) := hq
  rw [← hn] at hla ⊢
  rw [← hq] at hlb ⊢
  clear hn hq
  by_cases hbig : 60 < n
  · go_enter Try.func4, Try.ntmps4
    go_wp2_with fail
    refine (awake_any _).mono ?_
    rintro e w1 ⟨rfl, hb1⟩
    have HB1 : Hid (Below w.heap.size w w1) := bt (below_new _ _) hb1
    clear hb1
    go_wp2
    go_ret
    exact ⟨rfl, HB1.out⟩
  by_cases hbig2 : 60 < q
  · go_enter Try.func4, Try.ntmps4
    go_wp2_with fail
    refine (awake_any _).mono ?_
    rintro e w1 ⟨rfl, hb1⟩
    have HB1 : Hid (Below w.heap.size w w1) := bt (below_new _ _) hb1
    clear hb1
    go_wp2
    go_ret
    exact ⟨rfl, HB1.out⟩
  have HL60 : Hid (l.length ≤ 60) := by have := HN.out; show _ ≤ _; omega
  have HM60 : Hid (m.length ≤ 60) := by have := HQ.out; show _ ≤ _; omega
  go_enter Try.func4, Try.ntmps4
  go_wp2_with fail
  refine (awake_any _).mono ?_
  rintro e w1 ⟨rfl, hb1⟩
  have HW1 : Hid (Below w.heap.size w w1) := bt (below_new _ _) hb1
  have HK : Hid (w1.heap[w.heap.size]? = some (.cells #[.int .i64 d1, .int .i64 d2] 29)) := by show _ = _; rw [hb1.block _ (by simp)]; exact heap_alloc_new _ _
  clear hb1
  obtain ⟨ga, hga⟩ : ∃ ga, w.heap.size = ga := ⟨_, rfl⟩
  rw [hga] at HK ⊢
  clear hga
  go_wp2_with fail
  refine (x_new (XObjs.nil (Below.refl _ w1))).mono ?_
  rintro e w2 ⟨gs, rfl, h2, -⟩
  go_wp2_with fail
  refine (x_new h2).mono ?_
  rintro e w3 ⟨go, rfl, h3, -⟩
  have h5 := y_new (y_new h3)
  simp only [cells8, World.size_alloc] at h5
  go_wp2_with fail
  obtain ⟨gw, hgw⟩ : ∃ gw, w3.heap.size = gw := ⟨_, rfl⟩
  rw [hgw] at h5 ⊢
  generalize World.alloc (World.alloc w3 _) _ = W5 at h5 ⊢
  obtain ⟨gu, hgu⟩ : ∃ gu, gw + 1 = gu := ⟨_, rfl⟩
  rw [hgu] at h5 ⊢
  have H5 : Hid (XObjs w1 W5 [⟨gs, .slice none 0 0, C.addAll C.zeroS (l.take 0), false⟩, ⟨go, .slice none 0 0, C.zeroS, false⟩, ⟨gw, .slice none 0 0, C.addAll C.zeroS (l.take 0), true⟩, ⟨gu, .slice none 0 0, C.zeroS, true⟩]) := h5
  clear h2 h3 h5 hgw hgu
  go_loopw [11] (fun s11 wr => ∃ (k : Nat) (va vw : Value), s11 = .int .i64 k ∧ k ≤ n ∧ Hid (XObjs w1 wr [⟨gs, va, C.addAll C.zeroS (l.take k), false⟩, ⟨go, .slice none 0 0, C.zeroS, false⟩, ⟨gw, vw, C.addAll C.zeroS (l.take k), true⟩, ⟨gu, .slice none 0 0, C.zeroS, true⟩])) (fun s11 _ => n - (intOf s11).toNat)
  case atStart => exact ⟨0, _, _, rfl, Nat.zero_le _, H5.out⟩
  case round =>
    clear H5
    obtain ⟨k, va, vw, rfl, hkn, HO⟩ := hrel
    by_cases hlt : k < n
    · obtain ⟨x, hx⟩ : ∃ x, l[k]? = some x := ⟨_, List.getElem?_eq_getElem (by have := HN.out; omega)⟩
      obtain ⟨b, o, rfl, hc⟩ := HA.out (by have := HN.out; omega)
      have HXA : Hid (C.addAll C.zeroS (l.take (k + 1)) = C.addM (C.addAll C.zeroS (l.take k)) x) := C.add_take hx
      obtain ⟨a0, a1⟩ := hc k x hx
      have HCX : Hid (∀ W, Below w1.heap.size w1 W → W.cell? ⟨b, o + k * 2, none⟩ = some (.int .i64 x.1) ∧ W.cell? ⟨b, o + k * 2 + 1, none⟩ = some (.int .i64 x.2)) := fun W hW => ⟨((bt HW1.out hW).cell (p := ⟨b, o + k * 2, none⟩) (World.block_lt_of_cell? _ _ a0)).trans a0, ((bt HW1.out hW).cell (p := ⟨b, o + k * 2 + 1, none⟩) (World.block_lt_of_cell? _ _ a1)).trans a1⟩
      have HKA : Hid ((C.addAll C.zeroS (l.take k)).l.length < 1000) := Nat.lt_of_le_of_lt (C.take_small l k 60 HL60.out) (by decide)
      have HKB : Hid ((C.addAll C.zeroS (l.take (k + 1))).l.length ≤ 60) := C.take_small l (k + 1) 60 HL60.out
      clear hc a0 a1 hx
      obtain ⟨x1, x2⟩ := x
      obtain ⟨S0, hS0⟩ : ∃ S0, S0 = C.addAll C.zeroS (l.take k) := ⟨_, rfl⟩
      obtain ⟨S1, hS1⟩ : ∃ S1, S1 = C.addAll C.zeroS (l.take (k + 1)) := ⟨_, rfl⟩
      rw [← hS0] at HO HXA HKA
      rw [← hS1] at HXA HKB
      have HS1 : Hid (S1 = C.addAll C.zeroS (l.take (k + 1))) := hS1
      clear hS0 hS1
      obtain ⟨bb, hbb⟩ : ∃ bb, (C.may (x1, x2) && !C.mem S0 (x1, x2)) = bb := ⟨_, rfl⟩
      obtain ⟨er, herr⟩ : ∃ er, errM (x1, x2) = er := ⟨_, rfl⟩
      have HBB : Hid _ := hbb
      have HER : Hid _ := herr
      clear hbb herr
      obtain ⟨c0, c1⟩ := HCX.out _ HO.out.bel
      simp only at c0 c1
      go_wp2_with fail
      refine (x_add [] _ gs va S0 S1 x1 x2 bb er HO.out HKA.out HBB.out HER.out HXA.out.symm).mono ?_
      rintro e w6 ⟨rfl, ⟨va2, h6⟩⟩
      have H6 : Hid (XObjs w1 w6 ([⟨gs, va2, S1, false⟩, ⟨go, .slice none 0 0, C.zeroS, false⟩] ++ ⟨gw, vw, S0, true⟩ :: [⟨gu, .slice none 0 0, C.zeroS, true⟩])) := h6
      clear h6 HO c0 c1
      obtain ⟨c0, c1⟩ := HCX.out _ H6.out.bel
      try simp only at c0 c1
      go_wp2_with fail
      refine (y_add _ _ gw vw S0 S1 x1 x2 bb er H6.out HKA.out HBB.out HER.out HXA.out.symm).mono ?_
      rintro e w7 ⟨rfl, ⟨vw2, h7⟩⟩
      have hg7 : RDAt w7 gw S1.c vw2 S1.l := h7.get.1
      obtain ⟨qv, nv, cv, hvw⟩ := hg7.row.slice
      subst hvw
      have H7 : Hid (XObjs w1 w7 ([⟨gs, va2, S1, false⟩, ⟨go, .slice none 0 0, C.zeroS, false⟩] ++ ⟨gw, .slice qv nv cv, S1, true⟩ :: [⟨gu, .slice none 0 0, C.zeroS, true⟩])) := h7
      clear H6 c0 c1 h7 HCX HKA HBB HER HXA
      obtain ⟨nk, hnk⟩ : ∃ nk, C.lenS S1 = nk := ⟨_, rfl⟩
      obtain ⟨mq, hmq⟩ : ∃ mq, C.mem S1 (d1, d2) = mq := ⟨_, rfl⟩
      have HV : Hid (∀ W, Below w7.heap.size w7 W → Calls Try.prog 18 #[.pointer (some ⟨gs, 0, none⟩)] W fun e w' => e = .returned S1.c.v ∧ Below W.heap.size W w') := fun W hW => x_vec [] _ gs va2 S1 S1.c (H7.out.below hW) rfl
      have HLO : Hid (∀ W, Below w7.heap.size w7 W → Calls Try.prog 20 #[.pointer (some ⟨gs, 0, none⟩)] W fun e w' => (∃ v', e = .returned v' ∧ OwnD w' v' S1.l ∧ ∀ b, v'.ownBlock = some b → W.heap.size ≤ b) ∧ Below W.heap.size W w') := fun W hW => x_loose [] _ gs va2 S1 (H7.out.below hW) (by have := HKB.out; omega)
      have HLN1 : Hid (∀ W, Below w7.heap.size w7 W → Calls Try.prog 21 #[.pointer (some ⟨gs, 0, none⟩)] W fun e w' => e = .returned (.int .i64 nk) ∧ w' = W) := fun W hW => x_len [] _ gs va2 S1 nk (H7.out.below hW) (by have := HKB.out; omega) hnk
      have HLN2 : Hid (∀ W, Below w7.heap.size w7 W → Calls Try.prog 22 #[.pointer (some ⟨gw, 0, none⟩)] W fun e w' => e = .returned (.int .i64 nk) ∧ w' = W) := fun W hW => y_len _ _ gw _ S1 nk (H7.out.below hW) (by have := HKB.out; omega) hnk
      have HH1 : Hid (∀ W, Below w7.heap.size w7 W → Calls Try.prog 16 #[.pointer (some ⟨gs, 0, none⟩), .agg #[.int .i64 d1, .int .i64 d2]] W fun e w' => e = .returned (.bool mq) ∧ Below W.heap.size W w') := fun W hW => x_has [] _ gs va2 S1 d1 d2 mq (H7.out.below hW) (by have := HKB.out; omega) hmq
      have HH2 : Hid (∀ W, Below w7.heap.size w7 W → Calls Try.prog 23 #[.pointer (some ⟨gw, 0, none⟩), .agg #[.int .i64 d1, .int .i64 d2]] W fun e w' => e = .returned (.bool mq) ∧ Below W.heap.size W w') := fun W hW => y_has _ _ gw _ S1 d1 d2 mq (H7.out.below hW) (by have := HKB.out; omega) hmq
      have HRO : Hid (∀ W, Below w7.heap.size w7 W → OwnD W (.slice qv nv cv) S1.l) := fun W hW => hg7.row.below hW
      have hga : w7.heap[ga]? = some (.cells #[.int .i64 d1, .int .i64 d2] 29) := keep_on H7.out.bel HK.out
      obtain ⟨z0, z1, z2, z3, z4, z5, z6, z7⟩ := cells8_all hg7.blk
      obtain ⟨t0, t1⟩ := box2_all hga
      clear hnk hmq hga hg7
      obtain ⟨⟨s0, s1, s2, s3, s4, s5, s6⟩, lS⟩ := S1
      simp only [V7.v] at HV
      simp only at z0 z1 z2 z3 z4 z5 z6 HLO HRO HKB
      have kE : ∀ W, (Op.equalIn 10000 40 (.agg #[.int .i64 s0, .int .i64 s1, .int .i64 s2, .int .i64 s3, .int .i64 s4, .int .i64 s5, .int .i64 s6]) (.agg #[.int .i64 s0, .int .i64 s1, .int .i64 s2, .int .i64 s3, .int .i64 s4, .int .i64 s5, .int .i64 s6])).run Try.prog W = .ok true W := fun W => eq_ref8 ⟨s0, s1, s2, s3, s4, s5, s6⟩ W
      have hne : Nonempty (NewW w7) := ⟨NewW.start w7⟩
      go_wp2_with fail
      have hC : ∃ m : NewW w7, w7.drew = m.v := ⟨⟨w7.drew, (Below.refl _ w7).drew⟩, rfl⟩
      refine wp_region_held_drew (S := fun w' => ∃ m : NewW w7, w' = m.v) (by kernel_rfl) hC (fun _ => ?_)
      have hB : Below w7.heap.size w7 w7.drew := (Below.refl _ w7).drew
      generalize hW0 : w7.drew = W0 at *
      clear hW0
      refine takeList (i := 0) rfl (by kernel_rfl) (by kernel_rfl) (by kernel_rfl) (fun _ _ _ _ h => h) rfl rfl hC (fun K hK => ?_)
      go_big_quiet_op
      refine hK _ ?_
      clear hK K
      refine takeList (i := 1) rfl (by kernel_rfl) (by kernel_rfl) (by kernel_rfl) (fun _ _ _ _ h => h) rfl rfl hC (fun K hK => ?_)
      go_big_quiet_op
      refine hK _ ?_
      clear hK K
      refine takeList (i := 2) rfl (by kernel_rfl) (by kernel_rfl) (by kernel_rfl) (fun _ _ _ _ h => h) rfl rfl hC (fun K hK => ?_)
      go_big_quiet_op
      refine hK _ ?_
      clear hK K
      refine takeList (i := 3) rfl (by kernel_rfl) (by kernel_rfl) (by kernel_rfl) (fun _ _ _ _ h => h) rfl rfl hC (fun K hK => ?_)
      go_big_quiet_op
      refine hK _ ?_
      clear hK K
      refine takeList (i := 4) rfl (by kernel_rfl) (by kernel_rfl) (by kernel_rfl) (fun _ _ _ _ h => h) rfl rfl hC (fun K hK => ?_)
      go_big_quiet_op
      refine hK _ ?_
      clear hK K
      refine takeList (i := 5) rfl (by kernel_rfl) (by kernel_rfl) (by kernel_rfl) (fun _ _ _ _ h => h) rfl rfl hC (fun K hK => ?_)
      go_big_quiet_op
      refine hK _ ?_
      clear hK K
      refine takeList (i := 6) rfl (by kernel_rfl) (by kernel_rfl) (by kernel_rfl) (fun _ _ _ _ h => h) rfl rfl hC (fun K hK => ?_)
      go_big_quiet_op
      refine hK _ ?_
      clear hK K
      refine takeList (i := 7) rfl (by kernel_rfl) (by kernel_rfl) (by kernel_rfl) (fun _ _ _ _ h => h) rfl rfl hC (fun K hK => ?_)
      go_big_quiet_op
      refine hK _ ?_
      clear hK K
      refine takeList (i := 8) rfl (by kernel_rfl) (by kernel_rfl) (by kernel_rfl) (fun _ _ _ _ h => h) rfl rfl hC (fun K hK => ?_)
      go_big_quiet_op
      refine hK _ ?_
      clear hK K
      refine takeList (i := 9) rfl (by kernel_rfl) (by kernel_rfl) (by kernel_rfl) (fun _ _ _ _ h => h) rfl rfl hC (fun K hK => ?_)
      go_big_quiet_op
      refine hK _ ?_
      clear hK K
      refine takeList (i := 11) rfl (by kernel_rfl) (by kernel_rfl) (by kernel_rfl) (fun _ _ _ _ h => h) rfl rfl hC (fun K hK => ?_)
      go_big_quiet_op
      refine hK _ ?_
      clear hK K
      refine takeNil (i := 12) rfl rfl rfl (by kernel_rfl) (by kernel_rfl) (by kernel_rfl) (fun _ _ _ _ h => h) rfl hC ?_
      go_simp
      refine takeList (i := 13) rfl (by kernel_rfl) (by kernel_rfl) (by kernel_rfl) (fun _ _ _ _ h => h) rfl rfl hC (fun K hK => ?_)
      go_big_quiet_op
      refine hK _ ?_
      clear hK K
      refine takeList (i := 14) rfl (by kernel_rfl) (by kernel_rfl) (by kernel_rfl) (fun _ _ _ _ h => h) rfl rfl hC (fun K hK => ?_)
      go_big_quiet_op
      refine hK _ ?_
      clear hK K
      refine callList (i := 10) rfl (by kernel_rfl) rfl (fun K hK => ?_)
      go_simp
      refine (HV.out _ hB).mono ?_
      rintro e w8 ⟨rfl, hk⟩
      replace hB := bt hB hk
      refine hK.out _ _ ⟨⟨_, hB⟩, rfl⟩ ?_
      try go_simp
      clear hK K hC hk
      have hC : ∃ m : NewW w7, w8 = m.v := ⟨⟨_, hB⟩, rfl⟩
      refine takeList (i := 15) rfl (by kernel_rfl) (by kernel_rfl) (by kernel_rfl) (fun _ _ _ _ h => h) rfl rfl hC (fun K hK => ?_)
      go_big_quiet_op
      refine hK _ ?_
      clear hK K
      refine takeList (i := 16) rfl (by kernel_rfl) (by kernel_rfl) (by kernel_rfl) (fun _ _ _ _ h => h) rfl rfl hC (fun K hK => ?_)
      go_big_quiet_op
      refine hK _ ?_
      clear hK K
      refine takeList (i := 17) rfl (by kernel_rfl) (by kernel_rfl) (by kernel_rfl) (fun _ _ _ _ h => h) rfl rfl hC (fun K hK => ?_)
      go_big_quiet_op
      refine hK _ ?_
      clear hK K
      refine takeList (i := 18) rfl (by kernel_rfl) (by kernel_rfl) (by kernel_rfl) (fun _ _ _ _ h => h) rfl rfl hC (fun K hK => ?_)
      go_big_quiet_op
      refine hK _ ?_
      clear hK K
      refine takeList (i := 20) rfl (by kernel_rfl) (by kernel_rfl) (by kernel_rfl) (fun _ _ _ _ h => h) rfl rfl hC (fun K hK => ?_)
      go_big_quiet_op
      refine hK _ ?_
      clear hK K
      refine takeNil (i := 21) rfl rfl rfl (by kernel_rfl) (by kernel_rfl) (by kernel_rfl) (fun _ _ _ _ h => h) rfl hC ?_
      go_simp
      refine takeList (i := 22) rfl (by kernel_rfl) (by kernel_rfl) (by kernel_rfl) (fun _ _ _ _ h => h) rfl rfl hC (fun K hK => ?_)
      go_big_quiet_op
      refine hK _ ?_
      clear hK K
      refine takeList (i := 23) rfl (by kernel_rfl) (by kernel_rfl) (by kernel_rfl) (fun _ _ _ _ h => h) rfl rfl hC (fun K hK => ?_)
      go_big_quiet_op
      refine hK _ ?_
      clear hK K
      clear z0 z1 z2 z3 z4 z5 z6 z7
      refine callList (i := 19) rfl (by kernel_rfl) rfl (fun K hK => ?_)
      go_simp
      refine (HLO.out _ hB).mono ?_
      rintro e wl ⟨⟨vl, rfl, ho, -⟩, hk⟩
      replace hB := bt hB hk
      obtain ⟨ql, nl, cl, hvl⟩ := ho.slice
      subst hvl
      refine hK.out _ _ ⟨⟨_, hB⟩, rfl⟩ ?_
      try go_simp
      clear hK K hC hk
      have hC : ∃ m : NewW w7, wl = m.v := ⟨⟨_, hB⟩, rfl⟩
      refine callList (i := 24) rfl (by kernel_rfl) rfl (fun K hK => ?_)
      go_simp
      refine (same_self8 _ _ _ lS ho (HRO.out _ hB) (by have := HKB.out; omega)).mono ?_
      rintro e ws ⟨rfl, hk⟩
      replace hB := bt hB hk
      refine hK.out _ _ ⟨⟨_, hB⟩, rfl⟩ ?_
      try go_simp
      clear hK K hC hk
      have hC : ∃ m : NewW w7, ws = m.v := ⟨⟨_, hB⟩, rfl⟩
      refine takeList (i := 25) rfl (by kernel_rfl) (by kernel_rfl) (by kernel_rfl) (fun _ _ _ _ h => h) rfl rfl hC (fun K hK => ?_)
      go_big_quiet_op
      refine hK _ ?_
      clear hK K
      refine takeList (i := 26) rfl (by kernel_rfl) (by kernel_rfl) (by kernel_rfl) (fun _ _ _ _ h => h) rfl rfl hC (fun K hK => ?_)
      go_big_quiet_op
      refine hK _ ?_
      clear hK K
      refine takeList (i := 27) rfl (by kernel_rfl) (by kernel_rfl) (by kernel_rfl) (fun _ _ _ _ h => h) rfl rfl hC (fun K hK => ?_)
      go_big_quiet_op
      refine hK _ ?_
      clear hK K
      refine takeList (i := 28) rfl (by kernel_rfl) (by kernel_rfl) (by kernel_rfl) (fun _ _ _ _ h => h) rfl rfl hC (fun K hK => ?_)
      go_big_quiet_op
      refine hK _ ?_
      clear hK K
      refine takeList (i := 30) rfl (by kernel_rfl) (by kernel_rfl) (by kernel_rfl) (fun _ _ _ _ h => h) rfl rfl hC (fun K hK => ?_)
      go_big_quiet_op
      refine hK _ ?_
      clear hK K
      clear ho
      refine callList (i := 29) rfl (by kernel_rfl) rfl (fun K hK => ?_)
      go_simp
      refine (HLN1.out _ hB).mono ?_
      rintro e wx ⟨rfl, hk⟩
      subst hk
      refine hK.out _ _ ⟨⟨_, hB⟩, rfl⟩ ?_
      try go_simp
      clear hK K hC
      have hC : ∃ m : NewW w7, wx = m.v := ⟨⟨_, hB⟩, rfl⟩
      refine callList (i := 31) rfl (by kernel_rfl) rfl (fun K hK => ?_)
      go_simp
      refine (HLN2.out _ hB).mono ?_
      rintro e wy ⟨rfl, hk⟩
      subst hk
      refine hK.out _ _ ⟨⟨_, hB⟩, rfl⟩ ?_
      try go_simp
      clear hK K hC
      have hC : ∃ m : NewW w7, wy = m.v := ⟨⟨_, hB⟩, rfl⟩
      refine takeList (i := 32) rfl (by kernel_rfl) (by kernel_rfl) (by kernel_rfl) (fun _ _ _ _ h => h) rfl rfl hC (fun K hK => ?_)
      go_big_quiet_op
      refine hK _ ?_
      clear hK K
      refine takeList (i := 33) rfl (by kernel_rfl) (by kernel_rfl) (by kernel_rfl) (fun _ _ _ _ h => h) rfl rfl hC (fun K hK => ?_)
      go_big_quiet_op
      refine hK _ ?_
      clear hK K
      refine takeList (i := 34) rfl (by kernel_rfl) (by kernel_rfl) (by kernel_rfl) (fun _ _ _ _ h => h) rfl rfl hC (fun K hK => ?_)
      go_big_quiet_op
      refine hK _ ?_
      clear hK K
      refine takeList (i := 35) rfl (by kernel_rfl) (by kernel_rfl) (by kernel_rfl) (fun _ _ _ _ h => h) rfl rfl hC (fun K hK => ?_)
      go_big_quiet_op
      refine hK _ ?_
      clear hK K
      refine takeList (i := 36) rfl (by kernel_rfl) (by kernel_rfl) (by kernel_rfl) (fun _ _ _ _ h => h) rfl rfl hC (fun K hK => ?_)
      go_big_quiet_op
      refine hK _ ?_
      clear hK K
      refine takeList (i := 38) rfl (by kernel_rfl) (by kernel_rfl) (by kernel_rfl) (fun _ _ _ _ h => h) rfl rfl hC (fun K hK => ?_)
      go_big_quiet_op
      refine hK _ ?_
      clear hK K
      refine takeList (i := 39) rfl (by kernel_rfl) (by kernel_rfl) (by kernel_rfl) (fun _ _ _ _ h => h) rfl rfl hC (fun K hK => ?_)
      go_big_quiet_op
      refine hK _ ?_
      clear hK K
      refine callList (i := 37) rfl (by kernel_rfl) rfl (fun K hK => ?_)
      go_simp
      refine (HH1.out _ hB).mono ?_
      rintro e wz ⟨rfl, hk⟩
      replace hB := bt hB hk
      refine hK.out _ _ ⟨⟨_, hB⟩, rfl⟩ ?_
      try go_simp
      clear hK K hC hk
      have hC : ∃ m : NewW w7, wz = m.v := ⟨⟨_, hB⟩, rfl⟩
      refine callList (i := 40) rfl (by kernel_rfl) rfl (fun K hK => ?_)
      go_simp
      refine (HH2.out _ hB).mono ?_
      rintro e w9 ⟨rfl, hk⟩
      replace hB := bt hB hk
      refine hK.out _ _ ⟨⟨_, hB⟩, rfl⟩ ?_
      try go_simp
      clear hK K hC hk
      have hC : ∃ m : NewW w7, w9 = m.v := ⟨⟨_, hB⟩, rfl⟩
      refine takeList (i := 41) rfl (by kernel_rfl) (by kernel_rfl) (by kernel_rfl) (fun _ _ _ _ h => h) rfl rfl hC (fun K hK => ?_)
      go_big_quiet_op
      refine hK _ ?_
      clear hK K
      refine takeList (i := 42) rfl (by kernel_rfl) (by kernel_rfl) (by kernel_rfl) (fun _ _ _ _ h => h) rfl rfl hC (fun K hK => ?_)
      go_big_quiet_op
      refine hK _ ?_
      clear hK K
      clear hC hne
      have HB9 : Hid (Below w7.heap.size w7 w9) := hB
      clear hB
      refine wpAnyH_done (by kernel_rfl) ?_ _
      go_wp2
      go_roundw
      case rel => exact ⟨k + 1, va2, _, by go_num, by omega, by rw [← HS1.out]; exact H7.out.below HB9.out⟩
      case measure => simp [intOf]; omega
    · obtain rfl : k = n := by omega
      have htk : l.take k = l := List.take_of_length_le (by have := HN.out; omega)
      rw [htk] at HO
      have HAL : Hid ((C.addAll C.zeroS l).l.length ≤ 60) := by
        have := C.take_small l l.length 60 HL60.out
        rwa [List.take_of_length_le (Nat.le_refl _)] at this
      obtain ⟨A, hA⟩ : ∃ A, A = C.addAll C.zeroS l := ⟨_, rfl⟩
      rw [← hA] at HO HAL
      have HO0 : Hid (XObjs w1 wr [⟨gs, va, A, false⟩, ⟨go, .slice none 0 0, C.addAll C.zeroS (m.take 0), false⟩, ⟨gw, vw, A, true⟩, ⟨gu, .slice none 0 0, C.addAll C.zeroS (m.take 0), true⟩]) := HO.out
      clear htk hA HO
      go_wp2_with fail
      go_loopw [16] (fun s16 wr => ∃ (j : Nat) (vo vu : Value), s16 = .int .i64 j ∧ j ≤ q ∧ Hid (XObjs w1 wr [⟨gs, va, A, false⟩, ⟨go, vo, C.addAll C.zeroS (m.take j), false⟩, ⟨gw, vw, A, true⟩, ⟨gu, vu, C.addAll C.zeroS (m.take j), true⟩])) (fun s16 _ => q - (intOf s16).toNat)
      case atStart => exact ⟨0, _, _, rfl, Nat.zero_le _, HO0.out⟩
      case round =>
        clear HO0
        obtain ⟨j, vo, vu, rfl, hjq, HO⟩ := hrel
        by_cases hlt2 : j < q
        · obtain ⟨x, hx⟩ : ∃ x, m[j]? = some x := ⟨_, List.getElem?_eq_getElem (by have := HQ.out; omega)⟩
          obtain ⟨b, o, rfl, hc⟩ := HB.out (by have := HQ.out; omega)
          have HXA : Hid (C.addAll C.zeroS (m.take (j + 1)) = C.addM (C.addAll C.zeroS (m.take j)) x) := C.add_take hx
          obtain ⟨a0, a1⟩ := hc j x hx
          have HCX : Hid (∀ W, Below w1.heap.size w1 W → W.cell? ⟨b, o + j * 2, none⟩ = some (.int .i64 x.1) ∧ W.cell? ⟨b, o + j * 2 + 1, none⟩ = some (.int .i64 x.2)) := fun W hW => ⟨((bt HW1.out hW).cell (p := ⟨b, o + j * 2, none⟩) (World.block_lt_of_cell? _ _ a0)).trans a0, ((bt HW1.out hW).cell (p := ⟨b, o + j * 2 + 1, none⟩) (World.block_lt_of_cell? _ _ a1)).trans a1⟩
          have HKD : Hid ((C.addAll C.zeroS (m.take j)).l.length < 1000) := Nat.lt_of_le_of_lt (C.take_small m j 60 HM60.out) (by decide)
          clear hc a0 a1 hx
          obtain ⟨x1, x2⟩ := x
          obtain ⟨S0, hS0⟩ : ∃ S0, S0 = C.addAll C.zeroS (m.take j) := ⟨_, rfl⟩
          obtain ⟨S1, hS1⟩ : ∃ S1, S1 = C.addAll C.zeroS (m.take (j + 1)) := ⟨_, rfl⟩
          rw [← hS0] at HO HXA HKD
          rw [← hS1] at HXA
          have HS1 : Hid (S1 = C.addAll C.zeroS (m.take (j + 1))) := hS1
          clear hS0 hS1
          obtain ⟨c0, c1⟩ := HCX.out _ HO.out.bel
          try simp only at c0 c1
          go_wp2_with fail
          refine (x_add [⟨gs, va, A, false⟩] _ go vo S0 S1 x1 x2 _ _ HO.out HKD.out rfl rfl HXA.out.symm).mono ?_
          rintro e w6 ⟨rfl, ⟨vo2, h6⟩⟩
          have H6 : Hid (XObjs w1 w6 ([⟨gs, va, A, false⟩, ⟨go, vo2, S1, false⟩, ⟨gw, vw, A, true⟩] ++ ⟨gu, vu, S0, true⟩ :: [])) := h6
          clear h6 HO c0 c1
          obtain ⟨c0, c1⟩ := HCX.out _ H6.out.bel
          try simp only at c0 c1
          go_wp2_with fail
          refine (y_add _ _ gu vu S0 S1 x1 x2 _ _ H6.out HKD.out rfl rfl HXA.out.symm).mono ?_
          rintro e w7 ⟨rfl, ⟨vu2, h7⟩⟩
          have H7 : Hid (XObjs w1 w7 [⟨gs, va, A, false⟩, ⟨go, vo2, S1, false⟩, ⟨gw, vw, A, true⟩, ⟨gu, vu2, S1, true⟩]) := h7
          clear h7 H6 c0 c1
          go_wp2
          go_roundw
          case rel => exact ⟨j + 1, vo2, vu2, by go_num, by omega, by rw [← HS1.out]; exact H7.out⟩
          case measure => simp [intOf]; omega
        · obtain rfl : j = q := by omega
          have htm : m.take j = m := List.take_of_length_le (by have := HQ.out; omega)
          rw [htm] at HO
          have HBL : Hid ((C.addAll C.zeroS m).l.length ≤ 60) := by
            have := C.take_small m m.length 60 HM60.out
            rwa [List.take_of_length_le (Nat.le_refl _)] at this
          obtain ⟨B, hB⟩ : ∃ B, B = C.addAll C.zeroS m := ⟨_, rfl⟩
          rw [← hB] at HO HBL
          have HML : Hid ((C.mergeS A B).l.length ≤ 120) := by
            have h1 := C.merge_len A B
            have h2 := HAL.out
            have h3 := HBL.out
            show _ ≤ _
            omega
          have HAB : Hid (A.l.length + B.l.length ≤ 1000) := by have h2 := HAL.out; have h3 := HBL.out; show _ ≤ _; omega
          obtain ⟨M, hM⟩ : ∃ M, C.mergeS A B = M := ⟨_, rfl⟩
          rw [hM] at HML
          have HMM : Hid (C.mergeS A B = M) := hM
          clear htm hB hM
          go_wp2_with fail
          refine (x_merge [] _ gs va A M go vo B HO.out (by simp) HAB.out HMM.out).mono ?_
          rintro e w6 ⟨rfl, ⟨va2, h6⟩⟩
          have H6 : Hid (XObjs w1 w6 ([⟨gs, va2, M, false⟩, ⟨go, vo, B, false⟩] ++ ⟨gw, vw, A, true⟩ :: [⟨gu, vu, B, true⟩])) := h6
          clear h6 HO
          go_wp2_with fail
          refine (y_merge _ _ gw vw A M gu vu B H6.out (by simp) HAB.out HMM.out).mono ?_
          rintro e w7 ⟨rfl, ⟨vw2, h7⟩⟩
          have H7 : Hid (XObjs w1 w7 ([⟨gs, va2, M, false⟩, ⟨go, vo, B, false⟩] ++ ⟨gw, vw2, M, true⟩ :: [⟨gu, vu, B, true⟩])) := h7
          clear h7 H6
          obtain ⟨mq, hmq⟩ : ∃ mq, C.mem M (d1, d2) = mq := ⟨_, rfl⟩
          obtain ⟨lp, hlp⟩ : ∃ lp, C.sbytes M = lp := ⟨_, rfl⟩
          have HP1 : Hid (∀ W, Below w7.heap.size w7 W → Calls Try.prog 11 #[.pointer (some ⟨gs, 0, none⟩), .slice none 0 0] W fun e w' => (∃ p n k, e = .returned (.slice p n k) ∧ Is w' p n k lp) ∧ Below W.heap.size W w') := fun W hW => x_put [] _ gs va2 M lp (H7.out.below hW) (by have := HML.out; omega) hlp
          have HP2 : Hid (∀ W, Below w7.heap.size w7 W → Calls Try.prog 26 #[.pointer (some ⟨gw, 0, none⟩), .slice none 0 0] W fun e w' => (∃ p n k, e = .returned (.slice p n k) ∧ Is w' p n k lp) ∧ Below W.heap.size W w') := fun W hW => y_put _ _ gw vw2 M lp (H7.out.below hW) (by have := HML.out; omega) hlp
          have HH1 : Hid (∀ W, Below w7.heap.size w7 W → Calls Try.prog 16 #[.pointer (some ⟨gs, 0, none⟩), .agg #[.int .i64 d1, .int .i64 d2]] W fun e w' => e = .returned (.bool mq) ∧ Below W.heap.size W w') := fun W hW => x_has [] _ gs va2 M d1 d2 mq (H7.out.below hW) (by have := HML.out; omega) hmq
          have HH2 : Hid (∀ W, Below w7.heap.size w7 W → Calls Try.prog 23 #[.pointer (some ⟨gw, 0, none⟩), .agg #[.int .i64 d1, .int .i64 d2]] W fun e w' => e = .returned (.bool mq) ∧ Below W.heap.size W w') := fun W hW => y_has _ _ gw vw2 M d1 d2 mq (H7.out.below hW) (by have := HML.out; omega) hmq
          have HGA : Hid (w7.heap[ga]? = some (.cells #[.int .i64 d1, .int .i64 d2] 29)) := keep_on H7.out.bel HK.out
          have HB7 : Hid (Below w.heap.size w w7) := bt HW1.out H7.out.bel
          clear hmq hlp
          have hne : Nonempty (NewW w7) := ⟨NewW.start w7⟩
          go_wp2_with fail
          have hC : ∃ m : NewW w7, w7.drew = m.v := ⟨⟨w7.drew, (Below.refl _ w7).drew⟩, rfl⟩
          refine wp_region_held_drew (S := fun w' => ∃ m : NewW w7, w' = m.v) (by kernel_rfl) hC (fun _ => ?_)
          have hB : Below w7.heap.size w7 w7.drew := (Below.refl _ w7).drew
          generalize hW0 : w7.drew = W0 at *
          clear hW0
          refine takeList (i := 0) rfl (by kernel_rfl) (by kernel_rfl) (by kernel_rfl) (fun _ _ _ _ h => h) rfl rfl hC (fun K hK => ?_)
          go_big_quiet_op
          refine hK _ ?_
          clear hK K
          refine takeList (i := 1) rfl (by kernel_rfl) (by kernel_rfl) (by kernel_rfl) (fun _ _ _ _ h => h) rfl rfl hC (fun K hK => ?_)
          go_big_quiet_op
          refine hK _ ?_
          clear hK K
          refine takeList (i := 2) rfl (by kernel_rfl) (by kernel_rfl) (by kernel_rfl) (fun _ _ _ _ h => h) rfl rfl hC (fun K hK => ?_)
          go_big_quiet_op
          refine hK _ ?_
          clear hK K
          refine takeList (i := 3) rfl (by kernel_rfl) (by kernel_rfl) (by kernel_rfl) (fun _ _ _ _ h => h) rfl rfl hC (fun K hK => ?_)
          go_big_quiet_op
          refine hK _ ?_
          clear hK K
          refine takeList (i := 4) rfl (by kernel_rfl) (by kernel_rfl) (by kernel_rfl) (fun _ _ _ _ h => h) rfl rfl hC (fun K hK => ?_)
          go_big_quiet_op
          refine hK _ ?_
          clear hK K
          refine takeList (i := 5) rfl (by kernel_rfl) (by kernel_rfl) (by kernel_rfl) (fun _ _ _ _ h => h) rfl rfl hC (fun K hK => ?_)
          go_big_quiet_op
          refine hK _ ?_
          clear hK K
          refine takeList (i := 8) rfl (by kernel_rfl) (by kernel_rfl) (by kernel_rfl) (fun _ _ _ _ h => h) rfl rfl hC (fun K hK => ?_)
          go_big_quiet_op
          refine hK _ ?_
          clear hK K
          refine callList (i := 6) rfl (by kernel_rfl) rfl (fun K hK => ?_)
          go_simp
          refine (HP1.out _ hB).mono ?_
          rintro e w8 ⟨⟨p5, n5, c5, rfl, hi5⟩, hk⟩
          replace hB := bt hB hk
          refine hK.out _ _ ⟨⟨_, hB⟩, rfl⟩ ?_
          clear hK K hC hk hne
          refine wpAnyH_strengthen (S' := fun w' => ∃ n : NewW w8, w' = n.v) (fun w' ⟨n, hn⟩ => ⟨⟨n.v, bt hB n.h⟩, hn⟩) _ _ _ _ ?_
          have hne5 : Nonempty (NewW w8) := ⟨NewW.start w8⟩
          have k5 : ∀ n : NewW w8, (convert 30 9 (.slice p5 n5 c5)).run Try.prog n.v = .ok (.string ⟨lp.toArray⟩) n.v := fun n => conv_is (hi5.below n.h)
          have hC : ∃ n : NewW w8, w8 = n.v := ⟨⟨w8, Below.refl _ _⟩, rfl⟩
          refine takeList (i := 7) rfl (by kernel_rfl) (by kernel_rfl) (by kernel_rfl) (fun _ _ _ _ h => h) rfl rfl hC (fun K hK => ?_)
          go_big_quiet_op
          refine hK _ ?_
          clear hK K
          refine callList (i := 9) rfl (by kernel_rfl) rfl (fun K hK => ?_)
          go_simp
          refine (HP2.out _ hB).mono ?_
          rintro e w9 ⟨⟨p6, n6, c6, rfl, hi6⟩, hk⟩
          refine hK.out _ _ ⟨⟨w9, hk⟩, rfl⟩ ?_
          clear hK K hC k5 hne5
          refine wpAnyH_strengthen (S' := fun w' => ∃ n : NewW w9, w' = n.v) (fun w' ⟨n, hn⟩ => ⟨⟨n.v, bt hk n.h⟩, hn⟩) _ _ _ _ ?_
          replace hB := bt hB hk
          clear hk
          have hne6 : Nonempty (NewW w9) := ⟨NewW.start w9⟩
          have k6 : ∀ n : NewW w9, (convert 30 9 (.slice p6 n6 c6)).run Try.prog n.v = .ok (.string ⟨lp.toArray⟩) n.v := fun n => conv_is (hi6.below n.h)
          obtain ⟨t0, t1⟩ := box2_all (keep_on hB HGA.out)
          have hC : ∃ n : NewW w9, w9 = n.v := ⟨⟨w9, Below.refl _ _⟩, rfl⟩
          have hD : Below w9.heap.size w9 w9 := Below.refl _ _
          refine takeList (i := 10) rfl (by kernel_rfl) (by kernel_rfl) (by kernel_rfl) (fun _ _ _ _ h => h) rfl rfl hC (fun K hK => ?_)
          go_big_quiet_op
          refine hK _ ?_
          clear hK K
          refine takeList (i := 11) rfl (by kernel_rfl) (by kernel_rfl) (by kernel_rfl) (fun _ _ _ _ h => h) rfl rfl hC (fun K hK => ?_)
          go_big_quiet_op
          refine hK _ ?_
          clear hK K
          refine takeList (i := 12) rfl (by kernel_rfl) (by kernel_rfl) (by kernel_rfl) (fun _ _ _ _ h => h) rfl rfl hC (fun K hK => ?_)
          go_big_quiet_op
          refine hK _ ?_
          clear hK K
          refine takeList (i := 13) rfl (by kernel_rfl) (by kernel_rfl) (by kernel_rfl) (fun _ _ _ _ h => h) rfl rfl hC (fun K hK => ?_)
          go_big_quiet_op
          refine hK _ ?_
          clear hK K
          refine takeList (i := 14) rfl (by kernel_rfl) (by kernel_rfl) (by kernel_rfl) (fun _ _ _ _ h => h) rfl rfl hC (fun K hK => ?_)
          go_big_quiet_op
          refine hK _ ?_
          clear hK K
          refine takeList (i := 15) rfl (by kernel_rfl) (by kernel_rfl) (by kernel_rfl) (fun _ _ _ _ h => h) rfl rfl hC (fun K hK => ?_)
          go_big_quiet_op
          refine hK _ ?_
          clear hK K
          refine takeList (i := 17) rfl (by kernel_rfl) (by kernel_rfl) (by kernel_rfl) (fun _ _ _ _ h => h) rfl rfl hC (fun K hK => ?_)
          go_big_quiet_op
          refine hK _ ?_
          clear hK K
          refine takeList (i := 18) rfl (by kernel_rfl) (by kernel_rfl) (by kernel_rfl) (fun _ _ _ _ h => h) rfl rfl hC (fun K hK => ?_)
          go_big_quiet_op
          refine hK _ ?_
          clear hK K
          refine callList (i := 16) rfl (by kernel_rfl) rfl (fun K hK => ?_)
          go_simp
          refine (HH1.out _ (bt hB hD)).mono ?_
          rintro e wx ⟨rfl, hk⟩
          replace hD := bt hD hk
          refine hK.out _ _ ⟨⟨_, hD⟩, rfl⟩ ?_
          try go_simp
          clear hK K hC hk
          have hC : ∃ n : NewW w9, wx = n.v := ⟨⟨_, hD⟩, rfl⟩
          refine callList (i := 19) rfl (by kernel_rfl) rfl (fun K hK => ?_)
          go_simp
          refine (HH2.out _ (bt hB hD)).mono ?_
          rintro e wy ⟨rfl, hk⟩
          replace hD := bt hD hk
          refine hK.out _ _ ⟨⟨_, hD⟩, rfl⟩ ?_
          try go_simp
          clear hK K hC hk
          have hC : ∃ n : NewW w9, wy = n.v := ⟨⟨_, hD⟩, rfl⟩
          refine takeList (i := 20) rfl (by kernel_rfl) (by kernel_rfl) (by kernel_rfl) (fun _ _ _ _ h => h) rfl rfl hC (fun K hK => ?_)
          go_big_quiet_op
          refine hK _ ?_
          clear hK K
          refine takeList (i := 21) rfl (by kernel_rfl) (by kernel_rfl) (by kernel_rfl) (fun _ _ _ _ h => h) rfl rfl hC (fun K hK => ?_)
          go_big_quiet_op
          refine hK _ ?_
          clear hK K
          refine takeList (i := 22) rfl (by kernel_rfl) (by kernel_rfl) (by kernel_rfl) (fun _ _ _ _ h => h) rfl rfl hC (fun K hK => ?_)
          go_big_quiet_op
          refine hK _ ?_
          clear hK K
          have hF := bt hB hD
          clear hC
          refine wpAnyH_done (by kernel_rfl) ?_ _
          go_wp2
          go_ret
          exact ⟨rfl, bt HB7.out hF⟩
theorem plays_all (pa : Option Addr) (lena ca : Nat) (pb : Option Addr) (lenb cb : Nat) (d1 d2 : Int) (h1 : C.fits d1) (h2 : C.fits d2) (w : World) (hla : lena ≤ ca) (hca : ca ≤ maxLen)
    (V : Nat → Nat → Value) (hV : 0 < lena → ∃ b o, pa = some ⟨b, o, none⟩ ∧ ∀ i j, i < lena → j < 2 → w.cell? ⟨b, o + i * 2 + j, none⟩ = some (V i j)) (hI : ∀ i j, i < lena → j < 2 → ∃ z, V i j = .int .i64 z ∧ (Lit.int .i64 z).wf = true)
    (hlb : lenb ≤ cb) (hcb : cb ≤ maxLen)
    (V' : Nat → Nat → Value) (hV' : 0 < lenb → ∃ b o, pb = some ⟨b, o, none⟩ ∧ ∀ i j, i < lenb → j < 2 → w.cell? ⟨b, o + i * 2 + j, none⟩ = some (V' i j)) (hI' : ∀ i j, i < lenb → j < 2 → ∃ z, V' i j = .int .i64 z ∧ (Lit.int .i64 z).wf = true) :
    Calls Try.prog 4 #[.slice pa lena ca, .slice pb lenb cb, .agg #[.int .i64 d1, .int .i64 d2]] w fun e w' => e = .returned (.bool true) ∧ Below w.heap.size w w' := by
  obtain ⟨l, rfl, ha⟩ := argD_of w pa lena V hV hI
  obtain ⟨m, rfl, hb⟩ := argD_of w pb lenb V' hV' hI'
  exact plays_walk pa l ca pb m cb d1 d2 w ha (Nat.le_trans hla hca) hb (Nat.le_trans hlb hcb)
end Go.Proofs.Ytglmmhgmdhdleaa
