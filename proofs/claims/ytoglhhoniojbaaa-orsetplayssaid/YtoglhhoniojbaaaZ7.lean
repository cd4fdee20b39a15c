/-
  Several texts in one: RWrite, QPut, OFree, QTwo.
-/
import Derived.Test.YtoglhhoniojbaaaWLaw
import Derived.Test.YtoglhhoniojbaaaZ11
import Derived.Test.YtoglhhoniojbaaaZ4
import Derived.Test.YtoglhhoniojbaaaOOrd
namespace Go.Proofs.Ytoglhhoniojbaaa
open Go.RowKit Go.Lib
set_option linter.unusedVariables false

theorem zig_not {v : Int} (h1 : -9223372036854775808 ≤ v) (h : v < 0) : bits .xor .u64 IntKind.u64.max (IntKind.u64.wrap (IntKind.u64.wrap v * 2)) = (C.zig v : Nat) := by
  rw [wrap_u64_neg (v := v) h (by omega), show IntKind.u64.wrap ((v + 18446744073709551616) * 2) = 2 * v + 18446744073709551616 by rw [IntKind.wrap_u64]; omega]
  obtain ⟨n, hn⟩ := Int.eq_ofNat_of_zero_le (show 0 ≤ 2 * v + 18446744073709551616 by omega)
  rw [hn]
  have := u64_xor_nat 18446744073709551615 n (by omega) (by omega)
  rw [Nat.xor_comm, xor_all n (by omega)] at this
  have e : IntKind.u64.max = ((18446744073709551615 : Nat) : Int) := by decide
  rw [e, this]
  unfold C.zig
  rw [if_neg (by omega)]
  omega
theorem zig_twice {v : Int} (h : 0 ≤ v) : v * 2 = (C.zig v : Nat) := by
  unfold C.zig
  rw [if_pos h]
  omega
theorem byte_more (m : Nat) : (m : Int) % 128 + 128 = ((UInt8.ofNat (m % 128 + 128)).toNat : Nat) := by
  rw [UInt8.toNat_ofNat']; omega
set_option maxRecDepth 100000 in
set_option maxHeartbeats 4000000 in
theorem refnum_any (pb : Option Addr) (nb cb : Nat) (lb : List UInt8) (v : Int) (w : World) (hb : Is w pb nb cb lb) (hv : C.fits v) (hl : lb.length ≤ 90000) :
    Calls Try.prog 54 #[.slice pb nb cb, .int .i64 v] w fun e w' => (∃ x, e = .returned x ∧ Own w' w.heap.size x (lb ++ C.num v)) ∧ Below w.heap.size w w' := by
  obtain ⟨hn, hok⟩ := hb
  subst hn
  have HOK : Hid _ := hok
  have HV : Hid _ := hv
  have hv1 := hv.1
  have hv2 := hv.2
  have ho1 : Hid (Own (w.alloc (.cells #[] 5)) w.heap.size (.slice (some ⟨w.heap.size, 0, none⟩) 0 0) []) := Own.empty w w.heap.size (Nat.le_refl _)
  have HL : Hid (lb.length ≤ 90000) := hl
  clear hok hv
  by_cases h0 : v < 0
  all_goals
    go_enter Try.func54, Try.ntmps54
    go_wp2_with (at_builtin; go_must (refine wpList_append_part rfl _ _ rfl w.heap.size _ [] rfl ho1.out ⟨pb, lb, cb⟩ rfl (Part.ok.below HOK.out (below_new _ _)) (by simp only [List.length_nil]; omega) (by simp) ?_); intro v2 w2 ho2 hg2; have h2 := Own.grown ho1.out (below_new w _) (by simp) hg2)
    go_loopw [5, 6] (fun n b wr => ∃ (m : Nat) (pre : List UInt8), n = .int .u64 m ∧ m < C.lim ∧ Own wr w.heap.size b (lb ++ pre) ∧ pre ++ C.grp m = C.num v ∧ Below w.heap.size w wr) (fun n _ _ => (intOf n).toNat)
    case atStart => exact ⟨C.zig v, [], by first | rw [zig_not hv1 h0] | rw [zig_twice h0], C.zig_lt HV.out, by simpa using ho2, rfl, h2⟩
    case round =>
      obtain ⟨m, pre, rfl, hm, ho, he, hb⟩ := hrel
      have HM : Hid (m < C.lim) := hm
      have HO : Hid _ := ho
      have HE : Hid (pre ++ C.grp m = C.num v) := he
      have HB : Hid _ := hb
      have HLL : Hid ((lb ++ pre).length ≤ 90010) := by
        have h1 := (C.num_ten HV.out).2
        have h2 := congrArg List.length HE.out
        have h3 := HL.out
        rw [List.length_append] at h2
        show _ ≤ _
        rw [List.length_append]
        omega
      clear hm ho he hb hv1 hv2
      by_cases h : m < 128
      · have HX : Hid (lb ++ pre ++ [UInt8.ofNat m] = lb ++ C.num v) := by
          have := HE.out; rw [C.grp_small h] at this; show _ = _; rw [List.append_assoc, this]
        have hu := u8_small m h
        generalize UInt8.ofNat m = x at hu HX
        have HU : Hid _ := hu
        clear hu
        go_wp2_with (at_builtin; go_must (refine wpList_append_part rfl _ _ rfl w.heap.size _ (lb ++ pre) rfl (Own.below HO.out (below_new _ _)) ⟨some ⟨_, 0, none⟩, [x], 1⟩ rfl (byte_new _ _ _ HU.out _) (by have := HLL.out; simp only [List.length_singleton]; omega) (by have := HB.out.size; simp; omega) ?_); intro v3 w3 ho3 hg3; have h3 := Own.grown (Own.below HO.out (below_new _ _)) (HB.out.alloc HB.out.size _) (by have := HB.out.size; simp; omega) hg3)
        go_ret
        exact ⟨⟨_, rfl, by rw [← HX.out]; exact ho3⟩, h3⟩
      · have HX : Hid (pre ++ [UInt8.ofNat (m % 128 + 128)] ++ C.grp (m / 128) = C.num v) := by
          have := HE.out; rw [C.grp_big h] at this; show _ = _; rw [List.append_assoc]; exact this
        have hq : IntKind.u64.wrap ((m : Int) / 128) = (m : Int) / 128 := by
          have h1 := HM.out
          unfold C.lim at h1
          exact wrap_u64_ge (by omega) (by omega)
        have hu := byte_more m
        generalize UInt8.ofNat (m % 128 + 128) = x at hu HX
        have HU : Hid _ := hu
        clear hu
        go_wp2_with (at_builtin; go_must (refine wpList_append_part rfl _ _ rfl w.heap.size _ (lb ++ pre) rfl (Own.below HO.out (below_new _ _)) ⟨some ⟨_, 0, none⟩, [x], 1⟩ rfl (byte_new _ _ _ HU.out _) (by have := HLL.out; simp only [List.length_singleton]; omega) (by have := HB.out.size; simp; omega) ?_); intro v3 w3 ho3 hg3; have h3 := Own.grown (Own.below HO.out (below_new _ _)) (HB.out.alloc HB.out.size _) (by have := HB.out.size; simp; omega) hg3)
        go_roundw
        case rel => exact ⟨m / 128, _, by go_num, Nat.lt_of_le_of_lt (Nat.div_le_self _ _) HM.out, by rw [List.append_assoc] at ho3; exact ho3, HX.out, h3⟩
        case measure => simp [intOf]; omega
set_option maxHeartbeats 1000000 in
theorem refbytes_any (pb : Option Addr) (nb cb : Nat) (lb : List UInt8) (px : Option Addr) (nx cx : Nat) (lx : List UInt8) (w : World) (hb : Is w pb nb cb lb) (hx : Is w px nx cx lx) (hl : lb.length ≤ 40000) (hlx : lx.length ≤ 40000) :
    Calls Try.prog 55 #[.slice pb nb cb, .slice px nx cx] w fun e w' => (∃ x, e = .returned x ∧ Own w' w.heap.size x (lb ++ C.byt lx)) ∧ Below w.heap.size w w' := by
  have HB : Hid (Is w pb nb cb lb) := hb
  have HX : Hid (Is w px nx cx lx) := hx
  have hn := hx.1
  have HN : Hid (nx = lx.length) := hn
  have HV : Hid (C.fits (nx : Int)) := ⟨by omega, by omega⟩
  have HE : Hid (lb ++ C.num (nx : Int) ++ lx = lb ++ C.byt lx) := by show _ = _; rw [hn, List.append_assoc]; rfl
  have HL : Hid ((lb ++ C.num (nx : Int)).length + lx.length ≤ 100000) := by
    have := (C.num_ten HV.out).2
    show _ ≤ _
    rw [List.length_append]
    omega
  clear hb hx hn
  go_enter Try.func55, Try.ntmps55
  go_wp2_with fail
  refine (refnum_any pb nb cb lb (nx : Int) w HB.out HV.out (by omega)).mono ?_
  rintro e w1 ⟨⟨x1, rfl, ho1⟩, h1⟩
  have HO1 : Hid _ := ho1
  have HX1 : Hid (Part.ok w1 ⟨px, lx, cx⟩) := (HX.out.below h1).2
  clear ho1
  obtain rfl : nx = lx.length := HN.out
  go_wp2_with (at_builtin; go_must (refine wpList_append_part rfl _ _ rfl w.heap.size _ (lb ++ C.num (lx.length : Int)) rfl HO1.out ⟨px, lx, cx⟩ rfl HX1.out (Nat.le_trans HL.out (by decide)) h1.size ?_); intro v3 w3 ho3 hg3; have h3 := Own.grown HO1.out h1 h1.size hg3)
  go_ret
  exact ⟨⟨_, rfl, by have := ho3; rw [HE.out] at this; exact this⟩, h3⟩
end Go.Proofs.Ytoglhhoniojbaaa

namespace Go.Proofs.Ytoglhhoniojbaaa
open Go.RowKit Go.Lib Go.Sort
set_option linter.unusedVariables false
set_option linter.unusedSimpArgs false

theorem qnum_at (pb : Option Addr) (nb cb : Nat) (lb l' : List UInt8) (v : Int) (w : World) (hb : Is w pb nb cb lb) (hv : C.fits v) (hl : lb.length ≤ 90000) (e : l' = lb ++ C.num v) :
    Calls Try.prog 54 #[.slice pb nb cb, .int .i64 v] w fun e w' => (∃ p n c, e = .returned (.slice p n c) ∧ Is w' p n c l') ∧ Below w.heap.size w w' := by
  subst e
  refine (refnum_any pb nb cb lb v w hb hv hl).mono ?_
  rintro e w' ⟨⟨x, rfl, ho⟩, hb⟩
  obtain ⟨p, n, c, rfl, hi⟩ := Own.is ho
  exact ⟨⟨p, n, c, rfl, hi⟩, hb⟩
set_option maxHeartbeats 1000000 in
theorem qbytes_at (pb : Option Addr) (nb cb : Nat) (lb : List UInt8) (px : Option Addr) (nx cx : Nat) (lx : List UInt8) (w : World) (hb : Is w pb nb cb lb) (hx : Is w px nx cx lx) (hl : lb.length ≤ 85000) (hlx : lx.length ≤ 5000) :
    Calls Try.prog 55 #[.slice pb nb cb, .slice px nx cx] w fun e w' => (∃ p n c, e = .returned (.slice p n c) ∧ Is w' p n c (lb ++ C.byt lx)) ∧ Below w.heap.size w w' := by
  have HB : Hid (Is w pb nb cb lb) := hb
  have HX : Hid (Is w px nx cx lx) := hx
  have hn := hx.1
  have HN : Hid (nx = lx.length) := hn
  have HV : Hid (C.fits (nx : Int)) := ⟨by omega, by omega⟩
  have HE : Hid (lb ++ C.num (nx : Int) ++ lx = lb ++ C.byt lx) := by show _ = _; rw [hn, List.append_assoc]; rfl
  have HL : Hid ((lb ++ C.num (nx : Int)).length + lx.length ≤ 100000) := by
    have := (C.num_ten HV.out).2
    show _ ≤ _
    rw [List.length_append]
    omega
  clear hb hx hn
  go_enter Try.func55, Try.ntmps55
  go_wp2_with fail
  refine (refnum_any pb nb cb lb (nx : Int) w HB.out HV.out (by omega)).mono ?_
  rintro e w1 ⟨⟨x1, rfl, ho1⟩, h1⟩
  have HO1 : Hid _ := ho1
  have HX1 : Hid (Part.ok w1 ⟨px, lx, cx⟩) := (HX.out.below h1).2
  clear ho1
  obtain rfl : nx = lx.length := HN.out
  go_wp2_with (at_builtin; go_must (refine wpList_append_part rfl _ _ rfl w.heap.size _ (lb ++ C.num (lx.length : Int)) rfl HO1.out ⟨px, lx, cx⟩ rfl HX1.out (Nat.le_trans HL.out (by decide)) h1.size ?_); intro v3 w3 ho3 hg3; have h3 := Own.grown HO1.out h1 h1.size hg3)
  go_ret
  have h4 := ho3
  rw [HE.out] at h4
  obtain ⟨p, n, c, hv, hi⟩ := Own.is h4
  subst hv
  exact ⟨⟨_, _, _, rfl, hi⟩, h3⟩
set_option maxRecDepth 100000 in
set_option maxHeartbeats 16000000 in
theorem qput_any (w : World) (g : Nat) (vl vr : Value) (R : C.Rf) (S : C.Os) (mm : Nat) (h : RsAt w g vl vr R) (hrel : C.RelF S R) (hok : S.Ok) (ht : C.Tidy S mm) (hm : mm ≤ 600) (hl : R.l.length ≤ 1000) :
    Calls Try.prog 25 #[.pointer (some ⟨g, 0, none⟩), .slice none 0 0] w fun e w' => (∃ p n k ks, e = .returned (.slice p n k) ∧ IsAll S ks ∧ Is w' p n k (C.putB S ks)) ∧ Below w.heap.size w w' := by
  obtain ⟨ks, hks⟩ : ∃ ks, ks = C.allF R.l [] := ⟨_, rfl⟩
  have HKA : Hid (IsAll S ks) := by show IsAll _ _; rw [hks]; exact all_rel hrel hok ht.short
  have HALL : Hid (Calls Try.prog 20 #[.pointer (some ⟨g, 0, none⟩)] w fun e w' => (∃ v', e = .returned v' ∧ OwnS w' v' ks ∧ ∀ b, v'.ownBlock = some b → w.heap.size ≤ b) ∧ Below w.heap.size w w') := by rw [hks]; exact qall_any w g vl vr R h hl
  have HDOTS : Hid (∀ W x, Below w.heap.size w W → x.size ≤ maxLen → Calls Try.prog 23 #[.pointer (some ⟨g, 0, none⟩), .string x] W fun e w' => (∃ v', e = .returned v' ∧ OwnD w' v' (S.th x)) ∧ Below W.heap.size W w') := fun W x hW hx =>
    (qdots_any W g vl vr R x (h.below hW) hx hl).mono fun e w' ⟨⟨v', he, ho, _⟩, hb⟩ => ⟨⟨v', he, by rw [hrel.dots hok x] at ho; exact ho⟩, hb⟩
  obtain ⟨sz, hsz⟩ : ∃ sz, sz = ks.length := ⟨_, rfl⟩
  have HSZ : Hid (sz = ks.length) := hsz
  have HRB : Hid ((C.rowsB S ks).length ≤ mm * 140 ∧ ks.length ≤ mm) := C.rows_len hok ht (by omega) HKA.out.once fun b hb => ((HKA.out.mem b).1 hb).1
  have HKB : Hid (∀ k, (C.rowsB S (ks.take k)).length ≤ 84000) := fun k => by
    have := (C.rows_len hok ht (by omega) (ks := ks.take k) (HKA.out.once.sublist (List.take_sublist _ _)) fun b hb => ((HKA.out.mem b).1 (List.mem_of_mem_take hb)).1).1
    omega
  have HMY : Hid (∀ x, ∀ d ∈ S.th x, C.may d = true) := fun x d hd => hok.may d _ ((hok.mem _ d).1 hd).1
  have HSH : Hid (∀ x, S.th x ≠ [] → x.size ≤ 100) := ht.short
  have HFW : Hid (∀ x, (S.th x).length ≤ 600) := fun x => Nat.le_trans (ht.few x) hm
  have hsn : sz ≤ 600 := by have := HRB.out.2; omega
  obtain ⟨pn, hpn⟩ : ∃ pn, pn = C.num (sz : Nat) := ⟨_, rfl⟩
  have HPN : Hid (pn = [] ++ C.num (sz : Nat)) := hpn
  have HPL : Hid (pn.length ≤ 10) := by
    show _ ≤ _
    rw [hpn]
    exact (C.num_ten (show C.fits (sz : Int) from ⟨by omega, by omega⟩)).2
  have HPB : Hid (pn ++ C.rowsB S ks = C.putB S ks) := by show _ = _; rw [hpn, hsz]; rfl
  clear h hrel hok ht hl hks hsz hpn hm
  go_enter Try.func25, Try.ntmps25
  go_wp2_with fail
  refine HALL.out.mono ?_
  rintro e w1 ⟨⟨va, rfl, hoa, -⟩, hb1⟩
  obtain ⟨pa, ca, hva, hpa⟩ := OwnG.slice hoa
  rw [← HSZ.out] at hva hpa
  subst hva
  have HOA : Hid (OwnS w1 (.slice pa sz ca) ks) := hoa
  have HPA : Hid (0 < sz → ∃ g, pa = some ⟨g, 0, none⟩) := hpa
  have HB1 : Hid (Below w.heap.size w w1) := hb1
  clear hoa hpa hb1 HALL
  go_wp2_with fail
  refine (qnum_at none 0 0 [] pn (sz : Int) w1 (Is.nil w1) ⟨by omega, by omega⟩ (by decide) HPN.out).mono ?_
  rintro e w2 ⟨⟨p2, n2, c2, rfl, hi2⟩, hb2⟩
  have HI2 : Hid (Is w2 p2 n2 c2 (pn ++ C.rowsB S (ks.take 0))) := by show Is _ _ _ _ _; simpa [C.rowsB] using hi2
  have HB2 : Hid (Below w1.heap.size w1 w2) := hb2
  clear hi2 hb2
  go_wp2_with fail
  go_loopw [1, 6] (fun s1 s6 wr => ∃ (k : Nat) (p : Option Addr) (m c : Nat), s1 = .slice p m c ∧ s6 = .int .i64 k ∧ k ≤ sz ∧ Hid (Is wr p m c (pn ++ C.rowsB S (ks.take k))) ∧ Hid (Below w1.heap.size w1 wr)) (fun _ s6 _ => sz - (intOf s6).toNat)
  case atStart => exact ⟨0, _, _, _, rfl, rfl, Nat.zero_le _, HI2.out, HB2.out⟩
  case round =>
    clear HI2 HB2
    obtain ⟨k, p, m, c, rfl, rfl, hkn, HI, HB⟩ := hrel
    by_cases hlt : k < sz
    · obtain ⟨b, hb⟩ : ∃ b, ks[k]? = some b := ⟨_, List.getElem?_eq_getElem (by have := HSZ.out; omega)⟩
      obtain ⟨ga, rfl⟩ := HPA.out (by omega)
      have hlz : (k : Int) < (sz : Int) := by omega
      have hbm := (HKA.out.mem b).1 (List.mem_of_getElem? hb)
      obtain ⟨x, hx⟩ : ∃ x : Tx, x = C.txOf b := ⟨_, rfl⟩
      have HA : Hid (∀ W, Below wr.heap.size wr W → W.cell? ⟨ga, k, none⟩ = some (.string x)) := fun W hW => by rw [hx]; exact OwnS.nth (HOA.out.below (bt HB.out hW)) hb
      have hx1 : S.th x ≠ [] := by rw [hx]; exact hbm.1
      have HXS : Hid (x.size ≤ 100) := HSH.out x hx1
      have HXM : Hid (x.size ≤ maxLen) := Nat.le_trans HXS.out (by decide)
      have HDN : Hid (C.rowsB S (ks.take (k + 1)) = C.rowsB S (ks.take k) ++ ((C.byt x.data.toList ++ C.num ((S.th x).length : Nat)) ++ C.dbytes (S.th x))) := by
        show _ = _
        rw [C.take_snoc1 hb, C.rows_snoc, ← hx]; rfl
      have HMX : Hid (∀ d ∈ S.th x, C.may d = true) := HMY.out x
      obtain ⟨l, hll⟩ : ∃ l, l = S.th x := ⟨_, rfl⟩
      have HDX : Hid (Calls Try.prog 23 #[.pointer (some ⟨g, 0, none⟩), .string x] wr fun e w' => (∃ v', e = .returned v' ∧ OwnD w' v' l) ∧ Below wr.heap.size wr w') := by rw [hll]; exact HDOTS.out wr x (bt HB1.out HB.out) HXM.out
      have hl600 := HFW.out x
      rw [← hll] at HDN HMX hl600
      clear hb hbm hx hx1 hll
      obtain ⟨nd, hnd⟩ : ∃ nd, nd = l.length := ⟨_, rfl⟩
      have HND : Hid (nd = l.length) := hnd
      rw [← hnd] at HDN hl600
      clear hnd
      obtain ⟨l0, e0⟩ : ∃ l0, l0 = pn ++ C.rowsB S (ks.take k) := ⟨_, rfl⟩
      obtain ⟨l1, e1⟩ : ∃ l1, l1 = l0 ++ C.byt x.data.toList := ⟨_, rfl⟩
      obtain ⟨l2, e2⟩ : ∃ l2, l2 = l1 ++ C.num (nd : Nat) := ⟨_, rfl⟩
      have E1 : Hid (l0 ++ C.byt x.data.toList = l1) := e1.symm
      have E2 : Hid (l2 = l1 ++ C.num (nd : Nat)) := e2
      have HE3 : Hid (pn ++ C.rowsB S (ks.take (k + 1)) = l2 ++ C.dbytes l) := by
        show _ = _
        rw [HDN.out, e2, e1, e0]
        simp only [List.append_assoc]
      have HLA : Hid ((l2 ++ C.dbytes l).length ≤ 84010) := by
        have h1 := HKB.out (k + 1)
        have h2 := HPL.out
        show _ ≤ _
        rw [← HE3.out, List.length_append]; omega
      have HL2 : Hid (l2.length ≤ 84010) := by have h1 := HLA.out; rw [List.length_append] at h1; show _ ≤ _; omega
      have HL1 : Hid (l1.length ≤ 84010) := by have h1 := HL2.out; rw [e2, List.length_append] at h1; show _ ≤ _; omega
      have HL0 : Hid (l0.length ≤ 84010) := by have h1 := HL1.out; rw [e1, List.length_append] at h1; show _ ≤ _; omega
      rw [← e0] at HI
      clear e0 e1 e2 HDN
      have a0 := HA.out wr (Below.refl _ _)
      go_wp2_with fail
      refine HDX.out.mono ?_
      rintro e w5 ⟨⟨v5, rfl, ho5⟩, hb5⟩
      obtain ⟨pd, cd, hv5⟩ := ho5.len
      rw [← HND.out] at hv5
      subst hv5
      have HO5 : Hid (OwnD w5 (.slice pd nd cd) l) := ho5
      have HB5 : Hid (Below wr.heap.size wr w5) := hb5
      clear ho5 hb5 a0
      have a5 := HA.out w5 HB5.out
      obtain ⟨p6, n6, c6, w6, hcv, hi6, hb6⟩ := conv_bytes w5 x HXM.out
      have HI6 : Hid (Is w6 p6 n6 c6 x.data.toList) := hi6
      have HB6 : Hid (Below w5.heap.size w5 w6) := hb6
      clear hi6 hb6
      go_wp2_with fail
      refine (qbytes_at p m c l0 p6 n6 c6 x.data.toList w6 (HI.out.below (bt HB5.out HB6.out)) HI6.out (by have := HL0.out; omega) (by have := HXS.out; simpa using Nat.le_trans this (by decide))).mono ?_
      rintro e w7 ⟨⟨p7, n7, c7, rfl, hi7⟩, hb7⟩
      rw [E1.out] at hi7
      have HI7 : Hid (Is w7 p7 n7 c7 l1) := hi7
      have HB7 : Hid (Below w5.heap.size w5 w7) := bt HB6.out hb7
      clear hi7 hb7 hcv a5 HI6 HB6
      go_wp2_with fail
      refine (qnum_at p7 n7 c7 l1 l2 (nd : Int) w7 HI7.out ⟨by omega, by omega⟩ (by have := HL1.out; omega) E2.out).mono ?_
      rintro e w8 ⟨⟨p8, n8, c8, rfl, hi8⟩, hb8⟩
      have HI8 : Hid (Is w8 p8 n8 c8 (l2 ++ C.dbytes (l.take 0))) := by show Is _ _ _ _ _; simpa [C.dbytes] using hi8
      have HB8 : Hid (Below w5.heap.size w5 w8) := bt HB7.out hb8
      clear hi8 hb8 HI7 HB7
      have HBW : Hid (Below w1.heap.size w1 w5) := bt HB.out HB5.out
      clear HA HI HB HB5 HDX
      go_wp2_with fail
      go_loopw [1, 8] (fun s1 s8 wr => ∃ (j : Nat) (p : Option Addr) (m c : Nat), s1 = .slice p m c ∧ s8 = .int .i64 j ∧ j ≤ nd ∧ Hid (Is wr p m c (l2 ++ C.dbytes (l.take j))) ∧ Hid (Below w5.heap.size w5 wr)) (fun _ s8 _ => nd - (intOf s8).toNat)
      case atStart => exact ⟨0, _, _, _, rfl, rfl, Nat.zero_le _, HI8.out, HB8.out⟩
      case round =>
        clear HI8 HB8
        obtain ⟨j, q, mq, cq, rfl, rfl, hjn, HI, HB⟩ := hrel
        by_cases hlt2 : j < nd
        · obtain ⟨y, hy⟩ : ∃ y, l[j]? = some y := ⟨_, List.getElem?_eq_getElem (by have := HND.out; omega)⟩
          have HFX : Hid (C.fits y.1 ∧ C.fits y.2) := C.may_fits (HMX.out y (List.mem_of_getElem? hy))
          obtain ⟨gb, cap, hvs⟩ := HO5.out.at (by have := HND.out; omega)
          rw [← HND.out] at hvs
          cases hvs
          have hjz : (j : Int) < (nd : Int) := by omega
          have HDN : Hid (C.dbytes (l.take (j + 1)) = C.dbytes (l.take j) ++ (C.num y.1 ++ C.num y.2)) := by show _ = _; rw [C.take_snoc1 hy, C.dbytes_snoc]
          have HTK : Hid ((l2 ++ C.dbytes (l.take j)).length ≤ 84010) := by
            have h1 := HLA.out
            have h2 : C.dbytes l = C.dbytes (l.take j) ++ C.dbytes (l.drop j) := by
              have h3 : C.dbytes (l.take j ++ l.drop j) = C.dbytes (l.take j) ++ C.dbytes (l.drop j) := by simp only [C.dbytes, List.flatMap_append]
              rw [List.take_append_drop] at h3
              exact h3
            show _ ≤ _
            rw [h2] at h1
            simp only [List.length_append] at h1 ⊢
            omega
          obtain ⟨m0, e0⟩ : ∃ m0, m0 = l2 ++ C.dbytes (l.take j) := ⟨_, rfl⟩
          obtain ⟨m1, e1⟩ : ∃ m1, m1 = m0 ++ C.num y.1 := ⟨_, rfl⟩
          obtain ⟨m2, e2⟩ : ∃ m2, m2 = m1 ++ C.num y.2 := ⟨_, rfl⟩
          rw [← e0] at HTK
          have HM1 : Hid (m1.length ≤ 84020) := by have h1 := HTK.out; have h2 := (C.num_ten HFX.out.1).2; show _ ≤ _; rw [e1, List.length_append]; omega
          have HM2 : Hid (l2 ++ C.dbytes (l.take (j + 1)) = m2) := by show _ = m2; rw [HDN.out, e2, e1, e0]; simp only [List.append_assoc]
          have F1 : Hid (m1 = m0 ++ C.num y.1) := e1
          have F2 : Hid (m2 = m1 ++ C.num y.2) := e2
          rw [← e0] at HI
          have hne : Nonempty (NewW wr) := ⟨NewW.start wr⟩
          have u0 : ∀ t : NewW wr, t.v.cell? ⟨gb, j * 2, none⟩ = some (.int .i64 y.1) := fun t => (OwnD.cell (HO5.out.below (bt HB.out t.h)) j y hy).1
          have u1 : ∀ t : NewW wr, t.v.cell? ⟨gb, j * 2 + 1, none⟩ = some (.int .i64 y.2) := fun t => (OwnD.cell (HO5.out.below (bt HB.out t.h)) j y hy).2
          clear hy e0 e1 e2 HDN
          obtain ⟨d1, d2⟩ := y
          simp only at u0 u1
          go_wp2_with fail
          have hC : ∃ m : NewW wr, wr.drew = m.v := ⟨⟨wr.drew, (Below.refl _ wr).drew⟩, rfl⟩
          refine wp_region_held_drew (S := fun w' => ∃ m : NewW wr, w' = m.v) (by kernel_rfl) hC (fun _ => ?_)
          have hB : Below wr.heap.size wr wr.drew := (Below.refl _ wr).drew
          generalize hW0 : wr.drew = W0 at *
          clear hW0
          refine takeList (i := 0) rfl (by kernel_rfl) (by kernel_rfl) (by kernel_rfl) (fun _ _ _ _ h => h) rfl rfl hC (fun K hK => ?_)
          go_big_quiet_op
          refine hK _ ?_
          clear hK K
          refine takeList (i := 1) rfl (by kernel_rfl) (by kernel_rfl) (by kernel_rfl) (fun _ _ _ _ h => h) rfl rfl hC (fun K hK => ?_)
          go_big_quiet_op
          refine hK _ ?_
          clear hK K
          refine takeList (i := 2) rfl (by kernel_rfl) (by kernel_rfl) (by kernel_rfl) (fun _ _ _ _ h => h) rfl rfl hC (fun K hK => ?_)
          go_big_quiet_op
          refine hK _ ?_
          clear hK K
          refine takeList (i := 3) rfl (by kernel_rfl) (by kernel_rfl) (by kernel_rfl) (fun _ _ _ _ h => h) rfl rfl hC (fun K hK => ?_)
          go_big_quiet_op
          refine hK _ ?_
          clear hK K
          refine takeList (i := 4) rfl (by kernel_rfl) (by kernel_rfl) (by kernel_rfl) (fun _ _ _ _ h => h) rfl rfl hC (fun K hK => ?_)
          go_big_quiet_op
          refine hK _ ?_
          clear hK K
          refine takeList (i := 5) rfl (by kernel_rfl) (by kernel_rfl) (by kernel_rfl) (fun _ _ _ _ h => h) rfl rfl hC (fun K hK => ?_)
          go_big_quiet_op
          refine hK _ ?_
          clear hK K
          refine takeList (i := 7) rfl (by kernel_rfl) (by kernel_rfl) (by kernel_rfl) (fun _ _ _ _ h => h) rfl rfl hC (fun K hK => ?_)
          go_big_quiet_op
          refine hK _ ?_
          clear hK K
          refine takeList (i := 8) rfl (by kernel_rfl) (by kernel_rfl) (by kernel_rfl) (fun _ _ _ _ h => h) rfl rfl hC (fun K hK => ?_)
          go_big_quiet_op
          refine hK _ ?_
          clear hK K
          refine takeList (i := 9) rfl (by kernel_rfl) (by kernel_rfl) (by kernel_rfl) (fun _ _ _ _ h => h) rfl rfl hC (fun K hK => ?_)
          go_big_quiet_op
          refine hK _ ?_
          clear hK K
          refine takeList (i := 10) rfl (by kernel_rfl) (by kernel_rfl) (by kernel_rfl) (fun _ _ _ _ h => h) rfl rfl hC (fun K hK => ?_)
          go_big_quiet_op
          refine hK _ ?_
          clear hK K
          refine takeList (i := 11) rfl (by kernel_rfl) (by kernel_rfl) (by kernel_rfl) (fun _ _ _ _ h => h) rfl rfl hC (fun K hK => ?_)
          go_big_quiet_op
          refine hK _ ?_
          clear hK K
          clear u0 u1
          refine callList (i := 6) rfl (by kernel_rfl) rfl (fun K hK => ?_)
          go_simp
          refine (qnum_at q mq cq m0 m1 d1 _ (Is.below HI.out hB) HFX.out.1 (by have := HTK.out; omega) F1.out).mono ?_
          rintro e w3 ⟨⟨p3, n3, k3, rfl, hi3⟩, hb3⟩
          replace hB := bt hB hb3
          refine hK.out _ _ ⟨⟨_, hB⟩, rfl⟩ ?_
          go_simp
          clear hK K hC hb3
          have hC : ∃ m : NewW wr, w3 = m.v := ⟨⟨_, hB⟩, rfl⟩
          refine callList (i := 12) rfl (by kernel_rfl) rfl (fun K hK => ?_)
          go_simp
          refine (qnum_at p3 n3 k3 m1 m2 d2 _ hi3 HFX.out.2 (by have := HM1.out; omega) F2.out).mono ?_
          rintro e w4 ⟨⟨p4, n4, k4, rfl, hi4⟩, hb4⟩
          have hB4 := bt hB hb4
          refine hK.out _ _ ⟨⟨_, hB4⟩, rfl⟩ ?_
          go_simp
          clear hK K hC hb4 hB hi3
          have hC : ∃ m : NewW wr, w4 = m.v := ⟨⟨_, hB4⟩, rfl⟩
          refine takeList (i := 13) rfl (by kernel_rfl) (by kernel_rfl) (by kernel_rfl) (fun _ _ _ _ h => h) rfl rfl hC (fun K hK => ?_)
          go_big_quiet_op
          refine hK _ ?_
          clear hK K
          clear hC hne
          refine wpAnyH_done (by kernel_rfl) ?_ _
          have HI4 : Hid (Is w4 p4 n4 k4 m2) := hi4
          have HB4 : Hid (Below w5.heap.size w5 w4) := bt HB.out hB4
          clear hi4 hB4
          go_wp2
          go_roundw
          case rel => exact ⟨j + 1, _, _, _, rfl, by go_num, by omega, by show Is _ _ _ _ _; rw [HM2.out]; exact HI4.out, HB4.out⟩
          case measure => simp [intOf]; omega
        · obtain rfl : j = nd := by omega
          have htk : l.take j = l := List.take_of_length_le (by have := HND.out; omega)
          rw [htk, ← HE3.out] at HI
          clear htk
          have HBX : Hid (Below w1.heap.size w1 wr) := bt HBW.out HB.out
          go_wp2
          go_roundw
          case rel => exact ⟨k + 1, _, _, _, rfl, by go_num, by omega, HI.out, HBX.out⟩
          case measure => simp [intOf]; omega
    · obtain rfl : k = sz := by omega
      have htk : ks.take k = ks := List.take_of_length_le (by have := HSZ.out; omega)
      rw [htk, HPB.out] at HI
      clear htk
      go_wp2
      go_ret
      exact ⟨⟨_, _, _, ks, rfl, HKA.out, HI.out⟩, bt HB1.out HB.out⟩
end Go.Proofs.Ytoglhhoniojbaaa

namespace Go.Proofs.Ytoglhhoniojbaaa
open Go.RowKit Go.Lib
set_option linter.unusedVariables false

theorem OObjs.stepK {w0 w w' : World} {Q1 Q2 : List OObj} {g n n' : Nat} {L : OLay} {S S' : C.Os} (h : OObjs w0 w (Q1 ++ ⟨g, n, L, S⟩ :: Q2)) (hs : S'.Ok) (hr : SetRet w g L S n' S' w') : ∃ L', OObjs w0 w' (Q1 ++ ⟨g, n', L', S'⟩ :: Q2) ∧ ∀ b, L'.foot g S' b → L.foot g S b ∨ w.heap.size ≤ b := by
  obtain ⟨⟨L', h1, hge⟩, ht⟩ := hr
  have hx := h.at_ ⟨g, n, L, S⟩ (by simp)
  obtain ⟨p1, p2, p3⟩ := List.pairwise_append.1 h.apart
  obtain ⟨p4, p5⟩ := List.pairwise_cons.1 p2
  have hwb := h.bel.size
  have old : ∀ o ∈ Q1 ++ Q2, SetAt w o.g o.n o.L o.S ∧ o.S.Ok ∧ (∀ b, o.L.foot o.g o.S b → w0.heap.size ≤ b) ∧ ∀ b, o.L.foot o.g o.S b → ¬ L.foot g S b := fun o ho => by
    rcases List.mem_append.1 ho with ho | ho
    · have := h.at_ o (by simp [ho])
      exact ⟨this.1, this.2.1, this.2.2, fun b hb => p3 o ho ⟨g, n, L, S⟩ (by simp) b hb⟩
    · have := h.at_ o (by simp [ho])
      exact ⟨this.1, this.2.1, this.2.2, fun b hb hb' => p4 o ho b hb' hb⟩
  have new : ∀ o ∈ Q1 ++ Q2, ∀ b, o.L.foot o.g o.S b → ¬ L'.foot g S' b := fun o ho b hb hb' => by
    obtain ⟨a1, _, _, a4⟩ := old o ho
    rcases hge b hb' with k | k
    · exact a4 b hb k
    · have := a1.lt hb; omega
  refine ⟨L', ⟨fun o ho => ?_, ?_, ?_⟩, hge⟩
  · have : o = ⟨g, n', L', S'⟩ ∨ o ∈ Q1 ++ Q2 := by
      simp only [List.mem_append, List.mem_cons] at ho ⊢
      rcases ho with ho | ho | ho
      · exact Or.inr (Or.inl ho)
      · exact Or.inl ho
      · exact Or.inr (Or.inr ho)
    rcases this with rfl | ho'
    · refine ⟨h1, hs, fun b hb => ?_⟩
      rcases hge b hb with k | k
      · exact hx.2.2 b k
      · omega
    · obtain ⟨a1, a2, a3, a4⟩ := old o ho'
      exact ⟨a1.same fun b hb => ht.block b (a1.lt hb) (a4 b hb), a2, a3⟩
  · refine List.pairwise_append.2 ⟨p1, List.pairwise_cons.2 ⟨fun o ho b hb hb' => new o (by simp [ho]) b hb' hb, p5⟩, fun o ho p hp b hb hb' => ?_⟩
    rcases List.mem_cons.1 hp with rfl | hp
    · exact new o (by simp [ho]) b hb hb'
    · exact p3 o ho p (by simp [hp]) b hb hb'
  · exact h.bel.trans (ht.below hwb hx.2.2)
/-- No set of these holds block b. -/
def OFree (Q : List OObj) (b : Nat) : Prop := ∀ o ∈ Q, ¬ o.L.foot o.g o.S b
def Kept (w w' : World) (Q Q' : List OObj) : Prop := w.heap.size ≤ w'.heap.size ∧ ∀ b, b < w.heap.size → OFree Q b → w'.heap[b]? = w.heap[b]? ∧ OFree Q' b
theorem kept_of {w0 w w' : World} {Q1 Q2 : List OObj} {g n n' : Nat} {L : OLay} {S S' : C.Os} (h : OObjs w0 w (Q1 ++ ⟨g, n, L, S⟩ :: Q2)) (hs : S'.Ok) (hr : SetRet w g L S n' S' w') : ∃ L', OObjs w0 w' (Q1 ++ ⟨g, n', L', S'⟩ :: Q2) ∧ Kept w w' (Q1 ++ ⟨g, n, L, S⟩ :: Q2) (Q1 ++ ⟨g, n', L', S'⟩ :: Q2) := by
  have ht := hr.2
  obtain ⟨L', h1, h2⟩ := h.stepK hs hr
  refine ⟨L', h1, ht.size, fun b hb hf => ?_⟩
  have hg := hf ⟨g, n, L, S⟩ (by simp)
  refine ⟨ht.block b hb hg, fun o ho => ?_⟩
  have : o = ⟨g, n', L', S'⟩ ∨ o ∈ Q1 ++ Q2 := by
    simp only [List.mem_append, List.mem_cons] at ho ⊢
    rcases ho with ho | ho | ho
    · exact Or.inr (Or.inl ho)
    · exact Or.inl ho
    · exact Or.inr (Or.inr ho)
  rcases this with rfl | ho'
  · intro hb'
    rcases h2 b hb' with k | k
    · exact hg k
    · omega
  · refine hf o ?_
    simp only [List.mem_append, List.mem_cons] at ho' ⊢
    rcases ho' with ho' | ho'
    · exact Or.inl ho'
    · exact Or.inr (Or.inr ho')
theorem Kept.act {w w' : World} {Q Q' : List OObj} (h : Kept w w' Q Q') {b : Nat} (hb : b < w.heap.size) (hf : OFree Q b) {a : ActO} (ha : AtO a b 0 w) : AtO a b 0 w' ∧ OFree Q' b ∧ b < w'.heap.size := by
  obtain ⟨h1, h2⟩ := h.2 b hb hf
  refine ⟨fun j u hu => ?_, h2, Nat.lt_of_lt_of_le hb h.1⟩
  rw [← ha j u hu]
  unfold World.cell?
  rw [h1]
theorem k_add (Q1 Q2 : List OObj) {w0 w : World} (g n : Nat) (L : OLay) (S : C.Os) (x : Tx) (d1 d2 : Int) (h : OObjs w0 w (Q1 ++ ⟨g, n, L, S⟩ :: Q2)) (hn : n + 2 < maxLen) (hx : x.size ≤ maxLen) (hl : C.Few S 100000) :
    Calls Try.prog 12 #[.pointer (some ⟨g, 0, none⟩), .agg #[.int .i64 d1, .int .i64 d2], .string x] w fun e w' => ∃ er, e = .returned (.int .i64 er) ∧ ∃ L', OObjs w0 w' (Q1 ++ ⟨g, n + 2, L', C.addO S (d1, d2) x⟩ :: Q2) ∧ Kept w w' (Q1 ++ ⟨g, n, L, S⟩ :: Q2) (Q1 ++ ⟨g, n + 2, L', C.addO S (d1, d2) x⟩ :: Q2) := by
  obtain ⟨h1, h2⟩ := h.get
  refine (oadd_any w g n L S x (d1, d2) h1 h2 hn hx (hl x)).mono ?_
  rintro e w' ⟨rfl, hr⟩
  exact ⟨_, rfl, kept_of h (C.addO_ok h2 _ _) hr⟩
theorem k_rem (Q1 Q2 : List OObj) {w0 w : World} (g n : Nat) (L : OLay) (S : C.Os) (x : Tx) (c : V7) (h : OObjs w0 w (Q1 ++ ⟨g, n, L, S⟩ :: Q2)) (hn : n + 2 < maxLen) (hx : x.size ≤ maxLen) (hl : C.Few S 100000) :
    Calls Try.prog 11 #[.pointer (some ⟨g, 0, none⟩), .string x, c.v] w fun e w' => ∃ er, e = .returned (.int .i64 er) ∧ ∃ L', OObjs w0 w' (Q1 ++ ⟨g, n + 2, L', C.remO S x c⟩ :: Q2) ∧ Kept w w' (Q1 ++ ⟨g, n, L, S⟩ :: Q2) (Q1 ++ ⟨g, n + 2, L', C.remO S x c⟩ :: Q2) := by
  obtain ⟨h1, h2⟩ := h.get
  refine (orem_any w g n L S x c h1 h2 hn hx (hl x)).mono ?_
  rintro e w' ⟨rfl, hr⟩
  exact ⟨_, rfl, kept_of h (C.remO_ok h2 _ _) hr⟩
/-- A block behind all sets. -/
theorem free_new {w0 w : World} {Q : List OObj} (h : OObjs w0 w Q) {b : Nat} (hb : w.heap.size ≤ b) : OFree Q b := fun o ho hf => by
  have := (h.at_ o ho).1.lt hf
  omega
end Go.Proofs.Ytoglhhoniojbaaa

namespace Go.Proofs.Ytoglhhoniojbaaa
open Go.RowKit Go.Lib Go.Sort Go.Shelf
set_option linter.unusedVariables false

structure OTwo (w0 w : World) (g n : Nat) (L : OLay) (S : C.Os) (gr : Nat) (vl vr : Value) (R : C.Rf) : Prop where
  s : SetAt w g n L S
  ok : S.Ok
  r : RsAt w gr vl vr R
  sg : ∀ b, L.foot g S b → w0.heap.size ≤ b
  rg : ∀ b, rfoot gr vl vr b → w0.heap.size ≤ b
  ap : ∀ b, L.foot g S b → ¬ rfoot gr vl vr b
  bel : Below w0.heap.size w0 w
/-- A block that neither holds. -/
def OutB (w : World) (g : Nat) (L : OLay) (S : C.Os) (gr : Nat) (vl vr : Value) (b : Nat) : Prop := b < w.heap.size ∧ ¬ L.foot g S b ∧ ¬ rfoot gr vl vr b
theorem OTwo.below {w0 w w' : World} {g n : Nat} {L : OLay} {S : C.Os} {gr : Nat} {vl vr : Value} {R : C.Rf} (h : OTwo w0 w g n L S gr vl vr R) (hb : Below w.heap.size w w') : OTwo w0 w' g n L S gr vl vr R :=
  ⟨h.s.below hb, h.ok, h.r.below hb, h.sg, h.rg, h.ap, bt h.bel hb⟩
theorem OTwo.out_new {w0 w w' : World} {g n : Nat} {L : OLay} {S : C.Os} {gr : Nat} {vl vr : Value} {R : C.Rf} (h : OTwo w0 w g n L S gr vl vr R) {b : Nat} (hb : w.heap.size ≤ b) (hb' : b < w'.heap.size) : OutB w' g L S gr vl vr b :=
  ⟨hb', fun k => by have := h.s.lt k; omega, fun k => by have := h.r.lt k; omega⟩
theorem OTwo.stepS {w0 w w' : World} {g n n' : Nat} {L : OLay} {S S' : C.Os} {gr : Nat} {vl vr : Value} {R : C.Rf} (h : OTwo w0 w g n L S gr vl vr R) (hok : S'.Ok) (hr : SetRet w g L S n' S' w') :
    ∃ L', OTwo w0 w' g n' L' S' gr vl vr R ∧ ∀ b, OutB w g L S gr vl vr b → w'.heap[b]? = w.heap[b]? ∧ OutB w' g L' S' gr vl vr b := by
  obtain ⟨⟨L', h1, hge⟩, ht⟩ := hr
  have hsz := h.bel.size
  refine ⟨L', ⟨h1, hok, h.r.same fun b hb => ht.block b (h.r.lt hb) fun k => h.ap b k hb, fun b hb => ?_, h.rg, fun b hb hb2 => ?_, h.bel.trans (ht.below hsz h.sg)⟩, fun b ⟨hlt, k1, k2⟩ => ⟨ht.block b hlt k1, Nat.lt_of_lt_of_le hlt ht.size, fun k => ?_, k2⟩⟩
  · rcases hge b hb with k | k
    · exact h.sg b k
    · omega
  · rcases hge b hb with k | k
    · exact h.ap b k hb2
    · have := h.r.lt hb2; omega
  · rcases hge b k with k | k
    · exact k1 k
    · omega
theorem OTwo.stepR {w0 w w' : World} {g n : Nat} {L : OLay} {S : C.Os} {gr : Nat} {vl vr : Value} {R R' : C.Rf} (h : OTwo w0 w g n L S gr vl vr R) (hr : RsRet w gr vl vr R' w') :
    ∃ vl' vr', OTwo w0 w' g n L S gr vl' vr' R' ∧ ∀ b, OutB w g L S gr vl vr b → w'.heap[b]? = w.heap[b]? ∧ OutB w' g L S gr vl' vr' b := by
  obtain ⟨⟨vl', vr', h1, hge⟩, ht⟩ := hr
  have hsz := h.bel.size
  have hgr : ∀ b, L.foot g S b → b ≠ gr := fun b hb e => h.ap b hb (Or.inl e)
  refine ⟨vl', vr', ⟨h.s.same fun b hb => ht.block b (h.s.lt hb) (hgr b hb), h.ok, h1, h.sg, fun b hb => ?_, fun b hb hb2 => ?_, h.bel.trans (ht.below hsz fun b hb => h.rg b (Or.inl hb))⟩, fun b ⟨hlt, k1, k2⟩ => ⟨ht.block b hlt fun e => k2 (Or.inl e), Nat.lt_of_lt_of_le hlt ht.size, k1, fun k => ?_⟩⟩
  · rcases hge b hb with k | k
    · exact h.rg b k
    · omega
  · rcases hge b hb2 with k | k
    · exact h.ap b hb k
    · have := h.s.lt hb; omega
  · rcases hge b k with k | k
    · exact k2 k
    · omega
theorem OTwo.start {w0 w : World} {g n : Nat} {L : OLay} {S : C.Os} (h : OObjs w0 w [⟨g, n, L, S⟩]) : OTwo w0 (w.alloc (.cells #[.slice none 0 0, .slice none 0 0] 40)) g n L S w.heap.size (.slice none 0 0) (.slice none 0 0) C.Rf.zero := by
  have h1 := h.at_ ⟨g, n, L, S⟩ (by simp)
  have hsz := h.bel.size
  have hrf : ∀ b, rfoot w.heap.size (.slice none 0 0) (.slice none 0 0) b → b = w.heap.size := fun b hb => by
    rcases hb with hb | hb | hb
    · exact hb
    · cases hb
    · cases hb
  exact ⟨h1.1.below (below_new _ _), h1.2.1, ⟨heap_alloc_new _ _, OwnG.nil _ _ _, OwnG.nil _ _ _⟩, h1.2.2, fun b hb => by rw [hrf b hb]; exact hsz, fun b hb hb2 => by have k1 := hrf b hb2; have k2 := h1.1.lt hb; omega, bt h.bel (below_new _ _)⟩
section
variable {w0 w : World} {g n : Nat} {L : OLay} {S : C.Os} {gr : Nat} {vl vr : Value} {R : C.Rf}
theorem t_add (h : OTwo w0 w g n L S gr vl vr R) (x : Tx) (d1 d2 : Int) (hn : n + 2 < maxLen) (hx : x.size ≤ maxLen) (hl : C.Few S 100000) :
    Calls Try.prog 12 #[.pointer (some ⟨g, 0, none⟩), .agg #[.int .i64 d1, .int .i64 d2], .string x] w fun e w' => e = .returned (.int .i64 (C.errO S (d1, d2) x)) ∧ ∃ L', OTwo w0 w' g (n + 2) L' (C.addO S (d1, d2) x) gr vl vr R ∧ ∀ b, OutB w g L S gr vl vr b → w'.heap[b]? = w.heap[b]? ∧ OutB w' g L' (C.addO S (d1, d2) x) gr vl vr b :=
  (oadd_any w g n L S x (d1, d2) h.s h.ok hn hx (hl x)).mono fun e w' ⟨he, hr⟩ => ⟨he, h.stepS (C.addO_ok h.ok _ _) hr⟩
theorem t_rem (h : OTwo w0 w g n L S gr vl vr R) (x : Tx) (c : V7) (hn : n + 2 < maxLen) (hx : x.size ≤ maxLen) (hl : C.Few S 100000) :
    Calls Try.prog 11 #[.pointer (some ⟨g, 0, none⟩), .string x, c.v] w fun e w' => e = .returned (.int .i64 (C.errR x c)) ∧ ∃ L', OTwo w0 w' g (n + 2) L' (C.remO S x c) gr vl vr R ∧ ∀ b, OutB w g L S gr vl vr b → w'.heap[b]? = w.heap[b]? ∧ OutB w' g L' (C.remO S x c) gr vl vr b :=
  (orem_any w g n L S x c h.s h.ok hn hx (hl x)).mono fun e w' ⟨he, hr⟩ => ⟨he, h.stepS (C.remO_ok h.ok _ _) hr⟩
theorem t_radd (h : OTwo w0 w g n L S gr vl vr R) (x : Tx) (d1 d2 er : Int) (hx : x.size ≤ maxLen) (hl : R.l.length ≤ 1000 ∧ R.r.length ≤ 1000) (he : C.errF R (d1, d2) x = er) :
    Calls Try.prog 16 #[.pointer (some ⟨gr, 0, none⟩), .agg #[.int .i64 d1, .int .i64 d2], .string x] w fun e w' => e = .returned (.int .i64 er) ∧ ∃ vl' vr', OTwo w0 w' g n L S gr vl' vr' (C.addF R (d1, d2) x) ∧ ∀ b, OutB w g L S gr vl vr b → w'.heap[b]? = w.heap[b]? ∧ OutB w' g L S gr vl' vr' b :=
  (qadd_any w gr vl vr R x d1 d2 h.r hx hl).mono fun e w' ⟨h1, hr⟩ => ⟨by rw [h1, he], h.stepR hr⟩
theorem t_rrem (h : OTwo w0 w g n L S gr vl vr R) (x : Tx) (v : V7) (hx : x.size ≤ maxLen) (hl : R.l.length ≤ 1000 ∧ R.r.length ≤ 1000) :
    Calls Try.prog 17 #[.pointer (some ⟨gr, 0, none⟩), .string x, v.v] w fun e w' => e = .returned (.int .i64 (C.errR x v)) ∧ ∃ vl' vr', OTwo w0 w' g n L S gr vl' vr' (C.remF R x v) ∧ ∀ b, OutB w g L S gr vl vr b → w'.heap[b]? = w.heap[b]? ∧ OutB w' g L S gr vl' vr' b :=
  (qrem_any w gr vl vr R x v h.r hx hl).mono fun e w' ⟨h1, hr⟩ => ⟨h1, h.stepR hr⟩
theorem t_all (h : OTwo w0 w g n L S gr vl vr R) (hn : n ≤ 1000000) :
    Calls Try.prog 19 #[.pointer (some ⟨g, 0, none⟩)] w fun e w' => (∃ v ks, e = .returned v ∧ IsAll S ks ∧ TAt w' v ks) ∧ Below w.heap.size w w' :=
  (all_of w g n L S h.s hn).mono fun e w' ⟨⟨v, ks, he, hk, ho⟩, hb⟩ => ⟨⟨v, ks, he, hk, ho.at⟩, hb⟩
theorem t_rall (h : OTwo w0 w g n L S gr vl vr R) (hrel : C.RelF S R) (hs : ∀ x, S.th x ≠ [] → x.size ≤ 100) (hl : R.l.length ≤ 1000) {ks : List (List UInt8)} (hk : IsAll S ks) :
    Calls Try.prog 20 #[.pointer (some ⟨gr, 0, none⟩)] w fun e w' => (∃ v, e = .returned v ∧ TAt w' v ks ∧ ks.length ≤ 1000000) ∧ Below w.heap.size w w' :=
  (qall_any w gr vl vr R h.r hl).mono fun e w' ⟨⟨v, he, ho, _⟩, hb⟩ => by
    have e1 := IsAll.uniq hk (all_rel hrel h.ok hs)
    have h1 := C.allF_len R.l []
    simp only [List.length_nil] at h1
    refine ⟨⟨v, he, ?_, ?_⟩, hb⟩
    · rw [e1]; exact ho.ownT.at
    · rw [e1]; omega
theorem t_dots (h : OTwo w0 w g n L S gr vl vr R) (x : Tx) (hx : x.size ≤ maxLen) (hl : C.Few S 100000) :
    Calls Try.prog 22 #[.pointer (some ⟨g, 0, none⟩), .string x] w fun e w' => (∃ v', e = .returned v' ∧ OwnD w' v' (S.th x)) ∧ Below w.heap.size w w' :=
  (dots_of w g n L S x h.s hx (by have := hl x; omega)).mono fun e w' ⟨⟨v, he, ho, _⟩, hb⟩ => ⟨⟨v, he, ho⟩, hb⟩
theorem t_rdots (h : OTwo w0 w g n L S gr vl vr R) (hrel : C.RelF S R) (x : Tx) (hx : x.size ≤ maxLen) (hl : R.l.length ≤ 1000) :
    Calls Try.prog 23 #[.pointer (some ⟨gr, 0, none⟩), .string x] w fun e w' => (∃ p c, e = .returned (.slice p (S.th x).length c) ∧ OwnD w' (.slice p (S.th x).length c) (S.th x)) ∧ Below w.heap.size w w' :=
  (qdots_any w gr vl vr R x h.r hx hl).mono fun e w' ⟨⟨v, he, ho, _⟩, hb⟩ => by
    rw [hrel.dots h.ok x] at ho
    obtain ⟨p, c, hv⟩ := ho.len
    subst hv
    exact ⟨⟨p, c, he, ho⟩, hb⟩
theorem t_has (h : OTwo w0 w g n L S gr vl vr R) (x : Tx) (z : Bool) (hx : x.size ≤ maxLen) (hl : C.Few S 100000) (hz : decide (0 < (S.th x).length) = z) :
    Calls Try.prog 13 #[.pointer (some ⟨g, 0, none⟩), .string x] w fun e w' => e = .returned (.bool z) ∧ Below w.heap.size w w' :=
  (has_of w g n L S x h.s hx (by have := hl x; omega) z hz).mono fun e w' ⟨he, hw⟩ => ⟨he, by rw [hw]; exact Below.refl _ _⟩
theorem t_put (h : OTwo w0 w g n L S gr vl vr R) {m : Nat} (ht : C.Tidy S m) (hm : m ≤ 600) (hn : n ≤ 1000000) {ks : List (List UInt8)} (hk : IsAll S ks) :
    Calls Try.prog 24 #[.pointer (some ⟨g, 0, none⟩), .slice none 0 0] w fun e w' => (∃ p n k, e = .returned (.slice p n k) ∧ ∀ W, Below w'.heap.size w' W → (convert 33 9 (.slice p n k)).run Try.prog W = .ok (.string ⟨(C.putB S ks).toArray⟩) W) ∧ Below w.heap.size w w' :=
  (oPut_obj w g n m L S none 0 0 [] h.s h.ok ht hm hn (Is.nil w) (by decide)).mono fun e w' ⟨⟨p, n, k, ks', he, hk', hi⟩, hb⟩ => by
    rw [IsAll.uniq hk' hk] at hi
    exact ⟨⟨p, n, k, he, fun W hW => conv_is (hi.below hW)⟩, hb⟩
theorem t_rput (h : OTwo w0 w g n L S gr vl vr R) (hrel : C.RelF S R) {m : Nat} (ht : C.Tidy S m) (hm : m ≤ 600) (hl : R.l.length ≤ 1000) {ks : List (List UInt8)} (hk : IsAll S ks) :
    Calls Try.prog 25 #[.pointer (some ⟨gr, 0, none⟩), .slice none 0 0] w fun e w' => (∃ p n k, e = .returned (.slice p n k) ∧ ∀ W, Below w'.heap.size w' W → (convert 33 9 (.slice p n k)).run Try.prog W = .ok (.string ⟨(C.putB S ks).toArray⟩) W) ∧ Below w.heap.size w w' :=
  (qput_any w gr vl vr R S m h.r hrel h.ok ht hm hl).mono fun e w' ⟨⟨p, n, k, ks', he, hk', hi⟩, hb⟩ => by
    rw [IsAll.uniq hk' hk] at hi
    exact ⟨⟨p, n, k, he, fun W hW => conv_is (hi.below hW)⟩, hb⟩
end
end Go.Proofs.Ytoglhhoniojbaaa
