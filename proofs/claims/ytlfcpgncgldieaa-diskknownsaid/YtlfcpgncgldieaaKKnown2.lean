/-
  DiskKnown: the walk.
-/
import Derived.Test.YtlfcpgncgldieaaKKnown
namespace Go.Proofs.Ytlfcpgncgldieaa
open Go.RowKit Go.Lib Go.Maps
open C (upd upd_same upd_other)
set_option linter.unusedVariables false

theorem bel_alike {B : Nat} {w w1 w2 : World} (h : Below B w w1) (a : w2.os = w1.os) (b : w2.tape = w1.tape) (c : w2.output = w1.output) (d : w2.heap = w1.heap) : Below B w w2 := ⟨a.trans h.os, b.trans h.tape, c.trans h.output, by rw [d]; exact h.size, fun k hk => by rw [d]; exact h.block k hk⟩
theorem zeros_ok (w : World) (n c : Nat) (hn : n ≤ maxLen) : Part.ok (w.alloc (.cells (madeCells #[.int .u8 0] n) 5)) ⟨some ⟨w.heap.size, 0, none⟩, List.replicate n 0, c⟩ := by
  have h := Own.made w 0 n (Nat.zero_le _) hn
  obtain ⟨p', c', hv, h1, h2⟩ := Own.part h
  cases hv
  exact ⟨h1, h2⟩
theorem ZAt.same {w w' : World} {b o : Nat} {l : List Int} (h : ZAt w (some ⟨b, o, none⟩) l) (hb : w'.heap[b]? = w.heap[b]?) : ZAt w' (some ⟨b, o, none⟩) l := fun hl => by
  obtain ⟨b', o', hp, hc⟩ := h hl
  cases hp
  refine ⟨b, o, rfl, fun i hi => ?_⟩
  rw [World.cell?_of_block (w := w) (a := ⟨b, o + i, none⟩) hb]; exact hc i hi
set_option maxRecDepth 100000 in
set_option maxHeartbeats 16000000 in
theorem known_any (w : World) : Calls Try.prog 3 #[] w fun e w' => e = .returned (.bool true) ∧ Below w.heap.size w w' := by
  have kc := fun (w : World) (C : Array Value) (n c : Nat) => Lib.run_convert_bytes_const (P := Try.prog) w 28 5 C n c Try.underlying28 Try.underlying5
  obtain ⟨i0, hi0, hz0, hz1, hz2⟩ := info_parts info_u8
  have hby : i0.bytes * 65 ≤ 281474976710656 := by rw [hz2]; decide
  go_enter Try.func3, Try.ntmps3
  go_wp2_with fail
  refine (awake_any w).mono ?_
  rintro e w1 ⟨rfl, hb1⟩
  have HB1 : Hid (Below w.heap.size w w1) := hb1
  clear hb1
  go_wp2_with fail
  refine (new_bad 63 w1 (by omega)).mono ?_
  rintro e w1' ⟨rfl, hw⟩
  subst w1'
  go_wp2_with fail
  refine (dk_new 64 w w1 HB1.out (by omega)).mono ?_
  rintro e w2 ⟨g, rfl, hd2, _⟩
  have HD2 : Hid (DK w w2 g (C.newS 64)) := hd2
  clear hd2 HB1
  go_wp2_with fail
  refine (dk_append_bad w w2 g _ (-1) 1 none 0 [] 0 HD2.out rfl (by decide) (by decide) (by decide)).mono ?_
  rintro e w3 ⟨rfl, hd3⟩
  have HD3 : Hid (DK w w3 g (C.newS 64)) := hd3
  clear hd3 HD2
  go_wp2_with fail
  refine (dk_append_bad w w3 g _ 1000 1 none 0 [] 0 HD3.out rfl (by decide) (by decide) (by decide)).mono ?_
  rintro e w4 ⟨rfl, hd4⟩
  have HD4 : Hid (DK w w4 g (C.newS 64)) := hd4
  clear hd4 HD3
  go_wp2_with (at_make; go_must (refine wpList_make_row _ rfl _ _ 28 rfl 5 i0 (.int .u8 0) Try.underlying28 hi0 hz0 hz1 rfl .i64 .i64 65 rfl rfl hby (by decide) ?_))
  refine (dk_append_bad w _ g _ 5 6 _ 65 (List.replicate 65 0) 65 (DK.alloc HD4.out _) (by decide) (by decide) (by decide) (by decide)).mono ?_
  rintro e w5 ⟨rfl, hd5⟩
  have HD5 : Hid (DK w w5 g (C.newS 64)) := hd5
  clear hd5 HD4
  go_wp2_with fail
  refine (dk_sync_none w w5 g _ 5 HD5.out (by decide) (by decide)).mono ?_
  rintro e w5' ⟨rfl, hw⟩
  subst w5'
  go_wp2_with fail
  refine (dk_append w _ g _ 9 _ 3 [97, 98, 99] _ (DK.alloc HD5.out _) rfl (lit_ok _ [97, 98, 99] _ _ (by decide)) rfl (by decide) (by decide)).mono ?_
  rintro e w6 ⟨rfl, hd6⟩
  have HD6 : Hid (DK w w6 g (C.appS (C.newS 64) 9 [97, 98, 99])) := hd6
  clear hd6 HD5
  go_wp2_with fail
  refine (dk_sync w w6 g _ 9 HD6.out (by decide) (by decide)).mono ?_
  rintro e w7 ⟨rfl, hd7⟩
  have HD7 : Hid (DK w w7 g kn1) := hd7
  clear hd7 HD6
  go_wp2_with fail
  refine (dk_spoil w w7 g _ 9 1 1 1 HD7.out (by decide) (by decide) (by decide) (by decide) (by decide)).mono ?_
  rintro e w8 ⟨rfl, hd8⟩
  have HD8 : Hid (DK w w8 g kn2) := hd8
  clear hd8 HD7
  go_wp2_with fail
  refine (dk_spoil_no w w8 g _ 9 3 1 1 HD8.out (by decide) (Or.inr (Or.inr (Or.inl (by decide +kernel))))).mono ?_
  rintro e w8' ⟨rfl, hw⟩
  subst w8'
  go_wp2_with fail
  refine (dk_spoil_no w w8 g _ 9 0 0 0 HD8.out (by decide) (Or.inr (Or.inr (Or.inr (by decide))))).mono ?_
  rintro e w8' ⟨rfl, hw⟩
  subst w8'
  go_wp2_with fail
  refine (kk_read w w8 _ g _ 9 0 [97, 99, 99] (DK.kk HD8.out) kn_b2.2 kn_b2.1).mono ?_
  rintro e w9 ⟨p9, n9, c9, rfl, ho9, hd9, _, _⟩
  have HD9 : Hid _ := hd9
  have HO9 : Hid _ := ho9
  clear hd9 HD8 ho9
  go_wp2_with fail
  refine (kk_append w w9 _ g _ 2 none 0 [] 0 HD9.out rfl (ok_nil _ _ _) (by decide) (by decide +kernel) (by decide)).mono ?_
  rintro e w10 ⟨rfl, hd10, hk10⟩
  have HD10 : Hid _ := hd10
  have HO10 : Hid (Own w10 0 (.slice p9 n9 c9) [97, 99, 99]) := Own.same HO9.out (fun b hb => hk10 b (Or.inr hb))
  clear hd10 hk10 HD9 HO9
  go_wp2_with fail
  refine (kk_files w w10 _ g kn3 [2, 9] HD10.out (by decide) kn_f3 (by decide)).mono ?_
  rintro e w11 ⟨jb, jo, jn, jc, rfl, hjn, hz11, hd11, _, hk11⟩
  have HD11 : Hid _ := hd11
  have HO11 : Hid (Own w11 0 (.slice p9 n9 c9) [97, 99, 99]) := Own.same HO10.out (fun b hb => hk11 b (Or.inr hb))
  have HZ11 : Hid _ := hz11
  have HJN : Hid _ := hjn
  clear hd11 hk11 HD10 HO10 hz11 hjn
  go_wp2_with fail
  refine (kk_crash w w11 _ g kn3 0 0 HD11.out (by decide) (by decide) (by decide) (by decide) (by decide)).mono ?_
  rintro e w12 ⟨rfl, hd12, hk12⟩
  have HD12 : Hid _ := hd12
  have HO12 : Hid (Own w12 0 (.slice p9 n9 c9) [97, 99, 99]) := Own.same HO11.out (fun b hb => hk12 b (Or.inl (Or.inr hb)))
  have HZ12 : Hid (ZAt w12 (some ⟨jb, jo, none⟩) [2, 9]) := ZAt.same HZ11.out (hk12 jb (Or.inr rfl))
  clear hd12 hk12 HD11 HO11 HZ11
  go_wp2_with fail
  refine (kk_files_off w w12 _ g _ HD12.out (by decide) kn_f3c).mono ?_
  rintro e w13 ⟨⟨kp, kcc, rfl⟩, hd13, hk13⟩
  have HD13 : Hid _ := hd13
  have HO13 : Hid (Own w13 0 (.slice p9 n9 c9) [97, 99, 99]) := Own.same HO12.out (fun b hb => hk13 b (Or.inl (Or.inr hb)))
  have HZ13 : Hid (ZAt w13 (some ⟨jb, jo, none⟩) [2, 9]) := ZAt.same HZ12.out (hk13 jb (Or.inr rfl))
  clear hd13 hk13 HD12 HO12 HZ12
  go_wp2_with fail
  refine (kk_on w w13 _ g _ HD13.out (by decide)).mono ?_
  rintro e w14 ⟨rfl, hd14, hk14⟩
  have HD14 : Hid _ := hd14
  have HO14 : Hid (Own w14 0 (.slice p9 n9 c9) [97, 99, 99]) := Own.same HO13.out (fun b hb => hk14 b (Or.inl (Or.inr hb)))
  have HZ14 : Hid (ZAt w14 (some ⟨jb, jo, none⟩) [2, 9]) := ZAt.same HZ13.out (hk14 jb (Or.inr rfl))
  clear hd14 hk14 HD13 HO13 HZ13
  go_wp2_with fail
  refine (kk_read w w14 _ g kn4 9 0 [97, 99, 99] HD14.out kn_b4.2 kn_b4.1).mono ?_
  rintro e w15 ⟨p15, n15, c15, rfl, ho15, hd15, _, hk15⟩
  have HD15 : Hid _ := hd15
  have HY15 : Hid _ := ho15
  have HO15 : Hid (Own w15 0 (.slice p9 n9 c9) [97, 99, 99]) := Own.same HO14.out (fun b hb => hk15 b (Or.inl (Or.inr hb)))
  have HZ15 : Hid (ZAt w15 (some ⟨jb, jo, none⟩) [2, 9]) := ZAt.same HZ14.out (hk15 jb (Or.inr rfl))
  clear hd15 hk15 HD14 HO14 HZ14 ho15
  go_wp2_with fail
  refine (kk_drop w w15 _ g kn4 9 HD15.out (by decide) (by decide)).mono ?_
  rintro e w16 ⟨rfl, hd16, hk16⟩
  have HD16 : Hid _ := hd16
  have HY16 : Hid (Own w16 0 (.slice p15 n15 c15) [97, 99, 99]) := Own.same HY15.out (fun b hb => hk16 b (Or.inr hb))
  have HO16 : Hid (Own w16 0 (.slice p9 n9 c9) [97, 99, 99]) := Own.same HO15.out (fun b hb => hk16 b (Or.inl (Or.inl (Or.inr hb))))
  have HZ16 : Hid (ZAt w16 (some ⟨jb, jo, none⟩) [2, 9]) := ZAt.same HZ15.out (hk16 jb (Or.inl (Or.inr rfl)))
  clear hd16 hk16 HD15 HO15 HZ15 HY15
  go_wp2_with fail
  refine (kk_drop_none w w16 _ g kn5 9 HD16.out (by decide) (by decide)).mono ?_
  rintro e w16' ⟨rfl, hw⟩
  subst w16'
  have k16 := conv_is (l := [97, 99, 99]) ⟨(Own.cap HO16.out).1, Own.okAt HO16.out (Own.cap HO16.out).1⟩
  go_wp2_with fail
  refine (ints_true _ _ _ _ _ _ [2, 9] _ HJN.out rfl (by decide) (ZAt.below HZ16.out (below_new _ _)) (zat_new w16 [2, 9] _)).mono ?_
  rintro e w17 ⟨rfl, z17, hw17⟩
  have hb17 : Below w16.heap.size w16 w17 := by rw [hw17]; exact bel_alike (below_new _ _) rfl rfl rfl rfl
  have hd17 := (DKK.below HD16.out hb17).1
  have HD17 : Hid _ := hd17
  have hy17 : Own w17 0 (.slice p15 n15 c15) [97, 99, 99] := Own.below HY16.out hb17
  have k17 := conv_is (l := [97, 99, 99]) ⟨(Own.cap hy17).1, Own.okAt hy17 (Own.cap hy17).1⟩
  clear hw17 hb17 hd17 hy17 HD16 HO16 HZ16 HY16 k16
  go_wp2_with fail
  refine (kk_files w w17 _ g kn5 [2] HD17.out (by decide) kn_f5 (by decide)).mono ?_
  rintro e w18 ⟨lb, lo, ln, lc, rfl, hln, hz18, hd18, _, _⟩
  have HD18 : Hid _ := hd18
  have HZ18 : Hid _ := hz18
  have HLN : Hid _ := hln
  clear hd18 hz18 hln HD17
  go_wp2_with fail
  refine (ints_true _ _ _ _ _ _ [2] _ HLN.out rfl (by decide) (ZAt.below HZ18.out (below_new _ _)) (zat_new w18 [2] _)).mono ?_
  rintro e w19 ⟨rfl, z19, hw19⟩
  have HB19 : Hid (Below w.heap.size w w19) := by
    have h1 := DK.bel (DKK.dk HD18.out)
    show Below _ _ _
    rw [hw19]
    exact bel_alike (bt h1 (below_new w18 _)) rfl rfl rfl rfl
  clear hw19
  go_wp2
  go_ret
  exact ⟨rfl, HB19.out⟩
end Go.Proofs.Ytlfcpgncgldieaa
