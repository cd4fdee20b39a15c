/-
  PackBack: numbers, bytes, texts that are written are read again, one behind the other.
-/
import Derived.Test.YtpkabcnlkdiajaaWRWrite
namespace Go.Proofs.Ytpkabcnlkdiajaa
open Go.RowKit Go.Lib
set_option linter.unusedVariables false

theorem refnum_is (pb : Option Addr) (nb cb : Nat) (lb : List UInt8) (v : Int) (w : World) (hb : Is w pb nb cb lb) (hv : C.fits v) (hl : lb.length ≤ 90000) :
    Calls Try.prog 21 #[.slice pb nb cb, .int .i64 v] w fun e w' => (∃ p n c, e = .returned (.slice p n c) ∧ Is w' p n c (lb ++ C.num v)) ∧ Below w.heap.size w w' := by
  refine (refnum_any pb nb cb lb v w hb hv hl).mono ?_
  rintro e w' ⟨⟨x, rfl, ho⟩, hb⟩
  obtain ⟨p, n, c, rfl, hi⟩ := Own.is ho
  exact ⟨⟨p, n, c, rfl, hi⟩, hb⟩
theorem refbytes_is (pb : Option Addr) (nb cb : Nat) (lb : List UInt8) (px : Option Addr) (nx cx : Nat) (lx : List UInt8) (w : World) (hb : Is w pb nb cb lb) (hx : Is w px nx cx lx) (hl : lb.length ≤ 40000) (hlx : lx.length ≤ 40000) :
    Calls Try.prog 22 #[.slice pb nb cb, .slice px nx cx] w fun e w' => (∃ p n c, e = .returned (.slice p n c) ∧ Is w' p n c (lb ++ C.byt lx)) ∧ Below w.heap.size w w' := by
  refine (refbytes_any pb nb cb lb px nx cx lx w hb hx hl hlx).mono ?_
  rintro e w' ⟨⟨x, rfl, ho⟩, hb⟩
  obtain ⟨p, n, c, rfl, hi⟩ := Own.is ho
  exact ⟨⟨p, n, c, rfl, hi⟩, hb⟩
theorem text_list (pb : Option Addr) (nb cb : Nat) (lb ls : List UInt8) (w : World) (hb : Is w pb nb cb lb) (hl : lb.length ≤ 40000) (hs : ls.length ≤ 40000) :
    Calls Try.prog 15 #[.slice pb nb cb, .string ⟨ls.toArray⟩] w fun e w' => (∃ p n c, e = .returned (.slice p n c) ∧ Is w' p n c (lb ++ C.byt ls)) ∧ Below w.heap.size w w' :=
  text_any pb nb cb lb ⟨ls.toArray⟩ w hb hl hs
theorem conv_list (w : World) (ls : List UInt8) (hs : ls.length ≤ maxLen) : ∃ p n c w1, (convert 9 25 (.string ⟨ls.toArray⟩)).run Try.prog w = .ok (.slice p n c) w1 ∧ Is w1 p n c ls ∧ Below w.heap.size w w1 :=
  conv_bytes w ⟨ls.toArray⟩ (by simpa [ByteArray.size] using hs)
theorem byt_len {l : List UInt8} (h : l.length ≤ 200) : (C.byt l).length ≤ 210 := by
  have := (C.num_ten (show C.fits (l.length : Int) from ⟨by omega, by omega⟩)).2
  rw [C.byt, List.length_append]; omega
theorem gdrew (w : World) (g : Nat) : w.grownBy w.drew (some g) := gbelow (Below.refl _ _).drew
set_option maxRecDepth 100000 in
set_option maxHeartbeats 8000000 in
theorem back_list (v : Int) (hv : C.fits v) (px : Option Addr) (lx : List UInt8) (cx : Nat) (ls : List UInt8) (hs : ls.length ≤ maxLen) (u : Int) (hu : C.fits u) (w : World) (hx : Arg w ⟨px, lx, cx⟩) :
    Calls Try.prog 5 #[.int .i64 v, .slice px lx.length cx, .string ⟨ls.toArray⟩, .int .i64 u] w fun e w' => e = .returned (.bool true) ∧ Below w.heap.size w w' := by
  have HV : Hid (C.fits v) := hv
  have HU : Hid (C.fits u) := hu
  have HX : Hid (Is w px lx.length cx lx) := ⟨rfl, hx.1⟩
  have hlx : lx.length ≤ 9223372036854775807 := Nat.le_trans hx.1.1 (by decide)
  have hls : ls.length ≤ 9223372036854775807 := Nat.le_trans hs (by decide)
  obtain ⟨nx, hnx⟩ : ∃ n, n = lx.length := ⟨_, rfl⟩
  have HNX : Hid (nx = lx.length) := hnx
  rw [← hnx] at HX hlx ⊢
  clear hx hnx hv hu hs
  go_enter Try.func5, Try.ntmps5
  go_wp2_with fail
  refine (awake_any w).mono ?_
  rintro e w1 ⟨rfl, h1⟩
  by_cases hx1 : (200 : Int) < nx
  · go_wp2
    go_ret
    exact ⟨rfl, h1⟩
  by_cases hs1 : (200 : Int) < ls.length
  · go_wp2
    go_ret
    exact ⟨rfl, h1⟩
  have HLX : Hid (lx.length ≤ 200) := by have := HNX.out; show _ ≤ _; omega
  have HLS : Hid (ls.length ≤ 200) := by show _ ≤ _; omega
  have HV10 : Hid ((C.num v).length ≤ 10) := (C.num_ten HV.out).2
  have HU10 : Hid ((C.num u).length ≤ 10) := (C.num_ten HU.out).2
  have HBX : Hid ((C.byt lx).length ≤ 210) := byt_len HLX.out
  have HBS : Hid ((C.byt ls).length ≤ 210) := byt_len HLS.out
  go_wp2_with fail
  refine (num_nil v _ w1 HV.out rfl).mono ?_
  rintro e w2 ⟨⟨p2, n2, c2, rfl, hi2⟩, h2⟩
  have HI2 : Hid _ := hi2
  clear hi2
  go_wp2_with fail
  refine (bytes_any p2 n2 c2 _ px nx cx lx w2 HI2.out (HX.out.below (bt h1 h2)) (Nat.le_trans HV10.out (by decide)) (Nat.le_trans HLX.out (by decide))).mono ?_
  rintro e w3 ⟨⟨p3, n3, c3, rfl, hi3⟩, h3⟩
  have HI3 : Hid _ := hi3
  clear hi3
  go_wp2_with fail
  refine (text_list p3 n3 c3 _ ls w3 HI3.out (by have := HV10.out; have := HBX.out; simp only [List.length_append]; omega) (Nat.le_trans HLS.out (by decide))).mono ?_
  rintro e w4 ⟨⟨p4, n4, c4, rfl, hi4⟩, h4⟩
  have HI4 : Hid _ := hi4
  clear hi4
  go_wp2_with fail
  refine (num_any p4 n4 c4 _ u w4 HI4.out HU.out (by have := HV10.out; have := HBX.out; have := HBS.out; simp only [List.length_append]; omega)).mono ?_
  rintro e w5 ⟨⟨p5, n5, c5, rfl, hi5⟩, h5⟩
  have HI5 : Hid _ := hi5
  have HB5 : Hid (Below w.heap.size w w5) := bt h1 (bt h2 (bt h3 (bt h4 h5)))
  clear hi5 h1 h2 h3 h4 h5 HI2 HI3 HI4
  go_wp2_with fail
  refine (refnum_is none 0 0 [] v w5 (Is.nil _) HV.out (by decide)).mono ?_
  rintro e w6 ⟨⟨p6, n6, c6, rfl, hi6⟩, h6⟩
  have HI6 : Hid _ := hi6
  clear hi6
  go_wp2_with fail
  refine (refbytes_is p6 n6 c6 _ px nx cx lx w6 HI6.out (HX.out.below (bt HB5.out h6)) (by have := HV10.out; simp only [List.nil_append]; omega) (Nat.le_trans HLX.out (by decide))).mono ?_
  rintro e w7 ⟨⟨p7, n7, c7, rfl, hi7⟩, h7⟩
  have HI7 : Hid _ := hi7
  clear hi7
  obtain ⟨p8, n8, c8, w8, hr8, hi8, h8⟩ := conv_list w7 ls (Nat.le_trans HLS.out (by decide))
  have HI8 : Hid _ := hi8
  clear hi8
  go_wp2_with fail
  refine (refbytes_is p7 n7 c7 _ p8 n8 c8 ls w8 (Is.below HI7.out h8) HI8.out (by have := HV10.out; have := HBX.out; simp only [List.nil_append, List.length_append]; omega) (Nat.le_trans HLS.out (by decide))).mono ?_
  rintro e w9 ⟨⟨p9, n9, c9, rfl, hi9⟩, h9⟩
  have HI9 : Hid _ := hi9
  clear hi9 hr8
  go_wp2_with fail
  refine (refnum_is p9 n9 c9 _ u w9 HI9.out HU.out (by have := HV10.out; have := HBX.out; have := HBS.out; simp only [List.nil_append, List.length_append]; omega)).mono ?_
  rintro e w10 ⟨⟨p10, n10, c10, rfl, hi10⟩, h10⟩
  have HI10 : Hid _ := hi10
  have HB10 : Hid (Below w5.heap.size w5 w10) := bt h6 (bt h7 (bt h8 (bt h9 h10)))
  clear hi10 h6 h7 h8 h9 h10 HI6 HI7 HI8 HI9
  have HALL : Hid (((C.num v ++ C.byt lx ++ C.byt ls) ++ C.num u).length ≤ 100000) := by
    have := HV10.out; have := HBX.out; have := HBS.out; have := HU10.out
    show _ ≤ _
    simp only [List.length_append]; omega
  have R1 : Hid (C.rnum (some (C.num v ++ C.byt lx ++ C.byt ls ++ C.num u)) v v = (v, some (C.byt lx ++ (C.byt ls ++ C.num u)))) := by
    have := C.rnum_num HV.out (Int.le_refl v) (Int.le_refl v) (C.byt lx ++ (C.byt ls ++ C.num u))
    show _ = _
    rw [← this]; simp only [List.append_assoc]
  have R2 : Hid (C.rbytes (some (C.byt lx ++ (C.byt ls ++ C.num u))) 200 = (lx, some (C.byt ls ++ C.num u))) := C.rbytes_byt (by have := HLX.out; omega) (by have := HLX.out; omega) _
  have R3 : Hid (C.rbytes (some (C.byt ls ++ C.num u)) 200 = (ls, some (C.num u))) := C.rbytes_byt (by have := HLS.out; omega) (by have := HLS.out; omega) _
  have R4 : Hid (C.rnum (some (C.num u)) (-9223372036854775808) 9223372036854775807 = (u, some [])) := by
    have := C.rnum_num HU.out HU.out.1 HU.out.2 []
    rw [List.append_nil] at this; exact this
  have L1 : Hid ((C.byt lx ++ (C.byt ls ++ C.num u)).length ≤ 100000) := by
    have := HBX.out; have := HBS.out; have := HU10.out
    show _ ≤ _
    simp only [List.length_append]; omega
  have L2 : Hid ((C.byt ls ++ C.num u).length ≤ 100000) := by
    have := HBS.out; have := HU10.out
    show _ ≤ _
    simp only [List.length_append]; omega
  have L3 : Hid ((C.num u).length ≤ 100000) := Nat.le_trans HU10.out (by decide)
  have E9 : [] ++ C.num v ++ C.byt lx ++ C.byt ls ++ C.num u = C.num v ++ C.byt lx ++ C.byt ls ++ C.num u := by simp only [List.nil_append]
  have HI10' : Hid (Is w10 p10 n10 c10 (C.num v ++ C.byt lx ++ C.byt ls ++ C.num u)) := by have := HI10.out; rw [E9] at this; exact this
  clear E9 HI10
  generalize C.num v ++ C.byt lx ++ C.byt ls ++ C.num u = B0 at HALL R1 HI10' HI5
  generalize C.byt lx ++ (C.byt ls ++ C.num u) = B1 at R1 R2 L1
  generalize C.byt ls ++ C.num u = B2 at R2 R3 L2
  generalize C.num u = B3 at R3 R4 L3
  go_wp2_with fail
  refine (read_at w10 p5 n5 c5 B0 (Is.below HI5.out HB10.out) HALL.out).mono ?_
  rintro e w11 ⟨⟨g, p11, n11, c11, rfl, hlo, hlt, hr11⟩, h11⟩
  have HR11 : Hid _ := hr11
  have HG : Hid (w.heap.size ≤ g) := by have := (bt HB5.out HB10.out).size; show _ ≤ _; omega
  have HB11 : Hid (Below w.heap.size w w11) := bt (bt HB5.out HB10.out) h11
  have HSW : Hid (∀ w', w11.grownBy w' (some g) → (convert 25 9 (.slice p5 n5 c5)).run Try.prog w' = .ok (.string ⟨B0.toArray⟩) w' ∧ (convert 25 9 (.slice p10 n10 c10)).run Try.prog w' = .ok (.string ⟨B0.toArray⟩) w' ∧ (convert 25 9 (.slice px nx cx)).run Try.prog w' = .ok (.string ⟨lx.toArray⟩) w') := by
    intro w' hw
    exact ⟨conv_is (Is.grown (Is.below HI5.out (bt HB10.out h11)) hw HR11.out.nb), conv_is (Is.grown (Is.below HI10'.out h11) hw HR11.out.nb), conv_is (Is.grown (HX.out.below HB11.out) hw HR11.out.nb)⟩
  clear hr11 hlo hlt h11
  go_wp2
  go_region_held_law (fun w' => (convert 25 9 (.slice p5 n5 c5)).run Try.prog w' = .ok (.string ⟨B0.toArray⟩) w' ∧ (convert 25 9 (.slice p10 n10 c10)).run Try.prog w' = .ok (.string ⟨B0.toArray⟩) w' ∧ (convert 25 9 (.slice px nx cx)).run Try.prog w' = .ok (.string ⟨lx.toArray⟩) w')
    ((refine HSW.out _ ?_; first | exact hG4 | exact hG3 | exact hG2 | exact hG1 | exact gdrew _ _ | exact World.grownBy.refl _ _))
    (first
    | (go_at_call 14; refine (end_any _ g _ _ _ _ hr4).mono ?_; rintro e w' ⟨rfl, hw'⟩; subst w')
    | (go_at_call 11; refine (rnum_at _ g _ _ _ _ (-9223372036854775808) 9223372036854775807 u (some []) hr3 L3.out R4.out).mono ?_; rintro e wd ⟨rfl, ⟨pd, nd, cd, hr4⟩, hg4⟩; have hG4 : w11.grownBy wd (some g) := gtrans hG3 hg4)
    | (go_at_call 18; refine (rtext_at _ g _ _ _ _ 200 ls (some B3) hr2 L2.out R3.out).mono ?_; rintro e wc ⟨rfl, ⟨pc, nc, cc, hr3⟩, hg3⟩; have hG3 : w11.grownBy wc (some g) := gtrans hG2 hg3)
    | (go_at_call 13; refine (rbytes_at _ g _ _ _ _ 200 lx (some B2) hr1 L1.out R2.out).mono ?_; rintro e wb ⟨⟨pe, ne, ce, rfl, hie⟩, ⟨pb, nb, cb, hr2⟩, hg2⟩; have hG2 : w11.grownBy wb (some g) := gtrans hG1 hg2; have k2 := conv_is hie)
    | (go_at_call 11; refine (rnum_at _ g _ _ _ _ v v v (some B1) (HR11.out.below (Below.refl _ _).drew) HALL.out R1.out).mono ?_; rintro e wa ⟨rfl, ⟨pa, na, ca, hr1⟩, hg1⟩; have hG1 : w11.grownBy wa (some g) := gtrans (gdrew _ _) hg1))
  all_goals
    go_wp2
    go_ret
    exact ⟨rfl, below_g HB11.out hG4 HG.out⟩
theorem back_any (v : Int) (wv : (Lit.int .i64 v).wf = true) (px : Option Addr) (lx : List UInt8) (cx : Nat) (s : ByteArray) (ws : s.size ≤ maxLen) (u : Int) (wu : (Lit.int .i64 u).wf = true) (w : World) (hx : Arg w ⟨px, lx, cx⟩) :
    Calls Try.prog 5 #[.int .i64 v, .slice px lx.length cx, .string s, .int .i64 u] w fun e w' => e = .returned (.bool true) ∧ Below w.heap.size w w' :=
  back_list v (fits_of_wf wv) px lx cx s.data.toList (by simpa using ws) u (fits_of_wf wu) w hx
end Go.Proofs.Ytpkabcnlkdiajaa
