/-
  PackKnown: what chapter 4 says of what is not as told.
-/
import Derived.Test.YtpkabcnlkdiajaaWAwake
namespace Go.Proofs.Ytpkabcnlkdiajaa
open Go.RowKit Go.Lib
set_option linter.unusedVariables false

/-- A row of bytes just laid. -/
theorem is_new (w : World) (l : List UInt8) (vs : Array Value) (n c : Nat) (m : Nat × Nat) (hv : vs = (l.map fun b => Value.int .u8 (b.toNat : Nat)).toArray) (hn : n = l.length) (hl : l.length ≤ maxLen) : Is (w.alloc (.cells vs 5 m)) (some ⟨w.heap.size, 0, none⟩) n c l := by
  subst hv; exact ⟨hn, hl, bat_new w l 5 m⟩
theorem read_new (w : World) (l : List UInt8) (vs : Array Value) (B n c : Nat) (hB : B = w.heap.size) (hv : vs = (l.map fun b => Value.int .u8 (b.toNat : Nat)).toArray) (hn : n = l.length) (hl : l.length ≤ 100000) :
    Calls Try.prog 9 #[.slice (some ⟨B, 0, none⟩) n c] (w.alloc (.cells vs 5)) fun e w' => (∃ g p' n' c', e = .returned (.pointer (some ⟨g, 0, none⟩)) ∧ w.heap.size ≤ g ∧ g < w'.heap.size ∧ Rd w' g (some l) p' n' c') ∧ Below w.heap.size w w' := by
  subst hB
  refine (read_any _ _ n c l (is_new w l vs n c _ hv hn (Nat.le_trans hl (by decide))) hl).mono ?_
  rintro e w' ⟨⟨g, p', n', c', rfl, hg, hr⟩, hb⟩
  exact ⟨⟨g, p', n', c', rfl, Nat.le_trans (below_new w _).size hg, hr.lt, hr⟩, bt (below_new w _) hb⟩
theorem read_at (w : World) (p : Option Addr) (n c : Nat) (l : List UInt8) (h : Is w p n c l) (hl : l.length ≤ 100000) :
    Calls Try.prog 9 #[.slice p n c] w fun e w' => (∃ g p' n' c', e = .returned (.pointer (some ⟨g, 0, none⟩)) ∧ w.heap.size ≤ g ∧ g < w'.heap.size ∧ Rd w' g (some l) p' n' c') ∧ Below w.heap.size w w' := by
  refine (read_any w p n c l h hl).mono ?_
  rintro e w' ⟨⟨g, p', n', c', rfl, hg, hr⟩, hb⟩
  exact ⟨⟨g, p', n', c', rfl, hg, hr.lt, hr⟩, hb⟩
theorem byt_ab : C.byt (ByteArray.mk #[97, 98]).data.toList = [4, 97, 98] := by
  show C.grp 4 ++ _ = _
  rw [C.grp_small (by omega)]; rfl
def low : Int := -9223372036854775808
theorem low_fits : C.fits (-9223372036854775808) := ⟨by omega, by omega⟩
theorem rn_a : C.rnum (some [128, 0]) 0 9 = (0, none) := by decide +kernel
theorem rn_b : C.rnum (some [4]) 3 9 = (0, none) := by decide +kernel
theorem rb_c : C.rbytes (some [6, 1, 2]) 9 = ([], none) := by decide +kernel
theorem rn_d : C.rnum (some []) 0 0 = (0, none) := by decide +kernel
theorem rn_e : C.rnum (some (C.num (-9223372036854775808))) (-9223372036854775808) 0 = (-9223372036854775808, some []) := by
  have := C.rnum_num low_fits (least := -9223372036854775808) (most := 0) (by omega) (by omega) []
  rw [List.append_nil] at this
  exact this
theorem rn_f : C.rnum (some [255, 255, 255, 255, 255, 255, 255, 255, 255, 3]) (-9223372036854775808) 9223372036854775807 = (0, none) := by decide +kernel
set_option maxRecDepth 100000 in
set_option maxHeartbeats 8000000 in
theorem known_any (w : World) : Calls Try.prog 3 #[] w fun e w' => e = .returned (.bool true) ∧ Below w.heap.size w w' := by
  go_enter Try.func3, Try.ntmps3
  go_wp2_with fail
  refine (awake_any w).mono ?_
  rintro e w1 ⟨rfl, h1⟩
  have HB1 : Hid (Below w.heap.size w w1) := h1
  clear h1
  go_wp2_with fail
  refine (read_new w1 [128, 0] _ _ 2 2 rfl rfl rfl (by decide)).mono ?_
  rintro e w2 ⟨⟨ga, pa, na, ca, rfl, loa, hia, hra⟩, h2⟩
  have HB2 : Hid (Below w.heap.size w w2) := bt HB1.out h2
  have HN2 : Hid (Below w1.heap.size w1 w2) := h2
  have LOa : Hid _ := loa
  have HIa : Hid _ := hia
  have HRa : Hid _ := hra
  clear h2 loa hia hra
  go_wp2_with fail
  refine (read_new w2 [4] _ _ 1 1 rfl rfl rfl (by decide)).mono ?_
  rintro e w3 ⟨⟨gb, pb, nb, cb, rfl, lob, hib, hrb⟩, h3⟩
  have HB3 : Hid (Below w.heap.size w w3) := bt HB2.out h3
  have HN3 : Hid (Below w2.heap.size w2 w3) := h3
  have LOb : Hid _ := lob
  have HIb : Hid _ := hib
  have HRb : Hid _ := hrb
  clear h3 lob hib hrb
  go_wp2_with fail
  refine (read_new w3 [6, 1, 2] _ _ 3 3 rfl rfl rfl (by decide)).mono ?_
  rintro e w4 ⟨⟨gc, pc, nc, cc, rfl, loc, hic, hrc⟩, h4⟩
  have HB4 : Hid (Below w.heap.size w w4) := bt HB3.out h4
  have HN4 : Hid (Below w3.heap.size w3 w4) := h4
  have LOc : Hid _ := loc
  have HIc : Hid _ := hic
  have HRc : Hid _ := hrc
  clear h4 loc hic hrc
  go_wp2_with fail
  refine (read_at w4 none 0 0 [] (Is.nil _) (by decide)).mono ?_
  rintro e w5 ⟨⟨gd, pd, nd, cd, rfl, lod, hid, hrd⟩, h5⟩
  have HB5 : Hid (Below w.heap.size w w5) := bt HB4.out h5
  have HN5 : Hid (Below w4.heap.size w4 w5) := h5
  have LOd : Hid _ := lod
  have HId : Hid _ := hid
  have HRd : Hid _ := hrd
  clear h5 lod hid hrd
  go_wp2_with fail
  refine (num_nil (-9223372036854775808) _ w5 low_fits rfl).mono ?_
  rintro e w6 ⟨⟨p6, n6, c6, rfl, hi6⟩, h6⟩
  have HB6 : Hid (Below w.heap.size w w6) := bt HB5.out h6
  have HN6 : Hid (Below w5.heap.size w5 w6) := h6
  have HI6 : Hid _ := hi6
  clear h6 hi6
  go_wp2_with fail
  refine (read_at w6 p6 n6 c6 _ HI6.out (Nat.le_trans (C.num_ten low_fits).2 (by decide))).mono ?_
  rintro e w7 ⟨⟨ge, pe, ne, ce, rfl, loe, hie, hre⟩, h7⟩
  have HB7 : Hid (Below w.heap.size w w7) := bt HB6.out h7
  have HN7 : Hid (Below w6.heap.size w6 w7) := h7
  have LOe : Hid _ := loe
  have HIe : Hid _ := hie
  have HRe : Hid _ := hre
  clear h7 loe hie hre
  go_wp2_with fail
  refine (read_new w7 [255, 255, 255, 255, 255, 255, 255, 255, 255, 3] _ _ 10 10 rfl rfl rfl (by decide)).mono ?_
  rintro e w8 ⟨⟨gf, pf, nf, cf, rfl, lof, hif, hrf⟩, h8⟩
  have HB8 : Hid (Below w.heap.size w w8) := bt HB7.out h8
  have HN8 : Hid (Below w7.heap.size w7 w8) := h8
  have LOf : Hid _ := lof
  have HIf : Hid _ := hif
  have HRf : Hid _ := hrf
  clear h8 lof hif hrf
  have s1 := HB1.out.size
  have s2 := HN2.out.size
  have s3 := HN3.out.size
  have s4 := HN4.out.size
  have s5 := HN5.out.size
  have s6 := HN6.out.size
  have s7 := HN7.out.size
  have s8 := HN8.out.size
  have loa := LOa.out
  have hia := HIa.out
  have lob := LOb.out
  have hib := HIb.out
  have loc := LOc.out
  have hic := HIc.out
  have lod := LOd.out
  have hid := HId.out
  have loe := LOe.out
  have hie := HIe.out
  have lof := LOf.out
  have hif := HIf.out
  have ORD : Hid (w.heap.size ≤ ga ∧ ga < gb ∧ gb < gc ∧ gc < gd ∧ gd < ge ∧ ge < gf) := by show _ ∧ _; omega
  clear s1 s2 s3 s4 s5 s6 s7 s8 loa hia lob hib loc hic lod hid loe hie lof hif
  have HRa8 : Hid _ := HRa.out.below (bt HN3.out (bt HN4.out (bt HN5.out (bt HN6.out (bt HN7.out HN8.out)))))
  have HRb8 : Hid _ := HRb.out.below (bt HN4.out (bt HN5.out (bt HN6.out (bt HN7.out HN8.out))))
  have HRc8 : Hid _ := HRc.out.below (bt HN5.out (bt HN6.out (bt HN7.out HN8.out)))
  have HRd8 : Hid _ := HRd.out.below (bt HN6.out (bt HN7.out HN8.out))
  have HRe8 : Hid _ := HRe.out.below HN8.out
  have HRf8 : Hid _ := HRf.out
  go_wp2_with fail
  refine (rnum_at w8 ga (some [128, 0]) _ _ _ 0 9 0 none HRa8.out (by decide) rn_a).mono ?_
  rintro e w9 ⟨rfl, ⟨pa9, na9, ca9, hr⟩, hg⟩
  have HRa9 : Hid _ := hr
  have HRb9 : Hid _ := HRb8.out.kept hg HRa8.out.nb (by have := ORD.out; omega)
  have HRc9 : Hid _ := HRc8.out.kept hg HRa8.out.nb (by have := ORD.out; omega)
  have HRd9 : Hid _ := HRd8.out.kept hg HRa8.out.nb (by have := ORD.out; omega)
  have HRe9 : Hid _ := HRe8.out.kept hg HRa8.out.nb (by have := ORD.out; omega)
  have HRf9 : Hid _ := HRf8.out.kept hg HRa8.out.nb (by have := ORD.out; omega)
  have HB9 : Hid (Below w.heap.size w w9) := below_g HB8.out hg (by have := ORD.out; omega)
  clear hr hg
  go_wp2_with fail
  refine (bad_any w9 ga _ _ _ _ HRa9.out).mono ?_
  rintro e wq ⟨rfl, hwq⟩
  subst wq
  go_wp2_with fail
  refine (rnum_at w9 gb (some [4]) _ _ _ 3 9 0 none HRb9.out (by decide) rn_b).mono ?_
  rintro e w10 ⟨rfl, ⟨pb10, nb10, cb10, hr⟩, hg⟩
  have HRb10 : Hid _ := hr
  have HRc10 : Hid _ := HRc9.out.kept hg HRb9.out.nb (by have := ORD.out; omega)
  have HRd10 : Hid _ := HRd9.out.kept hg HRb9.out.nb (by have := ORD.out; omega)
  have HRe10 : Hid _ := HRe9.out.kept hg HRb9.out.nb (by have := ORD.out; omega)
  have HRf10 : Hid _ := HRf9.out.kept hg HRb9.out.nb (by have := ORD.out; omega)
  have HB10 : Hid (Below w.heap.size w w10) := below_g HB9.out hg (by have := ORD.out; omega)
  clear hr hg
  go_wp2_with fail
  refine (bad_any w10 gb _ _ _ _ HRb10.out).mono ?_
  rintro e wq ⟨rfl, hwq⟩
  subst wq
  go_wp2_with fail
  refine (rbytes_at w10 gc (some [6, 1, 2]) _ _ _ 9 [] none HRc10.out (by decide) rb_c).mono ?_
  rintro e w11 ⟨⟨px, nx, cx, rfl, hix⟩, ⟨pc11, nc11, cc11, hr⟩, hg⟩
  obtain rfl : nx = 0 := hix.1
  clear hix
  have HRc11 : Hid _ := hr
  have HRd11 : Hid _ := HRd10.out.kept hg HRc10.out.nb (by have := ORD.out; omega)
  have HRe11 : Hid _ := HRe10.out.kept hg HRc10.out.nb (by have := ORD.out; omega)
  have HRf11 : Hid _ := HRf10.out.kept hg HRc10.out.nb (by have := ORD.out; omega)
  have HB11 : Hid (Below w.heap.size w w11) := below_g HB10.out hg (by have := ORD.out; omega)
  clear hr hg
  go_wp2_with fail
  refine (bad_any w11 gc _ _ _ _ HRc11.out).mono ?_
  rintro e wq ⟨rfl, hwq⟩
  subst wq
  go_wp2_with fail
  refine (end_any w11 gc _ _ _ _ HRc11.out).mono ?_
  rintro e wq ⟨rfl, hwq⟩
  subst wq
  go_wp2_with fail
  refine (end_any w11 gd _ _ _ _ HRd11.out).mono ?_
  rintro e wq ⟨rfl, hwq⟩
  subst wq
  go_wp2_with fail
  refine (rnum_at w11 gd (some []) _ _ _ 0 0 0 none HRd11.out (by decide) rn_d).mono ?_
  rintro e w12 ⟨rfl, ⟨pd12, nd12, cd12, hr⟩, hg⟩
  have HRd12 : Hid _ := hr
  have HRe12 : Hid _ := HRe11.out.kept hg HRd11.out.nb (by have := ORD.out; omega)
  have HRf12 : Hid _ := HRf11.out.kept hg HRd11.out.nb (by have := ORD.out; omega)
  have HB12 : Hid (Below w.heap.size w w12) := below_g HB11.out hg (by have := ORD.out; omega)
  clear hr hg
  go_wp2_with fail
  refine (bad_any w12 gd _ _ _ _ HRd12.out).mono ?_
  rintro e wq ⟨rfl, hwq⟩
  subst wq
  go_wp2_with fail
  refine (rnum_at w12 ge (some (C.num (-9223372036854775808))) _ _ _ (-9223372036854775808) 0 (-9223372036854775808) (some []) HRe12.out (Nat.le_trans (C.num_ten low_fits).2 (by decide)) rn_e).mono ?_
  rintro e w13 ⟨rfl, ⟨pe13, ne13, ce13, hr⟩, hg⟩
  have HRe13 : Hid _ := hr
  have HRf13 : Hid _ := HRf12.out.kept hg HRe12.out.nb (by have := ORD.out; omega)
  have HB13 : Hid (Below w.heap.size w w13) := below_g HB12.out hg (by have := ORD.out; omega)
  clear hr hg
  go_wp2_with fail
  refine (end_any w13 ge _ _ _ _ HRe13.out).mono ?_
  rintro e wq ⟨rfl, hwq⟩
  subst wq
  go_wp2_with fail
  refine (rnum_at w13 gf (some [255, 255, 255, 255, 255, 255, 255, 255, 255, 3]) _ _ _ (-9223372036854775808) 9223372036854775807 0 none HRf13.out (by decide) rn_f).mono ?_
  rintro e w14 ⟨rfl, ⟨pf14, nf14, cf14, hr⟩, hg⟩
  have HRf14 : Hid _ := hr
  have HB14 : Hid (Below w.heap.size w w14) := below_g HB13.out hg (by have := ORD.out; omega)
  clear hr hg
  go_wp2_with fail
  refine (bad_any w14 gf _ _ _ _ HRf14.out).mono ?_
  rintro e wq ⟨rfl, hwq⟩
  subst wq
  go_wp2_with fail
  refine (text_any none 0 0 [] ⟨#[97, 98]⟩ w14 (Is.nil _) (by decide) (by decide)).mono ?_
  rintro e wl ⟨⟨pl, nl, cl, rfl, hil⟩, hl⟩
  rw [List.nil_append, byt_ab] at hil
  have hcl := conv_is hil
  clear hil
  go_wp2
  go_ret
  exact ⟨rfl, bt HB14.out hl⟩
end Go.Proofs.Ytpkabcnlkdiajaa
