/-
  DiskApart: what is read is new.
-/
import Derived.Test.YtlfcpgncgldieaaWLaw
namespace Go.Proofs.Ytlfcpgncgldieaa
open Go.RowKit Go.Lib Go.Maps
open C (upd upd_same upd_other)
set_option linter.unusedVariables false

theorem readB_one {l : List UInt8} (hl : l.length ≤ 1000) : readE (C.appS (C.newS 1000) 3 l) 3 = 0 ∧ readB (C.appS (C.newS 1000) 3 l) 3 = l := by
  have h1 : readE (C.appS (C.newS 1000) 3 l) 3 = 0 := rfl
  refine ⟨h1, ?_⟩
  unfold readB
  rw [h1]
  show (if 3 = (3 : Int).toNat then l else []) ++ [] = l
  simp
set_option maxRecDepth 100000 in
set_option maxHeartbeats 8000000 in
theorem apart_any (p : Option Addr) (l : List UInt8) (cap : Nat) (w : World) (hx : Part.ok w ⟨p, l, cap⟩) :
    Calls Try.prog 7 #[.slice p l.length cap] w fun e w' => e = .returned (.bool true) ∧ Below w.heap.size w w' := by
  have HX : Hid (Part.ok w ⟨p, l, cap⟩) := hx
  clear hx
  go_enter Try.func7, Try.ntmps7
  go_wp2_with fail
  refine (awake_any w).mono ?_
  rintro e w1 ⟨rfl, hb1⟩
  have HB1 : Hid (Below w.heap.size w w1) := hb1
  clear hb1
  by_cases h0 : l.length < 1
  · go_wp2
    go_ret
    exact ⟨rfl, HB1.out⟩
  by_cases h1 : 100 < l.length
  · go_wp2
    go_ret
    exact ⟨rfl, HB1.out⟩
  go_wp2_with fail
  refine (dk_new 1000 w w1 HB1.out (by omega)).mono ?_
  rintro e w2 ⟨g, rfl, hd2, _⟩
  obtain ⟨S, hD2, hS2, hb2⟩ := hd2
  have HO2 : Hid (Own (w2.alloc (.cells #[] 5)) w2.heap.size (.slice (some ⟨w2.heap.size, 0, none⟩) 0 0) []) := Own.empty w2 w2.heap.size (Nat.le_refl _)
  have HXP : Hid (Part.ok (w2.alloc (.cells #[] 5)) ⟨p, l, cap⟩) := Part.ok.below (Part.ok.below HX.out hb2) (below_new _ _)
  have HD2 : Hid (Disk w2 g S (C.newS 1000)) := hD2
  have HS2 : Hid (∀ b, S b → w.heap.size ≤ b) := hS2
  have HB2 : Hid (Below w.heap.size w w2) := hb2
  have hlp : 0 < l.length := by omega
  have HSZ2 : Hid (w.heap.size ≤ w2.heap.size) := hb2.size
  clear hD2 hS2 hb2 HB1
  go_wp2_with (at_builtin; go_must (refine wpList_append_part rfl _ _ rfl w2.heap.size _ [] rfl HO2.out ⟨p, l, cap⟩ rfl HXP.out (by simp only [List.length_nil]; omega) (by simp) ?_); intro v3 w3 ho3 hg3; rw [List.nil_append] at ho3; have hb3 : Below w2.heap.size w2 w3 := Own.grown HO2.out (below_new w2 _) (by simp) hg3; obtain ⟨cb, cc, rfl, hge⟩ := Own.shape ho3 hlp)
  have HO3 : Hid (Own w3 w2.heap.size (.slice (some ⟨cb, 0, none⟩) l.length cc) l) := ho3
  have HD3 : Hid (Disk w3 g S (C.newS 1000)) := Disk.below HD2.out hb3
  have HB3 : Hid (Below w.heap.size w w3) := bt HB2.out hb3
  have hns : ¬ S cb := fun h => by have := Disk.lt HD2.out h; omega
  have HNS : Hid _ := hns
  clear ho3 hg3 hb3 HO2 HXP HD2 HB2 hns
  refine (append_ok w3 g S _ 3 _ l cc HD3.out (Own.okAt HO3.out rfl) rfl (by show 0 + l.length ≤ 1000; omega) (by decide)).mono ?_
  rintro e w4 ⟨rfl, hD4, ht4⟩
  have hcl : cb < w3.heap.size := row_lt HO3.out rfl
  have ho4 : Own w4 w2.heap.size (.slice (some ⟨cb, 0, none⟩) l.length cc) l := Own.same HO3.out (fun b hb => by cases hb; exact ht4.block cb hcl HNS.out)
  obtain ⟨hc4, hf4⟩ := Own.cell ho4 rfl 0 hlp
  have HW4 : Hid (∀ v, DK w (w4.setCell ⟨cb, 0, none⟩ v) g (C.appS (C.newS 1000) 3 l)) := fun v => by
    obtain ⟨S', hd', h2', h3'⟩ := dk_turn HS2.out HB3.out hD4 ht4
    have h2 : ∀ b, Ext w3 w4 S b → w.heap.size ≤ b := fun b hb => by
      rcases hb with h | h
      · exact HS2.out b h
      · exact Nat.le_trans (HB3.out : Below _ _ _).size h.1
    exact dk_store hD4 h2 h3' (fun h => by rcases h with h | h; · exact HNS.out h
                                           · omega) (by have := (World.ownsRow.lt HO3.out cb rfl).1; have := HSZ2.out; omega) v
  have hc4a := (l.getD 0 0).toNat_lt
  generalize (l.getD 0 0).toNat = x0 at hc4 hc4a
  clear hD4 ht4 ho4 HO3 HD3 HB3 hcl HNS HS2
  go_upto_region 9 with fail
  refine wp_world (fun wz => DK w wz g (C.appS (C.newS 1000) 3 l)) (HW4.out _) ?_
  clear HW4 hc4 hf4
  intro w5 hd5
  have HD5 : Hid (DK w w5 g (C.appS (C.newS 1000) 3 l)) := hd5
  clear hd5
  obtain ⟨re, rb⟩ := readB_one (l := l) (by omega)
  have HRE : Hid _ := re
  have HRB : Hid _ := rb
  clear re rb
  go_wp2_with fail
  refine (dk_read_own w w5 g _ 3 0 l HD5.out HRE.out HRB.out).mono ?_
  rintro e w6 ⟨v6, S6, rfl, ho6, hd6, hs6, hb6, hz6⟩
  obtain ⟨xb, xc, rfl, hxge⟩ := Own.shape ho6 hlp
  obtain ⟨hc6, hf6⟩ := Own.cell ho6 rfl 0 hlp
  have HW6 : Hid (∀ v, DK w (w6.setCell ⟨xb, 0, none⟩ v) g (C.appS (C.newS 1000) 3 l)) := fun v => dk_store hd6 (fun b hb => (hs6 b hb).1) hb6 (fun h => by have := (hs6 xb h).2; omega) (by omega) v
  have hc6a := (l.getD 0 0).toNat_lt
  generalize (l.getD 0 0).toNat = x1 at hc6 hc6a
  clear ho6 hd6 hs6 hb6 HD5
  go_upto_region 13 with fail
  refine wp_world (fun wz => DK w wz g (C.appS (C.newS 1000) 3 l)) (HW6.out _) ?_
  clear HW6 hc6 hf6
  intro w7 hd7
  have HD7 : Hid (DK w w7 g (C.appS (C.newS 1000) 3 l)) := hd7
  clear hd7
  go_wp2_with fail
  refine (dk_read w w7 g _ 3 0 l HD7.out HRE.out HRB.out).mono ?_
  rintro e w8 ⟨⟨p8, n8, c8, rfl, hi8⟩, hd8, hb8⟩
  have k8 := conv_is hi8
  have kb := conv_str (x := ⟨p, l, cap⟩) (Part.ok.below HX.out (DK.bel hd8))
  simp only [Part.v] at kb
  have HB8 : Hid (Below w.heap.size w w8) := DK.bel hd8
  clear hi8 hd8 hb8 HD7
  go_wp2
  go_ret
  exact ⟨ret_bool (by simp), HB8.out⟩
end Go.Proofs.Ytlfcpgncgldieaa
