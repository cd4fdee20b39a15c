/-
  DotsKnown: what chapter 8 says of what may not be.
-/
import Derived.Test.YtadafllhionhhaaTGet3
import Derived.Test.YtadafllhionhhaaTPut
import Derived.Test.YtadafllhionhhaaTSame
namespace Go.Proofs.Ytadafllhionhhaa
open Go.RowKit Go.Lib
set_option linter.unusedVariables false

theorem Objs.turn {w0 w w' : World} {L : List DObj} {g : Nat} (h : Objs w0 w L) (ht : Turn w w' (fun b => b = g)) (hg : w0.heap.size ≤ g) (hn : ∀ o ∈ L, ¬ foot o.g o.v g) : Objs w0 w' L :=
  ⟨fun o ho => ⟨(h.at_ o ho).1.same fun b hb => ht.block b ((h.at_ o ho).1.lt hb) (fun e => hn o ho (by rw [← e]; exact hb)), (h.at_ o ho).2⟩, h.apart, h.bel.trans (ht.below h.bel.size fun b hb => by rw [hb]; exact hg)⟩
theorem get_good {w w' : World} {g : Nat} {s : Option (List UInt8)} {cv : V7} {l : List C.Dt} {r : List UInt8} {e : Ending} (h : GetRet w w' g s cv (l, some r) e) (hl : LooseP cv l) : ∃ g2 v', e = .returned (.pointer (some ⟨g2, 0, none⟩)) ∧ DotsAt w' g2 cv v' l ∧ w.heap.size ≤ g2 ∧ Fresh w v' ∧ ∃ p n c, Rd w' g (some r) p n c := by
  rcases h with ⟨h1, _⟩ | ⟨r', h1, _, h2⟩ | ⟨_, h1, _⟩
  · cases h1
  · cases h1; exact h2
  · exact absurd hl h1
theorem get_none {w w' : World} {g : Nat} {s : Option (List UInt8)} {cv : V7} {R : List C.Dt × Option (List UInt8)} {e : Ending} (h : GetRet w w' g s cv R e) (hl : R.2 = none ∨ ¬ LooseP cv R.1) : e = .returned (.pointer none) := by
  rcases h with ⟨_, h1, _⟩ | ⟨r', h1, h2, _⟩ | ⟨_, _, h1, _⟩
  · exact h1
  · rcases hl with hl | hl
    · rw [hl] at h1; cases h1
    · exact absurd h2 hl
  · exact h1
def s15 : C.Ds := ⟨⟨0, 0, 0, 0, 0, 0, 0⟩, [(1, 5)]⟩
theorem loose15 : LooseP ⟨0, 0, 0, 0, 0, 0, 0⟩ [(1, 5)] := ⟨List.pairwise_singleton _ _, fun d hd => by
  obtain rfl : d = (1, 5) := by simpa using hd
  refine ⟨by decide, by decide, by decide, by decide⟩⟩
theorem loose01 : ¬ LooseP ⟨0, 0, 0, 0, 0, 0, 0⟩ [(0, 1)] := fun h => by
  have := (h.2 (0, 1) (by simp)).2.2.1
  revert this; decide
set_option maxRecDepth 100000 in
set_option maxHeartbeats 8000000 in
theorem known_any (w : World) : Calls Try.prog 3 #[] w fun e w' => e = .returned (.bool true) ∧ Below w.heap.size w w' := by
  go_enter Try.func3, Try.ntmps3
  go_wp2_with fail
  refine (awake_any _).mono ?_
  rintro e w0 ⟨rfl, h0⟩
  go_wp2_with fail
  refine (o_new (Objs.nil h0)).mono ?_
  rintro e w1 ⟨g, rfl, h1, -⟩
  have H1 : Hid (Objs w w1 ([] ++ ⟨g, .slice none 0 0, C.zeroS⟩ :: [])) := h1
  clear h0 h1
  go_wp2_with fail
  refine (o_add [] [] g _ C.zeroS C.zeroS 7 1 false 1 H1.out (by decide) (by decide) (by decide) rfl).mono ?_
  rintro e w2 ⟨rfl, ⟨v2, h2⟩, -⟩
  have H2 : Hid (Objs w w2 ([] ++ ⟨g, v2, C.zeroS⟩ :: [])) := h2
  clear h2 H1
  go_wp2_with fail
  refine (o_add [] [] g _ C.zeroS C.zeroS 0 0 false 1 H2.out (by decide) (by decide) (by decide) rfl).mono ?_
  rintro e w3 ⟨rfl, ⟨v3, h3⟩, -⟩
  have H3 : Hid (Objs w w3 ([] ++ ⟨g, v3, C.zeroS⟩ :: [])) := h3
  clear h3 H2
  go_wp2_with fail
  refine (o_add [] [] g _ C.zeroS C.zeroS 0 1099511627777 false 1 H3.out (by decide) (by decide) (by decide) rfl).mono ?_
  rintro e w4 ⟨rfl, ⟨v4, h4⟩, -⟩
  have H4 : Hid (Objs w w4 ([] ++ ⟨g, v4, C.zeroS⟩ :: [])) := h4
  clear h4 H3
  go_wp2_with fail
  refine (o_add [] [] g _ C.zeroS s15 1 5 true 0 H4.out (by decide) (by decide) (by decide) rfl).mono ?_
  rintro e w5 ⟨rfl, ⟨v5, h5⟩, -⟩
  have H5 : Hid (Objs w w5 ([] ++ ⟨g, v5, s15⟩ :: [])) := h5
  clear h5 H4
  go_wp2_with fail
  refine (o_add [] [] g _ s15 s15 1 5 false 0 H5.out (by decide) (by decide) (by decide) rfl).mono ?_
  rintro e w6 ⟨rfl, ⟨v6, h6⟩, -⟩
  have H6 : Hid (Objs w w6 ([] ++ ⟨g, v6, s15⟩ :: [])) := h6
  clear h6 H5
  go_wp2_with fail
  refine (put_obj w6 g s15.c v6 s15.l none 0 0 [] H6.out.get.1 H6.out.get.2 (by decide) (Is.nil _) (by decide)).mono ?_
  rintro e w7 ⟨⟨p7, n7, c7, rfl, hi7⟩, hb7⟩
  have HI7 : Hid (Is w7 p7 n7 c7 [0, 0, 0, 0, 0, 0, 0, 2, 2, 10]) := hi7
  have H7 : Hid (Objs w w7 ([] ++ ⟨g, v6, s15⟩ :: [])) := H6.out.below hb7
  clear hi7 hb7 H6
  go_wp2_with fail
  refine (read_at w7 p7 n7 c7 _ HI7.out (by decide)).mono ?_
  rintro e w8 ⟨⟨gr, p8, n8, c8, rfl, hgr, -, hr8⟩, hb8⟩
  have HR8 : Hid (Rd w8 gr (some [0, 0, 0, 0, 0, 0, 0, 2, 2, 10]) p8 n8 c8) := hr8
  have H8 : Hid (Objs w w8 ([] ++ ⟨g, v6, s15⟩ :: [])) := H7.out.below hb8
  have HNF : Hid (¬ foot g v6 gr) := fun hf => by have := H7.out.get.1.lt hf; omega
  have HGR : Hid (w.heap.size ≤ gr) := Nat.le_trans H7.out.bel.size hgr
  clear hr8 hb8 hgr H7 HI7
  go_wp2_with fail
  refine (getD_any w8 gr _ p8 n8 c8 HR8.out (by decide) ⟨0, 0, 0, 0, 0, 0, 0⟩ (some [2, 2, 10]) (some [2, 10]) 1 rfl (by decide) rfl (by decide) ([(1, 5)], some []) rfl).mono ?_
  rintro e w9 ⟨hret, ht9⟩
  obtain ⟨g2, v9, rfl, hd9, hg9, -, p9, n9, c9, hr9⟩ := get_good hret loose15
  have HD9 : Hid (DotsAt w9 g2 ⟨0, 0, 0, 0, 0, 0, 0⟩ v9 [(1, 5)]) := hd9
  have HR9 : Hid (Rd w9 gr (some []) p9 n9 c9) := hr9
  have H9 : Hid (Objs w w9 ([] ++ ⟨g, v6, s15⟩ :: [])) := H8.out.turn ht9 HGR.out fun o ho => by
    obtain rfl : o = ⟨g, v6, s15⟩ := by simpa using ho
    exact HNF.out
  clear hret ht9 hd9 hg9 hr9 H8 HR8
  go_wp2_with fail
  refine (same_any w9 g g2 s15 s15 v6 v9 true H9.out.get.1 HD9.out (by decide) (by decide)).mono ?_
  rintro e w10 ⟨rfl, hb10⟩
  have H10 : Hid (Objs w w10 ([] ++ ⟨g, v6, s15⟩ :: [])) := H9.out.below hb10
  have HR10 : Hid (Rd w10 gr (some []) p9 n9 c9) := HR9.out.below hb10
  clear hb10 H9 HR9 HD9
  go_wp2_with fail
  refine (end_any w10 gr _ p9 n9 c9 HR10.out).mono ?_
  rintro e w11 ⟨rfl, hw⟩
  subst hw
  have he : ((some ([] : List UInt8)) == some []) = true := by decide
  simp only [he]
  clear he
  go_wp2_with fail
  refine (read_new w11 [0, 0, 0, 0, 0, 0, 0, 2, 0, 2] _ _ 10 10 rfl (by rfl) rfl (by decide)).mono ?_
  rintro e w12 ⟨⟨ga, pa, na, ca, rfl, hga, -, hra⟩, hb12⟩
  have HRA : Hid (Rd w12 ga (some [0, 0, 0, 0, 0, 0, 0, 2, 0, 2]) pa na ca) := hra
  have H12 : Hid (Objs w w12 ([] ++ ⟨g, v6, s15⟩ :: [])) := H10.out.below hb12
  have HNA : Hid (¬ foot g v6 ga) := fun hf => by have := H10.out.get.1.lt hf; omega
  have HGA : Hid (w.heap.size ≤ ga) := Nat.le_trans H10.out.bel.size hga
  clear hra hb12 hga H10 HR10
  go_wp2_with fail
  refine (getD_any w12 ga _ pa na ca HRA.out (by decide) ⟨0, 0, 0, 0, 0, 0, 0⟩ (some [2, 0, 2]) (some [0, 2]) 1 rfl (by decide) rfl (by decide) ([(0, 1)], some []) rfl).mono ?_
  rintro e w13 ⟨hret, ht13⟩
  obtain rfl := get_none hret (Or.inr loose01)
  have H13 : Hid (Objs w w13 ([] ++ ⟨g, v6, s15⟩ :: [])) := H12.out.turn ht13 HGA.out fun o ho => by
    obtain rfl : o = ⟨g, v6, s15⟩ := by simpa using ho
    exact HNA.out
  clear hret ht13 H12 HRA
  go_wp2_with fail
  refine (read_at w13 none 0 0 [] (Is.nil _) (by decide)).mono ?_
  rintro e w14 ⟨⟨gc, pc, nc, cc, rfl, hgc, -, hrc⟩, hb14⟩
  have HRC : Hid (Rd w14 gc (some []) pc nc cc) := hrc
  have H14 : Hid (Objs w w14 ([] ++ ⟨g, v6, s15⟩ :: [])) := H13.out.below hb14
  have HNC : Hid (¬ foot g v6 gc) := fun hf => by have := H13.out.get.1.lt hf; omega
  have HGC : Hid (w.heap.size ≤ gc) := Nat.le_trans H13.out.bel.size hgc
  clear hrc hb14 hgc H13
  go_wp2_with fail
  refine (getD_any w14 gc _ pc nc cc HRC.out (by decide) ⟨0, 0, 0, 0, 0, 0, 0⟩ none none 0 rfl (by decide) rfl (by decide) ([], none) rfl).mono ?_
  rintro e w15 ⟨hret, ht15⟩
  obtain rfl := get_none hret (Or.inl rfl)
  have H15 : Hid (Objs w w15 ([] ++ ⟨g, v6, s15⟩ :: [])) := H14.out.turn ht15 HGC.out fun o ho => by
    obtain rfl : o = ⟨g, v6, s15⟩ := by simpa using ho
    exact HNC.out
  clear hret ht15 H14 HRC
  go_wp2_with fail
  refine (o_has [] [] g v6 s15 1 4 false H15.out (by decide) (by decide)).mono ?_
  rintro e w16 ⟨rfl, hb16⟩
  have H16 : Hid (Objs w w16 ([] ++ ⟨g, v6, s15⟩ :: [])) := H15.out.below hb16
  clear hb16 H15
  go_wp2
  go_ret
  exact ⟨rfl, H16.out.bel⟩
end Go.Proofs.Ytadafllhionhhaa
