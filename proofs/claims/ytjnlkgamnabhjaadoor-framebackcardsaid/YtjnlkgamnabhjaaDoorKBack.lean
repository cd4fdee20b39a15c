/-
  FrameBack: records that are put one behind the other are found again; cut short, a beginning of them; with a bit turned, just what the document says.
-/
import Derived.Test.YtjnlkgamnabhjaaDoorKKnown
namespace Go.Proofs.YtjnlkgamnabhjaaDoor
open Go.RowKit Go.Lib
set_option linter.unusedVariables false

theorem xor_bit (x : UInt8) (r : Nat) : bits .xor .u8 (x.toNat : Int) ((2 : Int) ^ r % 256) = ((x ^^^ UInt8.ofNat (2 ^ r)).toNat : Nat) := by
  have := xor8 x (UInt8.ofNat (2 ^ r))
  rw [UInt8.toNat_ofNat'] at this
  rw [← this]
  congr 1
theorem own_turn {w : World} {base : Nat} {v : Value} {l : List UInt8} (h : Own w base v ([] ++ l)) (j r : Nat) (hj : j < l.length) : ∃ g cap, v = .slice (some ⟨g, 0, none⟩) l.length cap ∧ base ≤ g ∧ l.length ≤ cap ∧ cap ≤ maxLen ∧ ∃ x y : UInt8, w.cell? ⟨g, j, none⟩ = some (.int .u8 (x.toNat : Nat)) ∧ w.frozen? ⟨g, j, none⟩ = false ∧ x.toNat < 256 ∧
    bits .xor .u8 (x.toNat : Int) ((2 : Int) ^ r % 256) = (y.toNat : Nat) ∧ ∃ lx : List UInt8, lx.length = l.length ∧ Own (w.setCell ⟨g, j, none⟩ (.int .u8 (y.toNat : Nat))) base (.slice (some ⟨g, 0, none⟩) l.length cap) lx := by
  rw [List.nil_append] at h
  obtain ⟨g, cap, rfl, hg⟩ := Own.shape h (by omega)
  obtain ⟨p', c', hv, _, h1, h2⟩ := Own.full h
  simp only [Value.slice.injEq] at hv
  obtain ⟨_, _, rfl⟩ := hv
  have hc := Own.cell h rfl j hj
  exact ⟨g, cap, rfl, hg, h1, h2, l.getD j 0, l.getD j 0 ^^^ UInt8.ofNat (2 ^ r), hc.1, hc.2, (l.getD j 0).toNat_lt, xor_bit _ _, l.set j _, by rw [List.length_set], Own.set h rfl j _⟩
theorem frs_le : ∀ (ls : List (List UInt8)), (∀ r ∈ ls, r.length ≤ 100) → (C.frs ls).length ≤ 109 * ls.length
  | [], _ => by simp [C.frs]
  | r :: ls, h => by
    have h1 := frs_le ls (fun x hx => h x (by simp [hx]))
    have h2 := h r (by simp)
    rw [C.frs_cons, List.length_append, C.fr_length, List.length_cons]; omega
theorem Rows.pre {w : World} {p : Option Addr} {ps : List Part} {cap : Nat} (hP : PAt w p ps) (hA : ∀ x ∈ ps, x.ok w) (hc : ps.length ≤ cap) (hm : cap ≤ maxLen) (k n : Nat) (hk : k ≤ ps.length) (hn : n = k) : Rows w (.slice p n cap) ((ps.map Part.l).take k) := by
  subst hn
  have hl : (ps.take n).length = n := by rw [List.length_take]; omega
  refine ⟨p, ps.take n, cap, by rw [hl], fun h => ?_, fun x hx => hA x (List.mem_of_mem_take hx), List.map_take, by omega, hm⟩
  obtain ⟨b, o, hp, hc'⟩ := hP (by omega)
  refine ⟨b, o, hp, fun i x hi => hc' i x ?_⟩
  rw [List.getElem?_take] at hi
  split at hi
  · exact hi
  · cases hi
theorem same_at2 (va vb : Value) (A B : List (List UInt8)) (w0 w : World) (hw : Below w0.heap.size w0 w) (hA : Rows w va A) (hB : Rows w vb B) (h : A = B) :
    Calls Tryd.prog 15 #[va, vb] w fun e w' => e = .returned (.bool true) ∧ Below w.heap.size w w' ∧ Below w0.heap.size w0 w' :=
  (same_any va vb A B w hA hB).mono fun e w' ⟨h1, h2⟩ => ⟨by rw [h1, decide_eq_true h], h2, bt hw h2⟩
set_option maxHeartbeats 8000000 in
theorem back_any (p : Option Addr) (ps : List Part) (cap : Nat) (m0 : Int) (wm : (Lit.int .i64 m0).wf = true) (bt0 : Int) (wb0 : (Lit.int .i64 bt0).wf = true) (w : World) (hT : Tabs w) (hP : PAt w p ps) (hA : ∀ x ∈ ps, x.ok w) (hcap : ps.length ≤ cap) (hcm : cap ≤ maxLen) :
    Calls Tryd.prog 5 #[.slice p ps.length cap, .int .i64 m0, .int .i64 bt0] w fun e w' => e = .returned (.bool true) ∧ Below w.heap.size w w' := by
  have hm0 : -9223372036854775808 ≤ m0 ∧ m0 ≤ 9223372036854775807 := by
    have h1 : IntKind.i64.min = -9223372036854775808 := rfl
    have h2 : IntKind.i64.max = 9223372036854775807 := rfl
    simp only [Lit.wf, Bool.and_eq_true, decide_eq_true_eq] at wm
    omega
  have hbt : -9223372036854775808 ≤ bt0 ∧ bt0 ≤ 9223372036854775807 := by
    have h1 : IntKind.i64.min = -9223372036854775808 := rfl
    have h2 : IntKind.i64.max = 9223372036854775807 := rfl
    simp only [Lit.wf, Bool.and_eq_true, decide_eq_true_eq] at wb0
    omega
  have hcm' : cap ≤ 9223372036854775807 := Nat.le_trans hcm (by decide)
  have HA : Hid (∀ x ∈ ps, x.ok w) := hA
  have HP : Hid (PAt w p ps) := hP
  have HCM : Hid (cap ≤ maxLen) := hcm
  have HRL : Hid (∀ w', Below w.heap.size w w' → Rows w' (.slice p ps.length cap) (ps.map Part.l)) := by
    intro w' hb
    exact Rows.below ⟨p, ps, cap, rfl, hP, hA, rfl, hcap, hcm⟩ hb
  have HPRE : Hid (∀ w' n, Below w.heap.size w w' → n ≤ ps.length → Rows w' (.slice p n cap) ((ps.map Part.l).take n)) := by
    intro w' n hb hn
    exact Rows.below (Rows.pre hP hA hcap hcm n n hn rfl) hb
  have HLk : Hid (∀ (k : Nat) (x : Part), ps[k]? = some x → (ps.map Part.l)[k]? = some x.l) := by
    intro k x h
    rw [List.getElem?_map, h]; rfl
  have hLl : (ps.map Part.l).length = ps.length := by rw [List.length_map]
  generalize ps.map Part.l = L at HRL HPRE HLk hLl
  clear hA hP wm wb0 hcm
  go_enter Tryd.func5, Tryd.ntmps5
  go_wp2_with fail
  refine (awake_any w hT).mono ?_
  rintro e w1 ⟨rfl, h1⟩
  by_cases h10 : (10 : Int) < ps.length
  · go_wp2
    go_ret
    exact ⟨rfl, h1⟩
  have H1 : Hid (Below w.heap.size w w1) := h1
  clear h1
  go_wp2
  go_loopw [7, 8] (fun v i wr => ∃ (k : Nat) (q : Option Addr) (cq : Nat), k ≤ ps.length ∧ i = .int .i64 k ∧ v = .slice q (C.frs (L.take k)).length cq ∧ Arg wr ⟨q, C.frs (L.take k), cq⟩ ∧ (∀ r ∈ L.take k, r.length ≤ 100) ∧ Below w.heap.size w wr) (fun _ i _ => ps.length - (intOf i).toNat)
  case atStart => exact ⟨0, none, 0, Nat.zero_le _, rfl, rfl, ⟨nil_ok _, Nat.le_refl _, Nat.zero_le _⟩, fun r hr => (by simp at hr), H1.out⟩
  case round =>
    obtain ⟨k, q, cq, hk, rfl, rfl, harg, hle, hbw⟩ := hrel
    have HARG : Hid (Arg wr ⟨q, C.frs (L.take k), cq⟩) := harg
    have HLE : Hid (∀ r ∈ L.take k, r.length ≤ 100) := hle
    have HBW : Hid (Below w.heap.size w wr) := hbw
    have hfl : (C.frs (L.take k)).length ≤ 1090 := by
      have h := frs_le _ hle
      rw [List.length_take] at h; omega
    clear harg hle hbw
    by_cases hlt : k < ps.length
    · obtain ⟨b, o, rfl, hc⟩ := HP.out (by omega)
      obtain ⟨x, hx⟩ : ∃ x, ps[k]? = some x := ⟨ps[k], by simp [hlt]⟩
      have hck0 := hc k x hx
      have hck : wr.cell? ⟨b, o + k, none⟩ = some x.v := by
        rw [HBW.out.cell (p := ⟨b, o + k, none⟩) (World.block_lt_of_cell? _ _ hck0)]; exact hck0
      have HX : Hid (x.ok wr) := (HA.out x (List.mem_of_getElem? hx)).below HBW.out
      have HT : Hid (L.take (k + 1) = L.take k ++ [x.l]) := by
        show _ = _
        rw [List.take_add_one, HLk.out k x hx]; rfl
      obtain ⟨xp, xl, xc⟩ := x
      have hxl : xl.length ≤ 9223372036854775807 := Nat.le_trans HX.out.1 (by decide)
      simp only [Part.v] at hck HT
      generalize hlk : C.frs (L.take k) = lk at HARG hfl ⊢
      have HLK : Hid (C.frs (L.take k) = lk) := hlk
      clear hc hx hck0 hlk
      by_cases hbig : (100 : Int) < xl.length
      · go_wp2
        go_ret
        exact ⟨rfl, HBW.out⟩
      go_wp2_with fail
      refine (put_at (lk.length + (9 + xl.length)) q lk.length lk cq xp xl.length xl xc w wr rfl rfl hT HBW.out HARG.out.1 HX.out (by omega) (by omega) rfl).mono ?_
      rintro e w2 ⟨⟨p2, c2, rfl, hok2, hc2, hm2⟩, _, h2⟩
      have HOK : Hid (Part.ok w2 ⟨p2, lk ++ C.fr xl, c2⟩) := hok2
      have HM : Hid (lk.length + (9 + xl.length) ≤ c2 ∧ c2 ≤ maxLen) := ⟨hc2, hm2⟩
      clear hok2 hm2 hc2
      go_wp2
      go_roundw
      case rel =>
        have e1 : C.frs (L.take (k + 1)) = lk ++ C.fr xl := by rw [HT.out, C.frs_snoc, HLK.out]
        have e2 : (lk ++ C.fr xl).length = lk.length + (9 + xl.length) := by rw [List.length_append, C.fr_length]
        refine ⟨k + 1, p2, c2, by omega, by go_num, by rw [e1, e2], ⟨by rw [e1]; exact HOK.out, by rw [e1]; show (lk ++ C.fr xl).length ≤ c2; rw [e2]; exact HM.out.1, HM.out.2⟩, fun r hr => ?_, h2⟩
        rw [HT.out] at hr
        rcases List.mem_append.1 hr with hr | hr
        · exact HLE.out r hr
        · simp only [List.mem_singleton] at hr
          subst hr
          omega
      case measure => simp [intOf]; omega
    · have HTK : Hid (L.take k = L) := by show _ = _; rw [List.take_of_length_le (by omega)]
      have HS : Hid (C.scan (C.frs (L)) = (L, (C.frs (L)).length)) := C.scan_frs _ (fun r hr => by
        have := HLE.out r (by rw [HTK.out]; exact hr)
        omega)
      have HCUT : Hid (∀ c : Nat, ∃ k m, k ≤ ps.length ∧ m ≤ c ∧ C.scan ((C.frs (L)).take c) = ((L).take k, m)) := by
        intro c
        obtain ⟨k, hk, e⟩ := C.scan_cut (L) c (fun r hr => by
          have := HLE.out r (by rw [HTK.out]; exact hr)
          omega)
        have h2 := (C.scan_le ((C.frs (L)).take c)).1
        rw [List.length_take] at h2
        exact ⟨k, (C.scan ((C.frs (L)).take c)).2, by omega, by omega, by rw [← e]⟩
      rw [HTK.out] at HARG hfl ⊢
      generalize hlb : C.frs (L) = lb at HARG hfl HS HCUT ⊢
      clear HTK HLE hlb
      go_wp2_with fail
      refine (scan_at q lb.length lb cq L lb.length w wr rfl hT HBW.out HARG.out.1 HARG.out.2.1 HARG.out.2.2 (by omega) HS.out).mono ?_
      rintro e w2 ⟨⟨v2, rfl, hr2⟩, h12, h2⟩
      have HR2 : Hid (Rows w2 v2 L) := hr2
      have HRL2 := HRL.out w2 h2
      have HARG2 : Hid (Arg w2 ⟨q, lb, cq⟩) := HARG.out.below h12
      clear hr2 h12
      go_wp2_with fail
      refine (same_at2 v2 _ L L w w2 h2 HR2.out HRL2 rfl).mono ?_
      rintro e w3 ⟨rfl, h23, h3⟩
      have HARG3 : Hid (Arg w3 ⟨q, lb, cq⟩) := HARG2.out.below h23
      have hcq : lb.length ≤ cq := HARG3.out.2.1
      have hcq2 : cq ≤ 9223372036854775807 := Nat.le_trans HARG3.out.2.2 (by decide)
      clear HRL2 h2 h23 HR2 HARG2 HARG HS
      by_cases hcut : 0 ≤ m0 ∧ m0 < lb.length
      · obtain ⟨hcut1, hcut2⟩ := hcut
        obtain ⟨c, rfl⟩ := Int.eq_ofNat_of_zero_le hcut1
        obtain ⟨k4, m4, hk4, hm4, hsc⟩ := HCUT.out c
        have HSC : Hid (C.scan (lb.take c) = (L.take k4, m4)) := hsc
        have HTL : Hid ((lb.take c).length = c) := by show _ = _; rw [List.length_take]; omega
        obtain ⟨bq, oq, rfl, _⟩ : ∃ b o, q = some ⟨b, o, none⟩ ∧ True := by
          obtain ⟨b, o, hp, _⟩ := HARG3.out.1.2 (show 0 < lb.length by omega)
          exact ⟨b, o, hp, trivial⟩
        clear hsc HCUT
        go_wp2_with fail
        refine (scan_at _ c (lb.take c) cq (L.take k4) m4 w w3 HTL.out.symm hT h3 ⟨by show (lb.take c).length ≤ maxLen; rw [HTL.out]; unfold maxLen; omega, BAt.pre HARG3.out.1.2 c⟩ (by rw [HTL.out]; omega) HARG3.out.2.2 (by rw [HTL.out]; omega) HSC.out).mono ?_
        rintro e w4 ⟨⟨v4, rfl, hr4⟩, h34, h4⟩
        have HR4 : Hid (Rows w4 v4 (L.take k4)) := hr4
        obtain ⟨q4, qs4, d4, rfl, _, _, hq4, hq5, hq6⟩ := hr4
        have hl4 : qs4.length = k4 := by
          have := congrArg List.length hq4
          rw [List.length_map, List.length_take] at this; omega
        have HPR := HPRE.out w4 k4 h4 hk4
        rw [hl4] at HR4 ⊢
        have HARG4 : Hid (Arg w4 ⟨some ⟨bq, oq, none⟩, lb, cq⟩) := HARG3.out.below h34
        clear hq4 hq5 hq6 hl4 h34 h3 HARG3
        have hk5 : ¬ (ps.length : Int) < k4 := by omega
        have hm5 : ¬ (c : Int) < m4 := by omega
        go_wp2_with fail
        refine (same_at2 _ _ (L.take k4) (L.take k4) w w4 h4 HR4.out HPR rfl).mono ?_
        rintro e w5 ⟨rfl, h45, h5⟩
        have HOZ : Hid (Part.ok w5 ⟨some ⟨bq, oq, none⟩, lb, cq⟩) := HARG4.out.1.below h45
        clear HPR HR4 HARG4 h4 h45 hk5 HPRE HRL
        by_cases hb1 : bt0 < 0
        · go_wp2
          go_ret
          exact ⟨rfl, h5⟩
        obtain ⟨bt1, rfl⟩ := Int.eq_ofNat_of_zero_le (show 0 ≤ bt0 by omega)
        obtain ⟨j, hj⟩ : ∃ j, j = bt1 / 8 := ⟨_, rfl⟩
        obtain ⟨r8, hr8⟩ : ∃ r, r = bt1 % 8 := ⟨_, rfl⟩
        have ej : (bt1 : Int) / 8 = (j : Nat) := by omega
        have er : (bt1 : Int) % 8 = (r8 : Nat) := by omega
        have hr88 : r8 < 8 := by omega
        clear hj hr8
        by_cases hb2 : (lb.length : Int) ≤ j
        · go_wp2
          go_ret
          exact ⟨rfl, h5⟩
        have hjl : j < lb.length := by omega
        have HE : Hid (Own (w5.alloc (.cells #[] 5)) w5.heap.size (.slice (some ⟨w5.heap.size, 0, none⟩) 0 0) []) := Own.empty w5 w5.heap.size (Nat.le_refl _)
        go_wp2_with (at_builtin; go_must ((refine wpList_append_part rfl _ _ rfl w5.heap.size _ [] rfl HE.out ⟨some ⟨bq, oq, none⟩, lb, cq⟩ rfl (Part.ok.below HOZ.out (below_new _ _)) (by show 0 + lb.length ≤ 100000; omega) (by simp) ?_; intro vx wx hox hgx; have hbx : Below w5.heap.size w5 wx := Own.grown HE.out (below_new _ _) (by simp) hgx; obtain ⟨g, cg, rfl, hgb, hcg1, hcg2, x, y, hcell, hfroz, hx0, ex, lx, hlx, hset⟩ := own_turn hox j r8 hjl; clear hgx hox)))
        have HSX : Hid (Part.ok (wx.setCell ⟨g, j, none⟩ (.int .u8 (y.toNat : Nat))) ⟨some ⟨g, 0, none⟩, lx, cg⟩) := Own.okAt hset hlx.symm
        have HBX : Hid (Below w.heap.size w (wx.setCell ⟨g, j, none⟩ (.int .u8 (y.toNat : Nat)))) := bt h5 (hbx.setCell hgb _)
        clear hcell hfroz hset hbx ex
        generalize wx.setCell ⟨g, j, none⟩ (.int .u8 (y.toNat : Nat)) = wy at HSX HBX ⊢
        obtain ⟨R, m, hRm⟩ : ∃ R m, C.scan lx = (R, m) := ⟨_, _, rfl⟩
        have HRM : Hid (C.scan lx = (R, m)) := hRm
        have HLX : Hid (lb.length = lx.length) := hlx.symm
        clear hRm hlx
        refine (scan_at _ lb.length lx _ R m w wy HLX.out hT HBX.out HSX.out (by rw [← HLX.out]; exact hcg1) hcg2 (by rw [← HLX.out]; omega) HRM.out).mono ?_
        rintro e wa ⟨⟨va, rfl, hra⟩, hya, hwa⟩
        have HRA : Hid (Rows wa va R) := hra
        have HSA : Hid (Arg wa ⟨some ⟨g, 0, none⟩, lx, cg⟩) := ⟨HSX.out.below hya, by rw [← HLX.out]; exact hcg1, hcg2⟩
        clear hra hya
        go_wp2_with fail
        refine (rscan_at _ lx _ R m lb.length w wa HLX.out hwa HSA.out (by rw [← HLX.out]; omega) HRM.out).mono ?_
        rintro e wb ⟨⟨vb, rfl, hrb⟩, hab, hwb⟩
        have HRB : Hid (Rows wb vb R) := hrb
        have HRA2 : Hid (Rows wb va R) := HRA.out.below hab
        clear hrb hab
        go_wp2_with fail
        refine (same_at va vb R R w wb hwb HRA2.out HRB.out rfl).mono ?_
        rintro e wc ⟨rfl, hwc⟩
        go_wp2
        go_ret
        exact ⟨rfl, hwc⟩
      · have HOZ : Hid (Part.ok w3 ⟨q, lb, cq⟩) := HARG3.out.1
        by_cases hc1 : m0 < 0
        · clear hcut HPRE HRL HARG3 HCUT
          by_cases hb1 : bt0 < 0
          · go_wp2
            go_ret
            exact ⟨rfl, h3⟩
          obtain ⟨bt1, rfl⟩ := Int.eq_ofNat_of_zero_le (show 0 ≤ bt0 by omega)
          obtain ⟨j, hj⟩ : ∃ j, j = bt1 / 8 := ⟨_, rfl⟩
          obtain ⟨r8, hr8⟩ : ∃ r, r = bt1 % 8 := ⟨_, rfl⟩
          have ej : (bt1 : Int) / 8 = (j : Nat) := by omega
          have er : (bt1 : Int) % 8 = (r8 : Nat) := by omega
          have hr88 : r8 < 8 := by omega
          clear hj hr8
          by_cases hb2 : (lb.length : Int) ≤ j
          · go_wp2
            go_ret
            exact ⟨rfl, h3⟩
          have hjl : j < lb.length := by omega
          have HE : Hid (Own (w3.alloc (.cells #[] 5)) w3.heap.size (.slice (some ⟨w3.heap.size, 0, none⟩) 0 0) []) := Own.empty w3 w3.heap.size (Nat.le_refl _)
          go_wp2_with (at_builtin; go_must ((refine wpList_append_part rfl _ _ rfl w3.heap.size _ [] rfl HE.out ⟨q, lb, cq⟩ rfl (Part.ok.below HOZ.out (below_new _ _)) (by show 0 + lb.length ≤ 100000; omega) (by simp) ?_; intro vx wx hox hgx; have hbx : Below w3.heap.size w3 wx := Own.grown HE.out (below_new _ _) (by simp) hgx; obtain ⟨g, cg, rfl, hgb, hcg1, hcg2, x, y, hcell, hfroz, hx0, ex, lx, hlx, hset⟩ := own_turn hox j r8 hjl; clear hgx hox)))
          have HSX : Hid (Part.ok (wx.setCell ⟨g, j, none⟩ (.int .u8 (y.toNat : Nat))) ⟨some ⟨g, 0, none⟩, lx, cg⟩) := Own.okAt hset hlx.symm
          have HBX : Hid (Below w.heap.size w (wx.setCell ⟨g, j, none⟩ (.int .u8 (y.toNat : Nat)))) := bt h3 (hbx.setCell hgb _)
          clear hcell hfroz hset hbx ex
          generalize wx.setCell ⟨g, j, none⟩ (.int .u8 (y.toNat : Nat)) = wy at HSX HBX ⊢
          obtain ⟨R, m, hRm⟩ : ∃ R m, C.scan lx = (R, m) := ⟨_, _, rfl⟩
          have HRM : Hid (C.scan lx = (R, m)) := hRm
          have HLX : Hid (lb.length = lx.length) := hlx.symm
          clear hRm hlx
          refine (scan_at _ lb.length lx _ R m w wy HLX.out hT HBX.out HSX.out (by rw [← HLX.out]; exact hcg1) hcg2 (by rw [← HLX.out]; omega) HRM.out).mono ?_
          rintro e wa ⟨⟨va, rfl, hra⟩, hya, hwa⟩
          have HRA : Hid (Rows wa va R) := hra
          have HSA : Hid (Arg wa ⟨some ⟨g, 0, none⟩, lx, cg⟩) := ⟨HSX.out.below hya, by rw [← HLX.out]; exact hcg1, hcg2⟩
          clear hra hya
          go_wp2_with fail
          refine (rscan_at _ lx _ R m lb.length w wa HLX.out hwa HSA.out (by rw [← HLX.out]; omega) HRM.out).mono ?_
          rintro e wb ⟨⟨vb, rfl, hrb⟩, hab, hwb⟩
          have HRB : Hid (Rows wb vb R) := hrb
          have HRA2 : Hid (Rows wb va R) := HRA.out.below hab
          clear hrb hab
          go_wp2_with fail
          refine (same_at va vb R R w wb hwb HRA2.out HRB.out rfl).mono ?_
          rintro e wc ⟨rfl, hwc⟩
          go_wp2
          go_ret
          exact ⟨rfl, hwc⟩
        · have hc2 : ¬ m0 < lb.length := fun h => hcut ⟨by omega, h⟩
          clear hcut HPRE HRL HARG3 HCUT
          by_cases hb1 : bt0 < 0
          · go_wp2
            go_ret
            exact ⟨rfl, h3⟩
          obtain ⟨bt1, rfl⟩ := Int.eq_ofNat_of_zero_le (show 0 ≤ bt0 by omega)
          obtain ⟨j, hj⟩ : ∃ j, j = bt1 / 8 := ⟨_, rfl⟩
          obtain ⟨r8, hr8⟩ : ∃ r, r = bt1 % 8 := ⟨_, rfl⟩
          have ej : (bt1 : Int) / 8 = (j : Nat) := by omega
          have er : (bt1 : Int) % 8 = (r8 : Nat) := by omega
          have hr88 : r8 < 8 := by omega
          clear hj hr8
          by_cases hb2 : (lb.length : Int) ≤ j
          · go_wp2
            go_ret
            exact ⟨rfl, h3⟩
          have hjl : j < lb.length := by omega
          have HE : Hid (Own (w3.alloc (.cells #[] 5)) w3.heap.size (.slice (some ⟨w3.heap.size, 0, none⟩) 0 0) []) := Own.empty w3 w3.heap.size (Nat.le_refl _)
          go_wp2_with (at_builtin; go_must ((refine wpList_append_part rfl _ _ rfl w3.heap.size _ [] rfl HE.out ⟨q, lb, cq⟩ rfl (Part.ok.below HOZ.out (below_new _ _)) (by show 0 + lb.length ≤ 100000; omega) (by simp) ?_; intro vx wx hox hgx; have hbx : Below w3.heap.size w3 wx := Own.grown HE.out (below_new _ _) (by simp) hgx; obtain ⟨g, cg, rfl, hgb, hcg1, hcg2, x, y, hcell, hfroz, hx0, ex, lx, hlx, hset⟩ := own_turn hox j r8 hjl; clear hgx hox)))
          have HSX : Hid (Part.ok (wx.setCell ⟨g, j, none⟩ (.int .u8 (y.toNat : Nat))) ⟨some ⟨g, 0, none⟩, lx, cg⟩) := Own.okAt hset hlx.symm
          have HBX : Hid (Below w.heap.size w (wx.setCell ⟨g, j, none⟩ (.int .u8 (y.toNat : Nat)))) := bt h3 (hbx.setCell hgb _)
          clear hcell hfroz hset hbx ex
          generalize wx.setCell ⟨g, j, none⟩ (.int .u8 (y.toNat : Nat)) = wy at HSX HBX ⊢
          obtain ⟨R, m, hRm⟩ : ∃ R m, C.scan lx = (R, m) := ⟨_, _, rfl⟩
          have HRM : Hid (C.scan lx = (R, m)) := hRm
          have HLX : Hid (lb.length = lx.length) := hlx.symm
          clear hRm hlx
          refine (scan_at _ lb.length lx _ R m w wy HLX.out hT HBX.out HSX.out (by rw [← HLX.out]; exact hcg1) hcg2 (by rw [← HLX.out]; omega) HRM.out).mono ?_
          rintro e wa ⟨⟨va, rfl, hra⟩, hya, hwa⟩
          have HRA : Hid (Rows wa va R) := hra
          have HSA : Hid (Arg wa ⟨some ⟨g, 0, none⟩, lx, cg⟩) := ⟨HSX.out.below hya, by rw [← HLX.out]; exact hcg1, hcg2⟩
          clear hra hya
          go_wp2_with fail
          refine (rscan_at _ lx _ R m lb.length w wa HLX.out hwa HSA.out (by rw [← HLX.out]; omega) HRM.out).mono ?_
          rintro e wb ⟨⟨vb, rfl, hrb⟩, hab, hwb⟩
          have HRB : Hid (Rows wb vb R) := hrb
          have HRA2 : Hid (Rows wb va R) := HRA.out.below hab
          clear hrb hab
          go_wp2_with fail
          refine (same_at va vb R R w wb hwb HRA2.out HRB.out rfl).mono ?_
          rintro e wc ⟨rfl, hwc⟩
          go_wp2
          go_ret
          exact ⟨rfl, hwc⟩
end Go.Proofs.YtjnlkgamnabhjaaDoor
