/-
  Several texts in one: WDropB, WLong, WPlace.
-/
import Derived.Test.YtnhplbdbgiimkaaGreatDoorZ20
namespace Go.Proofs.YtnhplbdbgiimkaaGreatDoor
open Go.RowKit Go.Lib
set_option linter.unusedVariables false

namespace C
def dropBut (Lf : List Int) : List Nat → St → St
  | [], s => s
  | f :: F, s => dropBut Lf F (if (f : Int) ∈ Lf then s else dropS s f)
theorem dropBut_snoc (Lf : List Int) : ∀ (F : List Nat) (f : Nat) (s : St), dropBut Lf (F ++ [f]) s = if (f : Int) ∈ Lf then dropBut Lf F s else dropS (dropBut Lf F s) f
  | [], f, s => rfl
  | x :: F, f, s => by
    simp only [List.cons_append, dropBut]
    exact dropBut_snoc Lf F f _
theorem dropBut_is (Lf : List Int) : ∀ (F : List Nat) (s : St) (k : Nat), (dropBut Lf F s).is k = (s.is k && !(decide (k ∈ F) && !decide ((k : Int) ∈ Lf)))
  | [], s, k => by simp [dropBut]
  | f :: F, s, k => by
    rw [dropBut, dropBut_is Lf F _ k]
    by_cases hf : (f : Int) ∈ Lf
    · rw [if_pos hf]
      by_cases hk : k = f
      · subst hk; simp [hf]
      · simp [hk]
    · rw [if_neg hf]
      by_cases hk : k = f
      · subst hk; simp [hf, dropS]
      · have h2 : (k == f) = false := by simpa using hk
        simp [hk, h2, dropS]
theorem dropBut_ws (Lf : List Int) : ∀ (F : List Nat) (s : St), (dropBut Lf F s).ws = s.ws.filter fun x => !(decide (x.file ∈ F) && !decide ((x.file : Int) ∈ Lf))
  | [], s => (List.filter_eq_self.2 fun x _ => by simp).symm
  | f :: F, s => by
    rw [dropBut, dropBut_ws Lf F _]
    by_cases hf : (f : Int) ∈ Lf
    · rw [if_pos hf]
      refine List.filter_congr fun x _ => ?_
      by_cases hk : x.file = f
      · simp [hk, hf]
      · simp [hk]
    · rw [if_neg hf]
      show (dropL s.ws f).filter _ = _
      unfold dropL
      rw [List.filter_filter]
      refine List.filter_congr fun x _ => ?_
      by_cases hk : x.file = f
      · simp [hk, hf]
      · simp [hk]
theorem dropBut_off (Lf : List Int) : ∀ (F : List Nat) (s : St), (dropBut Lf F s).off = s.off ∧ (dropBut Lf F s).lives = s.lives ∧ (dropBut Lf F s).made = s.made ∧ (dropBut Lf F s).room = s.room
  | [], s => ⟨rfl, rfl, rfl, rfl⟩
  | f :: F, s => by
    obtain ⟨h1, h2, h3, h4⟩ := dropBut_off Lf F (if (f : Int) ∈ Lf then s else dropS s f)
    rw [dropBut, h1, h2, h3, h4]
    by_cases hf : (f : Int) ∈ Lf
    · rw [if_pos hf]; exact ⟨rfl, rfl, rfl, rfl⟩
    · rw [if_neg hf]; exact ⟨rfl, rfl, rfl, rfl⟩
end C
theorem cell_turn {w w' : World} {S : Nat → Prop} (h : Turn w w' S) {b o : Nat} {v : Value} (hc : w.cell? ⟨b, o, none⟩ = some v) (hn : ¬ S b) : w'.cell? ⟨b, o, none⟩ = some v := by
  have hlt := World.block_lt_of_cell? _ _ hc
  rw [← hc]
  unfold World.cell?
  rw [h.block b hlt hn]
theorem ZAt.turn {w w' : World} {S : Nat → Prop} {p : Option Addr} {l : List Int} (h : ZAt w p l) (ht : Turn w w' S) (hn : ∀ a, p = some a → ¬ S a.block) : ZAt w' p l := fun hl => by
  obtain ⟨b, o, hp, hc⟩ := h hl
  exact ⟨b, o, hp, fun i hi => cell_turn ht (hc i hi) (hn _ hp)⟩
set_option maxRecDepth 100000 in
set_option maxHeartbeats 4000000 in
theorem dropb_any (w : World) (g : Nat) (c : LgC) (S : Nat → Prop) (s : C.St) (pf : Option Addr) (Lf : List Int) (cf : Nat) (h : LgAt w g c) (hd : Disk w c.d S s) (hm : s.made ≤ 1000000) (hoff : s.off = false) (hg : ¬ S g) (hz : ZAt w pf Lf) (hpf : ∀ a, pf = some a → ¬ S a.block) (hl : Lf.length ≤ 100000) :
    Calls Tryz.prog 31 #[.pointer (some ⟨g, 0, none⟩), .slice pf Lf.length cf] w fun e w' => e = .returned (.tuple #[]) ∧ Disk w' c.d S (C.dropBut Lf (C.fs s) s) ∧ Turn w w' S := by
  have HF : Hid _ := files_any w c.d S s hd hm
  rw [files_fs hoff] at HF
  have HC0 : Hid (∀ w', Turn w w' S → w'.cell? ⟨g, 0, none⟩ = some (.pointer (some ⟨c.d, 0, none⟩))) := fun w' ht => cell_turn ht ((h.cell 0).trans rfl) hg
  have c0 := HC0.out w (Turn.refl w S)
  have HD : Hid (Disk w c.d S s) := hd
  have HZF : Hid (∀ w', Turn w w' S → ZAt w' pf Lf) := fun w' ht => hz.turn ht hpf
  have HOFF : Hid (s.off = false) := hoff
  have HLL : Hid (Lf.length ≤ 100000) := hl
  have HSL : Hid (∀ b, S b → b < w.heap.size) := fun b hb => hd.lt hb
  have HFI : Hid (∀ f ∈ C.fs s, f < 1000 ∧ s.is f = true) := fun f hf => C.fs_mem hf
  have HND : Hid ((C.fs s).Nodup) := (C.fs_up s).imp fun h => Nat.ne_of_lt h
  have HFL : Hid ((C.fs s).length ≤ 1000) := by
    show _ ≤ _
    exact Nat.le_trans (List.length_filter_le _ _) (by simp)
  generalize C.fs s = F at HF HFI HND HFL ⊢
  generalize c.d = d at *
  obtain ⟨nf, hnf⟩ : ∃ nf, nf = Lf.length := ⟨_, rfl⟩
  have HNF : Hid (nf = Lf.length) := hnf
  rw [← hnf]
  clear h hd hm hoff hg hz hpf hl hnf
  go_enter Tryz.func31, Tryz.ntmps31
  go_wp2_with fail
  refine Calls.mono HF.out ?_
  rintro e w1 ⟨⟨p, n, k, rfl, hn, hzp, hpb⟩, hb1⟩
  rw [List.length_map] at hn
  have HZ : Hid (ZAt w1 p (F.map fun k : Nat => (k : Int))) := hzp
  have HB1 : Hid (Below w.heap.size w w1) := hb1
  have HN : Hid (n = F.length) := hn
  have HPS : Hid (∀ a, p = some a → ¬ S a.block) := fun a ha hs => by have h1 := hpb a ha; have h2 := HSL.out _ hs; omega
  have hn1000 : n ≤ 1000 := by rw [hn]; exact HFL.out
  clear hzp hb1 hn hpb HF c0
  go_wp2_with fail
  go_loopw [12] (fun s12 wr => ∃ (j : Nat), s12 = .int .i64 j ∧ j ≤ n ∧ Hid (Disk wr d S (C.dropBut Lf (F.take j) s)) ∧ Hid (Turn w1 wr S)) (fun s12 _ => n - (intOf s12).toNat)
  case atStart => exact ⟨0, rfl, Nat.zero_le _, HD.out.below HB1.out, Turn.refl _ _⟩
  case round =>
    obtain ⟨j, rfl, hj, HDK, HTU⟩ := hrel
    have HTW : Hid (Turn w wr S) := (Turn.of_below HB1.out).trans HTU.out fun x hx => Or.inl hx
    by_cases hlt : j < n
    · obtain ⟨f, hf⟩ : ∃ f, F[j]? = some f := ⟨_, List.getElem?_eq_getElem (by have := HN.out; omega)⟩
      obtain ⟨b, o, hp, hc⟩ := HZ.out (by rw [List.length_map]; have := HN.out; omega)
      subst hp
      have hjz : (j : Int) < (n : Int) := by omega
      have y0 := cell_turn HTU.out (hc j (by rw [List.length_map]; have := HN.out; omega)) (HPS.out _ rfl)
      have hgd : (List.map (fun k : Nat => (k : Int)) F).getD j 0 = (f : Int) := by simp [List.getD, hf]
      rw [hgd] at y0
      have HSN : Hid (C.dropBut Lf (F.take (j + 1)) s = if (f : Int) ∈ Lf then C.dropBut Lf (F.take j) s else C.dropS (C.dropBut Lf (F.take j) s) f) := by
        show _ = _
        rw [List.take_add_one, hf]
        exact C.dropBut_snoc Lf _ f s
      have hff := HFI.out f (List.mem_of_getElem? hf)
      have HIS : Hid ((C.dropBut Lf (F.take j) s).is f = true) := by
        show _ = _
        rw [C.dropBut_is, hff.2]
        have : ¬ f ∈ F.take j := fun hm => by
          obtain ⟨i, hi⟩ := List.getElem?_of_mem hm
          have hij : i < j := by have := (List.getElem?_eq_some_iff.1 hi).1; rw [List.length_take] at this; omega
          rw [List.getElem?_take_of_lt hij] at hi
          have := (List.getElem?_inj (by have := (List.getElem?_eq_some_iff.1 hi).1; exact this) HND.out).1 (hi.trans hf.symm)
          omega
        simp [this]
      have HRE : Hid (refE (C.dropBut Lf (F.take j) s) (f : Int) = 0) := by
        show _ = _
        unfold refE
        rw [if_neg (by rw [(C.dropBut_off Lf _ s).1, HOFF.out]; decide), if_neg (by have := hff.1; omega)]
      have HCO : Hid (Calls Tryz.prog 53 #[.slice pf nf cf, .int .i64 (f : Int)] wr fun e w' => e = .returned (.bool (decide ((f : Int) ∈ Lf))) ∧ w' = wr) := by
        have h1 := contains_any pf Lf cf (f : Int) wr (HZF.out wr HTW.out) HLL.out
        rw [← HNF.out] at h1
        exact h1
      have d0 := HC0.out wr HTW.out
      clear hc hgd hf hff
      by_cases hfl : (f : Int) ∈ Lf
      · rw [decide_eq_true hfl] at HCO
        rw [if_pos hfl] at HSN
        go_wp2_with fail
        refine HCO.out.mono ?_
        rintro e w2 ⟨rfl, hw⟩
        subst w2
        go_wp2
        go_roundw
        case rel => exact ⟨j + 1, by go_num, by omega, by show Disk _ _ _ _; rw [HSN.out]; exact HDK.out, HTU.out⟩
        case measure => simp [intOf]; omega
      · rw [decide_eq_false hfl] at HCO
        rw [if_neg hfl] at HSN
        have HDR : Hid _ := drop_ok wr d S (C.dropBut Lf (F.take j) s) f HDK.out HRE.out HIS.out
        go_wp2_with fail
        refine HCO.out.mono ?_
        rintro e w2 ⟨rfl, hw⟩
        subst w2
        go_wp2_with fail
        refine Calls.mono HDR.out ?_
        rintro e w3 ⟨rfl, hd3, ht3⟩
        have HD3 : Hid (Disk w3 d S (C.dropS (C.dropBut Lf (F.take j) s) f)) := hd3
        have HT3 : Hid (Turn w1 w3 S) := HTU.out.trans ht3 fun x hx => Or.inl hx
        clear hd3 ht3 HDR
        go_wp2
        go_roundw
        case rel => exact ⟨j + 1, by go_num, by omega, by show Disk _ _ _ _; rw [HSN.out]; exact HD3.out, HT3.out⟩
        case measure => simp [intOf]; omega
    · obtain rfl : j = n := by omega
      have htk : F.take j = F := List.take_of_length_le (by have := HN.out; omega)
      rw [htk] at HDK
      clear htk
      go_wp2
      refine bodyPost_end (results_none rfl _ _ _) rfl ?_
      exact ⟨rfl, HDK.out, HTW.out⟩
end Go.Proofs.YtnhplbdbgiimkaaGreatDoor

namespace Go.Proofs.YtnhplbdbgiimkaaGreatDoor
open Go.RowKit Go.Lib
set_option linter.unusedVariables false

theorem long_any (p : Option Addr) (n cap : Nat) (w : World) (hn : n ≤ maxLen) : Calls Tryz.prog 33 #[.slice p n cap] w fun e w' => e = .returned (.bool (decide (65536 < n))) ∧ w' = w := by
  unfold maxLen at hn
  obtain ⟨r, hr⟩ : ∃ r, decide (65536 < n) = r := ⟨_, rfl⟩
  have HR : Hid (decide (65536 < n) = r) := hr
  have h1 : decide ((65536 : Int) < (n : Int)) = r := by rw [← hr]; exact decide_eq_decide.2 (by omega)
  rw [hr]
  clear hr
  go_enter Tryz.func33, Tryz.ntmps33
  go_wp2
  go_ret
  refine ⟨?_, by first | rfl | trivial⟩
  first | rfl | (rw [← HR.out]; simp) | (simp; omega)
set_option maxHeartbeats 4000000 in
theorem idxf_any (p : Option Addr) (ps : List Part) (c : Nat) (w : World) (h : PAt w p ps) (hl : ps.length ≤ 100000) (hm : ∀ x ∈ ps, x.l.length ≤ maxLen) :
    Calls Tryz.prog 55 #[.slice p ps.length c, .func (.func 33) #[] #[]] w fun e w' => (∃ r : Int, e = .returned (.int .i64 r) ∧ (0 ≤ r ↔ ∃ x ∈ ps, 65536 < x.l.length)) ∧ w' = w := by
  have HP : Hid (PAt w p ps) := h
  have HML : Hid (∀ x ∈ ps, x.l.length ≤ maxLen) := hm
  obtain ⟨n, hn⟩ : ∃ n, n = ps.length := ⟨_, rfl⟩
  have HN : Hid (n = ps.length) := hn
  rw [← hn] at hl ⊢
  clear h hm hn
  go_enter Tryz.func55, Tryz.ntmps55
  go_wp2_with fail
  go_loopw [8] (fun s8 wr => wr = w ∧ ∃ (k : Nat), s8 = .int .i64 k ∧ k ≤ n ∧ Hid (∀ j z, j < k → ps[j]? = some z → ¬ 65536 < z.l.length)) (fun s8 _ => n - (intOf s8).toNat)
  case atStart => exact ⟨rfl, 0, rfl, Nat.zero_le _, fun j z hj => absurd hj (Nat.not_lt_zero _)⟩
  case round =>
    obtain ⟨rfl, k, rfl, hk, HK⟩ := hrel
    by_cases hlt : k < n
    · obtain ⟨x, hx⟩ : ∃ x, ps[k]? = some x := ⟨_, List.getElem?_eq_getElem (by have := HN.out; omega)⟩
      obtain ⟨b, o, hp, hc⟩ := HP.out (by have := HN.out; omega)
      subst hp
      have hkz : (k : Int) < (n : Int) := by omega
      have y0 := hc k x hx
      simp only [Part.v] at y0
      have HX : Hid (ps[k]? = some x) := hx
      have HLO : Hid _ := long_any x.p x.l.length x.cap wr (HML.out x (List.mem_of_getElem? hx))
      clear hc hx
      by_cases hlong : 65536 < x.l.length
      · rw [decide_eq_true hlong] at HLO
        go_wp2_with fail
        refine Calls.mono HLO.out ?_
        rintro e w2 ⟨rfl, hw⟩
        subst w2
        go_wp2
        go_ret
        refine ⟨⟨(k : Int), rfl, fun _ => ⟨x, List.mem_of_getElem? HX.out, hlong⟩, fun _ => Int.natCast_nonneg k⟩, ?_⟩
        first | rfl | trivial
      · rw [decide_eq_false hlong] at HLO
        go_wp2_with fail
        refine Calls.mono HLO.out ?_
        rintro e w2 ⟨rfl, hw⟩
        subst w2
        go_wp2
        go_roundw
        case rel =>
          refine ⟨by first | rfl | trivial, k + 1, by go_num, by omega, fun j y hj hy => ?_⟩
          by_cases e : j = k
          · subst e
            rw [HX.out] at hy
            cases hy
            exact hlong
          · exact HK.out j y (by omega) hy
        case measure => simp [intOf]; omega
    · obtain rfl : k = n := by omega
      go_wp2
      go_ret
      refine ⟨⟨-1, rfl, fun h => by omega, fun ⟨x, hm, hl⟩ => ?_⟩, ?_⟩
      · obtain ⟨j, hj⟩ := List.getElem?_of_mem hm
        exact absurd hl (HK.out j x (by have := (List.getElem?_eq_some_iff.1 hj).1; have := HN.out; omega) hj)
      · first | rfl | trivial
set_option maxHeartbeats 4000000 in
theorem contf_any (p : Option Addr) (ps : List Part) (c : Nat) (w : World) (h : PAt w p ps) (hl : ps.length ≤ 100000) (hm : ∀ x ∈ ps, x.l.length ≤ maxLen) :
    Calls Tryz.prog 32 #[.slice p ps.length c, .func (.func 33) #[] #[]] w fun e w' => (∃ z : Bool, e = .returned (.bool z) ∧ (z = true ↔ ∃ x ∈ ps, 65536 < x.l.length)) ∧ w' = w := by
  have HI : Hid _ := idxf_any p ps c w h hl hm
  generalize ps.length = n at HI ⊢
  have HQ : Hid (∀ q : Int, (0 ≤ q ↔ ∃ x ∈ ps, 65536 < x.l.length) → (decide (0 ≤ q) = true ↔ ∃ x ∈ ps, 65536 < x.l.length)) := fun q hq => by rw [decide_eq_true_eq]; exact hq
  clear h hm
  go_enter Tryz.func32, Tryz.ntmps32
  go_wp2_with fail
  refine Calls.mono HI.out ?_
  rintro e w2 ⟨⟨q, rfl, hq⟩, hw⟩
  subst w2
  have HQQ : Hid _ := HQ.out q hq
  clear hq HI HQ
  go_wp2
  go_ret
  exact ⟨⟨decide (0 ≤ q), rfl, HQQ.out⟩, by first | rfl | trivial⟩
end Go.Proofs.YtnhplbdbgiimkaaGreatDoor

namespace Go.Proofs.YtnhplbdbgiimkaaGreatDoor
open Go.RowKit Go.Lib
set_option linter.unusedVariables false

/-- A log whose tail is another file. -/
def LgC.tail (c : LgC) (f : Nat) : LgC := { c with tf := f, tc := 0, te := 0, tt := false }
theorem LgAt.setTail {w : World} {g : Nat} {c : LgC} (h : LgAt w g c) (f : Nat) : LgAt ((((w.setCell ⟨g, 7, none⟩ (.int .i64 (f : Nat))).setCell ⟨g, 8, none⟩ (.int .i64 0)).setCell ⟨g, 9, none⟩ (.int .i64 0)).setCell ⟨g, 10, none⟩ (.bool false)) g (c.tail f) := by
  have h1 := set_block (o := 7) (v := .int .i64 (f : Nat)) h
  have h2 := set_block (o := 8) (v := .int .i64 0) h1
  have h3 := set_block (o := 9) (v := .int .i64 0) h2
  have h4 := set_block (o := 10) (v := .bool false) h3
  unfold LgAt
  rw [h4]
  obtain ⟨d, lives, full, part, age, base, recs, tf, tc, te, tt, dirty⟩ := c
  simp [LgC.cells, LgC.tail]
theorem tail_turn (w : World) (g : Nat) (a b c d : Value) : Turn w ((((w.setCell ⟨g, 7, none⟩ a).setCell ⟨g, 8, none⟩ b).setCell ⟨g, 9, none⟩ c).setCell ⟨g, 10, none⟩ d) (fun x => x = g) :=
  Turn.setCell (S := fun x => x = g) (Turn.setCell (S := fun x => x = g) (Turn.setCell (S := fun x => x = g) (Turn.setCell (S := fun x => x = g) (Turn.refl w _) rfl a) rfl b) rfl c) rfl d
set_option maxRecDepth 100000 in
set_option maxHeartbeats 4000000 in
theorem place_any (w : World) (g : Nat) (c : LgC) (S : Nat → Prop) (s : C.St) (h : LgAt w g c) (hd : Disk w c.d S s) (hm : s.made ≤ 1000000) (hoff : s.off = false) (hfew : (C.fs s).length < 999) (hpt : c.part ≤ 1000) (htc : c.tc ≤ 1000000) :
    Calls Tryz.prog 57 #[.pointer (some ⟨g, 0, none⟩)] w fun e w' =>
      (c.tt = false ∧ c.tc < c.part ∧ e = .returned (.int .i64 ((c.part : Int) - (c.tc : Int))) ∧ LgAt w' g c ∧ Below w.heap.size w w') ∨
      (¬ (c.tt = false ∧ c.tc < c.part) ∧ ∃ f : Nat, ¬ f ∈ C.fs s ∧ f ≤ (C.fs s).length ∧ e = .returned (.int .i64 (c.part : Nat)) ∧ LgAt w' g (c.tail f) ∧ Turn w w' (fun x => x = g)) := by
  have HL : Hid (LgAt w g c) := h
  have HFR : Hid (∀ W, Below w.heap.size w W → Calls Tryz.prog 38 #[.pointer (some ⟨g, 0, none⟩)] W fun e w' => (∃ f : Nat, e = .returned (.tuple #[.int .i64 (f : Nat), .int .i64 (1000 - ((C.fs s).length : Int))]) ∧ ¬ f ∈ C.fs s ∧ f ≤ (C.fs s).length) ∧ Below W.heap.size W w') := fun W hW => free_any W g c S s (h.below hW) (hd.below hW) hm hoff
  generalize C.fs s = F at HFR hfew ⊢
  have HFEW : Hid (F.length < 999) := hfew
  have c3 : ∀ t : NewW w, t.v.cell? ⟨g, 3, none⟩ = some (.int .i64 (c.part : Nat)) := fun t => ((h.below t.h).cell 3).trans rfl
  have c8 : ∀ t : NewW w, t.v.cell? ⟨g, 8, none⟩ = some (.int .i64 (c.tc : Nat)) := fun t => ((h.below t.h).cell 8).trans rfl
  have c10 : ∀ t : NewW w, t.v.cell? ⟨g, 10, none⟩ = some (.bool c.tt) := fun t => ((h.below t.h).cell 10).trans rfl
  have hne : Nonempty (NewW w) := ⟨NewW.start w⟩
  clear h hd hm hoff hfew
  by_cases hin : c.tt = false ∧ c.tc < c.part
  · have HIN : Hid (c.tt = false ∧ c.tc < c.part) := hin
    have hlt : (c.tc : Int) < (c.part : Int) := by omega
    have htt := hin.1
    rw [htt] at c10
    clear hin htt
    go_enter Tryz.func57, Tryz.ntmps57
    go_wp2_with fail
    refine wp_region_new (by kernel_rfl) (by kernel_rfl) ?_
    repeat (go_big_quiet_step (fail))
    refine wpQuiet_nil ?_
    rintro _ ⟨w2, rfl⟩
    have HB2 : Hid (Below w.heap.size w w2.v) := w2.h
    have d3 : ∀ t : NewW w2.v, t.v.cell? ⟨g, 3, none⟩ = some (.int .i64 (c.part : Nat)) := fun t => ((HL.out.below (bt HB2.out t.h)).cell 3).trans rfl
    have d8 : ∀ t : NewW w2.v, t.v.cell? ⟨g, 8, none⟩ = some (.int .i64 (c.tc : Nat)) := fun t => ((HL.out.below (bt HB2.out t.h)).cell 8).trans rfl
    have hne2 : Nonempty (NewW w2.v) := ⟨NewW.start w2.v⟩
    clear c3 c8 c10 hne
    go_wp2_with fail
    refine wp_region_new (by kernel_rfl) (by kernel_rfl) ?_
    repeat (go_big_quiet_step (fail))
    refine wpQuiet_nil ?_
    rintro _ ⟨w3, rfl⟩
    have HB3 : Hid (Below w.heap.size w w3.v) := bt HB2.out w3.h
    clear d3 d8 hne2
    go_wp2
    go_ret
    exact Or.inl ⟨HIN.out.1, HIN.out.2, rfl, HL.out.below HB3.out, HB3.out⟩
  · have HIN : Hid (¬ (c.tt = false ∧ c.tc < c.part)) := hin
    have hcase : c.tt = true ∨ (c.tt = false ∧ ¬ (c.tc : Int) < (c.part : Int)) := by
      cases htt : c.tt with
      | true => exact Or.inl rfl
      | false => exact Or.inr ⟨rfl, fun h => hin ⟨htt, by omega⟩⟩
    clear hin
    rcases hcase with htt | ⟨htt, hnl⟩
    all_goals
      rw [htt] at c10
      clear htt
      go_enter Tryz.func57, Tryz.ntmps57
      go_wp2_with fail
      refine wp_region_new (by kernel_rfl) (by kernel_rfl) ?_
      repeat (go_big_quiet_step (fail))
      refine wpQuiet_nil ?_
      rintro _ ⟨w2, rfl⟩
      have HB2 : Hid (Below w.heap.size w w2.v) := w2.h
      clear c3 c8 c10 hne
      go_wp2_with fail
      refine (HFR.out _ HB2.out).mono ?_
      rintro e w5 ⟨⟨f, rfl, hf1, hf2⟩, hb5⟩
      have HF1 : Hid (¬ f ∈ F ∧ f ≤ F.length) := ⟨hf1, hf2⟩
      have HB5 : Hid (Below w.heap.size w w5) := bt HB2.out hb5
      have hl5 := HL.out.below HB5.out
      have HL5 : Hid (LgAt w5 g c) := hl5
      have c3 : w5.cell? ⟨g, 3, none⟩ = some (.int .i64 (c.part : Nat)) := (hl5.cell 3).trans rfl
      have f0 : ∀ i, w5.frozen? ⟨g, i, none⟩ = false := fun i => hl5.fz i
      have c7 : w5.cell? ⟨g, 7, none⟩ = some (.int .i64 (c.tf : Nat)) := (hl5.cell 7).trans rfl
      have c8 : w5.cell? ⟨g, 8, none⟩ = some (.int .i64 (c.tc : Nat)) := (hl5.cell 8).trans rfl
      have c9 : w5.cell? ⟨g, 9, none⟩ = some (.int .i64 (c.te : Nat)) := (hl5.cell 9).trans rfl
      have c10 : w5.cell? ⟨g, 10, none⟩ = some (.bool c.tt) := (hl5.cell 10).trans rfl
      have hfew : (1 : Int) < 1000 - (F.length : Int) := by have := HFEW.out; omega
      clear hb5 hf1 hf2 hl5 HFR
      go_wp2
      go_ret
      refine Or.inr ⟨HIN.out, f, HF1.out.1, HF1.out.2, rfl, ?_, (Turn.of_below HB5.out).trans (tail_turn w5 g _ _ _ _) fun x hx => Or.inl hx⟩
      exact HL5.out.setTail f
end Go.Proofs.YtnhplbdbgiimkaaGreatDoor
