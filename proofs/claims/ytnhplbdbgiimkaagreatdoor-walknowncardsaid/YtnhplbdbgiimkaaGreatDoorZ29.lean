/-
  Several texts in one: WSame6, WArms, WKeep.
-/
import Derived.Test.YtnhplbdbgiimkaaGreatDoorZ28
import Derived.Test.YtnhplbdbgiimkaaGreatDoorZ27
namespace Go.Proofs.YtnhplbdbgiimkaaGreatDoor
open Go.RowKit Go.Lib
set_option linter.unusedVariables false

set_option maxRecDepth 100000 in
theorem conv_at {w : World} {p : Option Addr} {l : List UInt8} {n c : Nat} (hx : (Part.mk p l c).ok w) (hn : n = l.length) : (convert 31 9 (.slice p n c)).run Tryz.prog w = .ok (.string ⟨l.toArray⟩) w := by
  subst hn; exact conv_str hx
set_option maxRecDepth 100000 in
set_option maxHeartbeats 4000000 in
theorem same_any (va vb : Value) (A B : List (List UInt8)) (w : World) (hA : Rows w va A) (hB : Rows w vb B) :
    Calls Tryz.prog 20 #[va, vb] w fun e w' => e = .returned (.bool (decide (A = B))) ∧ Below w.heap.size w w' := by
  obtain ⟨p, ps, cap, rfl, hp, hps, hpl, hpc, hpm⟩ := hA
  obtain ⟨q, qs, caq, rfl, hq, hqs, hql, hqc, hqm⟩ := hB
  have HA : Hid (ps.map Part.l = A) := hpl
  have HB : Hid (qs.map Part.l = B) := hql
  have HPS : Hid (∀ x ∈ ps, x.ok w) := hps
  have HQS : Hid (∀ x ∈ qs, x.ok w) := hqs
  have HP : Hid (PAt w p ps) := hp
  have HQ : Hid (PAt w q qs) := hq
  have h1 : ps.length ≤ 9223372036854775807 := Nat.le_trans hpc (Nat.le_trans hpm (by decide))
  have h2 : qs.length ≤ 9223372036854775807 := Nat.le_trans hqc (Nat.le_trans hqm (by decide))
  clear hp hps hq hqs hpl hql hpc hpm hqc hqm
  go_enter Tryz.func20, Tryz.ntmps20
  by_cases hne : ps.length = qs.length
  · have hne' : (ps.length : Int) = qs.length := by omega
    go_wp2
    go_loopw [5] (fun i wr => ∃ k : Nat, k ≤ ps.length ∧ i = .int .i64 k ∧ Below w.heap.size w wr ∧ A.take k = B.take k) (fun i _ => ps.length - (intOf i).toNat)
    case atStart => exact ⟨0, Nat.zero_le _, rfl, Below.refl _ _, by simp⟩
    case round =>
      obtain ⟨k, hk, rfl, hbw, htk⟩ := hrel
      have HBW : Hid (Below w.heap.size w wr) := hbw
      have HTK : Hid (A.take k = B.take k) := htk
      clear hbw htk
      by_cases hlt : k < ps.length
      · obtain ⟨b, o, rfl, hc⟩ := HP.out (by omega)
        obtain ⟨b', o', rfl, hc'⟩ := HQ.out (by omega)
        obtain ⟨x, hx⟩ : ∃ x, ps[k]? = some x := ⟨ps[k], by simp [hlt]⟩
        obtain ⟨y, hy⟩ : ∃ y, qs[k]? = some y := ⟨qs[k]'(by omega), by simp [show k < qs.length by omega]⟩
        have HCX : Hid (w.cell? ⟨b, o + k, none⟩ = some x.v) := hc k x hx
        have HCY : Hid (w.cell? ⟨b', o' + k, none⟩ = some y.v) := hc' k y hy
        have HOX : Hid (x.ok w) := HPS.out x (List.mem_of_getElem? hx)
        have HOY : Hid (y.ok w) := HQS.out y (List.mem_of_getElem? hy)
        have HAX : Hid (A[k]? = some x.l) := by show _ = _; rw [← HA.out, List.getElem?_map, hx]; rfl
        have HBY : Hid (B[k]? = some y.l) := by show _ = _; rw [← HB.out, List.getElem?_map, hy]; rfl
        obtain ⟨xp, xl, xc⟩ := x
        obtain ⟨yp, yl, yc⟩ := y
        simp only [Part.v] at HCX HCY HAX HBY
        clear hc hc' hx hy
        have HSW : Hid (∀ w', Below w.heap.size w w' → w'.cell? ⟨b, o + k, none⟩ = some (.slice xp xl.length xc) ∧ w'.cell? ⟨b', o' + k, none⟩ = some (.slice yp yl.length yc) ∧
            (convert 31 9 (.slice xp xl.length xc)).run Tryz.prog w' = .ok (.string ⟨xl.toArray⟩) w' ∧ (convert 31 9 (.slice yp yl.length yc)).run Tryz.prog w' = .ok (.string ⟨yl.toArray⟩) w') := by
          intro w' hb
          refine ⟨?_, ?_, conv_str (HOX.out.below hb), conv_str (HOY.out.below hb)⟩
          · rw [hb.cell (p := ⟨b, o + k, none⟩) (World.block_lt_of_cell? _ _ HCX.out)]; exact HCX.out
          · rw [hb.cell (p := ⟨b', o' + k, none⟩) (World.block_lt_of_cell? _ _ HCY.out)]; exact HCY.out
        have hi1 : (k : Int) < ps.length := by omega
        have hi2 : (k : Int) < qs.length := by omega
        go_wp2
        go_region_held3 (fun w' => w'.cell? ⟨b, o + k, none⟩ = some (.slice xp xl.length xc) ∧ w'.cell? ⟨b', o' + k, none⟩ = some (.slice yp yl.length yc) ∧
            (convert 31 9 (.slice xp xl.length xc)).run Tryz.prog w' = .ok (.string ⟨xl.toArray⟩) w' ∧ (convert 31 9 (.slice yp yl.length yc)).run Tryz.prog w' = .ok (.string ⟨yl.toArray⟩) w')
          ((refine HSW.out _ ?_; repeat (first | exact HBW.out | refine Below.drew ?_))) (fail)
        by_cases he : xl = yl
        · have hb4 : (xl == yl) = true := by rw [he]; simp
          rw [hb4]
          have HE : Hid (xl = yl) := he
          clear he hb4
          go_wp2
          go_roundw
          case rel =>
            refine ⟨k + 1, by omega, by go_num, HBW.out.drew, ?_⟩
            rw [List.take_add_one, List.take_add_one, HTK.out, HAX.out, HBY.out, HE.out]
          case measure => simp [intOf]; omega
        · have hb4 : (xl == yl) = false := by rw [beq_eq_false_iff_ne]; exact he
          rw [hb4]
          have HE : Hid (¬ A = B) := by
            intro h
            have h1 := HAX.out
            rw [h, HBY.out] at h1
            exact he (Option.some.inj h1).symm
          clear he hb4
          go_wp2
          go_ret
          refine ⟨ret_bool (by rw [decide_eq_false HE.out]), HBW.out.drew⟩
      · have HE : Hid (A = B) := by
          have h1 := HTK.out
          rwa [List.take_of_length_le (by rw [← HA.out, List.length_map]; omega), List.take_of_length_le (by rw [← HB.out, List.length_map]; omega)] at h1
        go_wp2
        go_ret
        exact ⟨ret_bool (by rw [decide_eq_true HE.out]), HBW.out⟩
  · have hne' : ¬ (ps.length : Int) = qs.length := by omega
    have HE : Hid (¬ A = B) := by
      intro h
      apply hne
      rw [← HA.out, ← HB.out] at h
      have := congrArg List.length h
      simpa using this
    go_wp2
    go_ret
    exact ⟨ret_bool (by rw [decide_eq_false HE.out]), Below.refl _ _⟩
end Go.Proofs.YtnhplbdbgiimkaaGreatDoor

namespace Go.Proofs.YtnhplbdbgiimkaaGreatDoor
open Go.RowKit Go.Lib
set_option linter.unusedVariables false

set_option maxRecDepth 100000 in
set_option maxHeartbeats 4000000 in
theorem open_arg (w : World) (d : Value) (part : Int) (h : part < 1 ∨ 1000 < part) : Calls Tryz.prog 11 #[d, .int .i64 part] w fun e w' => e = .returned (.tuple #[.pointer none, .int .i64 1]) ∧ w' = w := by
  by_cases h1 : part < 1
  · clear h
    have hb : decide (part < 1) = true := decide_eq_true h1
    go_enter Tryz.func11, Tryz.ntmps11
    go_wp2
    go_ret2
    exact ⟨rfl, rfl⟩
  · have h2 : 1000 < part := by omega
    clear h
    have hb : decide (part < 1) = false := decide_eq_false h1
    have hb2 : decide (1000 < part) = true := decide_eq_true h2
    go_enter Tryz.func11, Tryz.ntmps11
    go_wp2
    go_ret2
    exact ⟨rfl, rfl⟩
set_option maxRecDepth 100000 in
set_option maxHeartbeats 4000000 in
theorem open_off (w : World) (d : Nat) (S : Nat → Prop) (s : C.St) (part : Nat) (hd : Disk w d S s) (hp : 1 ≤ part ∧ part ≤ 1000) (hoff : s.off = true) : Calls Tryz.prog 11 #[.pointer (some ⟨d, 0, none⟩), .int .i64 (part : Nat)] w fun e w' => e = .returned (.tuple #[.pointer none, .int .i64 7]) ∧ w' = w := by
  have HPW : Hid _ := power_any w d S s hd
  rw [hoff] at HPW
  have hp1 : decide (((part : Nat) : Int) < 1) = false := decide_eq_false (by omega)
  have hp2 : decide ((1000 : Int) < (part : Nat)) = false := decide_eq_false (by omega)
  clear hd hoff
  go_enter Tryz.func11, Tryz.ntmps11
  go_wp2_with fail
  refine Calls.mono HPW.out ?_
  rintro e w1 ⟨rfl, hw⟩
  rw [hw]
  clear hw HPW w1
  go_wp2
  go_ret2
  exact ⟨rfl, rfl⟩
set_option maxRecDepth 100000 in
set_option maxHeartbeats 4000000 in
theorem add_long (w : World) (g : Value) (p : Option Addr) (ps : List Part) (cap : Nat) (hp : PAt w p ps) (hk : ps.length ≤ 100000) (hm : ∀ x ∈ ps, x.l.length ≤ maxLen) (hl : ∃ x ∈ ps, 65536 < x.l.length) : Calls Tryz.prog 12 #[g, .slice p ps.length cap] w fun e w' => e = .returned (.int .i64 2) ∧ w' = w := by
  have HCF : Hid (Calls Tryz.prog 32 #[.slice p ps.length cap, .func (.func 33) #[] #[]] w fun e w' => e = .returned (.bool true) ∧ w' = w) := (contf_any p ps cap w hp hk hm).mono fun e w' ⟨⟨z, he, hz⟩, hw⟩ => ⟨by rw [he, hz.2 hl], hw⟩
  generalize ps.length = m at *
  clear hp hk hm hl
  go_enter Tryz.func12, Tryz.ntmps12
  go_wp2_with fail
  refine HCF.out.mono ?_
  rintro e w1 ⟨rfl, hw⟩
  rw [hw]
  clear hw HCF w1
  go_wp2
  go_ret
  exact ⟨rfl, rfl⟩
set_option maxRecDepth 100000 in
set_option maxHeartbeats 4000000 in
theorem add_done (w : World) (g : Nat) (c : LgC) (S : Nat → Prop) (s : C.St) (p : Option Addr) (ps : List Part) (cap : Nat) (h : LgAt w g c) (hd : Disk w c.d S s) (hdn : doneB c s = true) (hp : PAt w p ps) (hk : ps.length ≤ 100000) (hl : ∀ x ∈ ps, x.l.length ≤ 65536) : Calls Tryz.prog 12 #[.pointer (some ⟨g, 0, none⟩), .slice p ps.length cap] w fun e w' => e = .returned (.int .i64 7) ∧ Below w.heap.size w w' := by
  have HCF : Hid (Calls Tryz.prog 32 #[.slice p ps.length cap, .func (.func 33) #[] #[]] w fun e w' => e = .returned (.bool false) ∧ w' = w) := (contf_any p ps cap w hp hk (fun x hx => by have := hl x hx; unfold maxLen; omega)).mono fun e w' ⟨⟨z, he, hz⟩, hw⟩ => ⟨by
    rw [he]
    cases z with
    | false => rfl
    | true =>
      obtain ⟨x, hx, h1⟩ := hz.1 rfl
      have := hl x hx
      omega, hw⟩
  have HDN : Hid _ := done_any w g c S s h hd
  rw [hdn] at HDN
  generalize ps.length = m at *
  clear hp hk hl h hd hdn
  go_enter Tryz.func12, Tryz.ntmps12
  go_wp2_with fail
  refine HCF.out.mono ?_
  rintro e w1 ⟨rfl, hw⟩
  rw [hw]
  clear hw HCF w1
  go_wp2_with fail
  refine Calls.mono HDN.out ?_
  rintro e w1 ⟨rfl, hb1⟩
  have HB1 : Hid (Below w.heap.size w w1) := hb1
  clear hb1 HDN
  go_wp2
  go_ret
  exact ⟨rfl, HB1.out⟩
set_option maxRecDepth 100000 in
set_option maxHeartbeats 4000000 in
theorem sync_done (w : World) (g : Nat) (c : LgC) (S : Nat → Prop) (s : C.St) (h : LgAt w g c) (hd : Disk w c.d S s) (hdn : doneB c s = true) : Calls Tryz.prog 15 #[.pointer (some ⟨g, 0, none⟩)] w fun e w' => e = .returned (.int .i64 7) ∧ Below w.heap.size w w' := by
  have HDN : Hid _ := done_any w g c S s h hd
  rw [hdn] at HDN
  clear h hd hdn
  go_enter Tryz.func15, Tryz.ntmps15
  go_wp2_with fail
  refine Calls.mono HDN.out ?_
  rintro e w1 ⟨rfl, hb1⟩
  have HB1 : Hid (Below w.heap.size w w1) := hb1
  clear hb1 HDN
  go_wp2
  go_ret
  exact ⟨rfl, HB1.out⟩
set_option maxRecDepth 100000 in
set_option maxHeartbeats 4000000 in
theorem keep_long (w : World) (g : Value) (p : Option Addr) (n cap : Nat) (hn : n ≤ maxLen) (hl : 65536 < n) : Calls Tryz.prog 14 #[g, .slice p n cap] w fun e w' => e = .returned (.int .i64 2) ∧ w' = w := by
  have HTL : Hid _ := long_any p n cap w hn
  rw [decide_eq_true hl] at HTL
  clear hn hl
  go_enter Tryz.func14, Tryz.ntmps14
  go_wp2_with fail
  refine Calls.mono HTL.out ?_
  rintro e w1 ⟨rfl, hw⟩
  rw [hw]
  clear hw HTL w1
  go_wp2
  go_ret
  exact ⟨rfl, rfl⟩
end Go.Proofs.YtnhplbdbgiimkaaGreatDoor

namespace Go.Proofs.YtnhplbdbgiimkaaGreatDoor
open Go.RowKit Go.Lib
set_option linter.unusedVariables false

theorem one_z (w : World) (f : Nat) : ZAt (w.alloc (.cells #[.int .i64 (f : Nat)] 3)) (some ⟨w.heap.size, 0, none⟩) [(f : Int)] := by
  intro _
  refine ⟨w.heap.size, 0, rfl, fun i hi => ?_⟩
  have hi0 : i = 0 := by simp at hi; omega
  subst hi0
  exact (blk_cell (heap_alloc_new w (.cells #[.int .i64 (f : Nat)] 3)) 0).trans rfl
namespace C
/-- The disk behind Keep. -/
def keepS (s : St) (f : Nat) (l : List UInt8) : St := dropBut [(f : Int)] (fs (syncS (appS s f l) f)) (syncS (appS s f l) f)
theorem keepS_ws {s : St} (hok : s.Ok) {f : Nat} (hf : s.is f = false) (h1000 : f < 1000) (l : List UInt8) : (keepS s f l).ws.map wkey = [(f, l, true)] := by
  unfold keepS
  rw [dropBut_ws]
  have e0 : (syncS (appS s f l) f).ws = (s.ws ++ [(⟨s.made, f, l, false⟩ : Wr)]).map (synW f) := rfl
  rw [e0]
  have hin : ∀ k, s.is k = true ∨ k = f → k ∈ fs (syncS (appS s f l) f) := fun k hk => by
    refine List.mem_filter.2 ⟨List.mem_range.2 ?_, ?_⟩
    · rcases hk with hk | hk
      · exact hok.files k hk
      · omega
    · show (s.is k || k == f) = true
      rcases hk with hk | hk
      · rw [hk]; rfl
      · simp [hk]
  rw [List.map_append, List.filter_append]
  have e1 : List.filter (fun x : Wr => !(decide (x.file ∈ fs (syncS (appS s f l) f)) && !decide ((x.file : Int) ∈ [(f : Int)]))) (s.ws.map (synW f)) = [] := List.filter_eq_nil_iff.2 fun x hx => by
    obtain ⟨y, hy, rfl⟩ := List.mem_map.1 hx
    have h1 := hok.has y hy
    have h2 : y.file ≠ f := fun e => by rw [e, hf] at h1; cases h1
    have h3 : ¬ (y.file : Int) = (f : Int) := by omega
    rw [synW_file]
    simp [hin _ (Or.inl h1), h3]
  rw [e1, List.nil_append]
  have h4 : ((synW f ⟨s.made, f, l, false⟩ : Wr).file) = f := synW_file _ _
  have e2 : List.filter (fun x : Wr => !(decide (x.file ∈ fs (syncS (appS s f l) f)) && !decide ((x.file : Int) ∈ [(f : Int)]))) ([(⟨s.made, f, l, false⟩ : Wr)].map (synW f)) = [synW f ⟨s.made, f, l, false⟩] := by
    refine List.filter_eq_self.2 fun x hx => ?_
    have hx' : x = synW f ⟨s.made, f, l, false⟩ := by simpa using hx
    rw [hx', h4]
    simp
  rw [e2]
  simp [wkey, h4, synW_bytes, synW_same]
theorem keepS_is {s : St} (hok : s.Ok) {f : Nat} (h1000 : f < 1000) (l : List UInt8) (k : Nat) : (keepS s f l).is k = true ↔ k = f := by
  unfold keepS
  rw [dropBut_is]
  show ((s.is k || k == f) && _) = true ↔ _
  by_cases hk : k = f
  · subst hk; simp
  · have h1 : (k == f) = false := by simpa using hk
    have h2 : ¬ (k : Int) = (f : Int) := by omega
    rw [h1, Bool.or_false]
    constructor
    · intro h
      rw [Bool.and_eq_true] at h
      have h3 : k ∈ fs (syncS (appS s f l) f) := by
        refine List.mem_filter.2 ⟨List.mem_range.2 (hok.files k h.1), ?_⟩
        show (s.is k || k == f) = true
        rw [h.1]; rfl
      have h4 := h.2
      simp [h3, h2] at h4
    · intro h; exact absurd h hk
theorem keepS_keeps (s : St) (f : Nat) (l : List UInt8) : (keepS s f l).off = s.off ∧ (keepS s f l).lives = s.lives ∧ (keepS s f l).made = s.made + 1 ∧ (keepS s f l).room = s.room := dropBut_off _ _ _
theorem Bud.keep {s : St} {n M : Nat} (h : Bud s n M) (f : Nat) {l : List UInt8} (hl : l.length ≤ 600) : Bud (keepS s f l) (n + 1) (M + 1) := by
  have h1 : Bud (appS s f l) (n + 1) (M + 1) := h.app (k := 1) (by omega) (by omega)
  exact (h1.syncs [f]).dropBut _ _
end C
theorem keep_sets {w : World} {g : Nat} {c : LgC} (h : LgAt w g c) (v : Value) (f : Nat) : LgAt (((((((w.setCell ⟨g, 5, none⟩ v).setCell ⟨g, 6, none⟩ (.slice none 0 0)).setCell ⟨g, 7, none⟩ (.int .i64 (f : Nat))).setCell ⟨g, 8, none⟩ (.int .i64 0)).setCell ⟨g, 9, none⟩ (.int .i64 0)).setCell ⟨g, 10, none⟩ (.bool false)).setCell ⟨g, 11, none⟩ (.slice none 0 0)) g { c with base := v, recs := .slice none 0 0, tf := f, tc := 0, te := 0, tt := false, dirty := .slice none 0 0 } ∧ w.grownBy (((((((w.setCell ⟨g, 5, none⟩ v).setCell ⟨g, 6, none⟩ (.slice none 0 0)).setCell ⟨g, 7, none⟩ (.int .i64 (f : Nat))).setCell ⟨g, 8, none⟩ (.int .i64 0)).setCell ⟨g, 9, none⟩ (.int .i64 0)).setCell ⟨g, 10, none⟩ (.bool false)).setCell ⟨g, 11, none⟩ (.slice none 0 0)) (some g) :=
  ⟨((((((h.set 5 v (c' := { c with base := v }) rfl).set 6 _ (c' := { c with base := v, recs := .slice none 0 0 }) rfl).set 7 _ (c' := { c with base := v, recs := .slice none 0 0, tf := f }) rfl).set 8 _ (c' := { c with base := v, recs := .slice none 0 0, tf := f, tc := 0 }) rfl).set 9 _ (c' := { c with base := v, recs := .slice none 0 0, tf := f, tc := 0, te := 0 }) rfl).set 10 _ (c' := { c with base := v, recs := .slice none 0 0, tf := f, tc := 0, te := 0, tt := false }) rfl).set 11 _ rfl,
   gtransL (gtransL (gtransL (gtransL (gtransL (gtransL (set_grown _ _ _ _) (set_grown _ _ _ _)) (set_grown _ _ _ _)) (set_grown _ _ _ _)) (set_grown _ _ _ _)) (set_grown _ _ _ _)) (set_grown _ _ _ _)⟩
theorem keep_end {w w4 w5 w7 w8 W9 : World} {gl : Nat} {c : LgC} {S Sl Sd : Nat → Prop} {s : C.St} {a : Nat} {G : List C.Gr} {base l : List UInt8} {recs : List (List UInt8)} {dl : List Nat} {n M f : Nat} {u v : Value}
    (h : LogM w gl c S s a G base recs recs n M) (hL : LMem w gl c Sl base recs dl) (hD : Disk w c.d Sd s) (hSl : ∀ b, Sl b → S b) (hSd : ∀ b, Sd b → S b) (hne : ∀ b, Sl b → ¬ Sd b) (hf : ¬ f ∈ C.fs s) (hf9 : f < 999) (hl : l.length ≤ 570) (ha : a + 1 < 4294967296)
    (hb4 : Below w.heap.size w w4) (h45 : w4.heap.size ≤ w5.heap.size) (hd7 : Disk w7 c.d (Ext w4 w5 Sd) (C.keepS s f (C.ent (c.age + 1) 0 l))) (ht7 : Turn w w7 Sd) (hz7 : w5.heap.size ≤ w7.heap.size) (hb8 : Below (w7.setCell ⟨gl, 4, none⟩ u).heap.size (w7.setCell ⟨gl, 4, none⟩ u) w8) (ho8 : Own w8 (w7.setCell ⟨gl, 4, none⟩ u).heap.size v l)
    (hl9 : LgAt W9 gl { c with age := c.age + 1, base := v, recs := .slice none 0 0, tf := f, tc := 0, te := 0, tt := false, dirty := .slice none 0 0 }) (hg9 : w8.grownBy W9 (some gl)) :
    (∃ c' s' G', LogM W9 gl c' (Ext w W9 S) s' (a + 1) G' l [] [] (n + 1) (M + 1) ∧ c'.d = c.d ∧ c'.part = c.part ∧ s'.lives = s.lives ∧ s'.room = s.room ∧ (∀ x ∈ C.flat G', x.safe = true) ∧ C.Clean G') ∧ Turn w W9 S := by
  have t79 : Turn w7 W9 (fun x => x = gl) := ((Turn.setCell (S := fun x => x = gl) (Turn.refl w7 _) rfl u).trans (Turn.of_below (S := fun x => x = gl) hb8) fun x hx => Or.inl hx).trans (Turn.of_grown (S := fun x => x = gl) hg9 fun b hb => (Option.some.inj hb).symm) fun x hx => Or.inl hx
  have t9 : Turn w W9 (fun x => x = gl ∨ Sd x) := (ht7.mono fun b hb => Or.inr hb).trans t79 fun x hx => Or.inl (Or.inl hx)
  have hgl : gl < w.heap.size := hL.lt gl hL.mem
  have hz : w.heap.size ≤ (w7.setCell ⟨gl, 4, none⟩ u).heap.size := by rw [size_setC]; exact ht7.size
  have hz4 := hb4.size
  have hz9 := t79.size
  have h89 := hg9.size
  have tS : Turn w W9 S := t9.mono fun b hb => by
    rcases hb with e | e
    · rw [e]; exact hSl gl hL.mem
    · exact hSd b e
  have hown : Own W9 0 v l := (ho8.lower (Nat.zero_le _)).same fun b hb => hg9.block b (row_lt ho8 hb) fun e => by
    have h1 := ho8.ge b hb
    have h2 := Option.some.inj e
    omega
  have hw7 : w.heap.size ≤ w7.heap.size := ht7.size
  have hext : ∀ b, Ext w7 W9 Sl b → b < W9.heap.size := ext_lt (fun b hb => Nat.lt_of_lt_of_le (hL.lt b hb) hw7) t79
  have hm : LMem W9 gl { c with age := c.age + 1, base := v, recs := .slice none 0 0, tf := f, tc := 0, te := 0, tt := false, dirty := .slice none 0 0 } (Ext w7 W9 Sl) l [] [] :=
    ⟨hl9, Or.inl hL.mem, hown, fun b hb => Or.inr ⟨by have h1 := ho8.ge b hb; rw [size_setC] at h1; exact h1, Nat.lt_of_lt_of_le (row_lt ho8 hb) h89⟩, RecsIn.nil _ _, OwnI.nil _, (fun b hb => by cases hb), hext⟩
  have hng : ¬ Ext w4 w5 Sd gl := fun hx => by
    rcases hx with hx | hx
    · exact hne gl hL.mem hx
    · omega
  obtain ⟨k0, -⟩ := C.not_file h.log h.ok hf
  obtain ⟨k1, k2, k3, k4⟩ := C.keepS_keeps s f (C.ent (c.age + 1) 0 l)
  have hent : (C.ent (c.age + 1) 0 l).length ≤ 600 := by rw [C.ent_length]; omega
  have hlog : C.LogW (C.keepS s f (C.ent (c.age + 1) 0 l)) (a + 1) [⟨f, [⟨f, 0, [l], [], true⟩]⟩] := C.LogW.kept (num := 0) ha (by omega) (by rw [C.keepS_ws h.ok k0 (by omega), C.ents_one, h.age]) fun k => C.keepS_is h.ok (by omega) _ k
  refine ⟨⟨_, C.keepS s f (C.ent (c.age + 1) 0 l), [⟨f, [⟨f, 0, [l], [], true⟩]⟩], ⟨⟨Ext w7 W9 Sl, Ext w4 w5 Sd, [], hm, hd7.turn t79 (fun b hb e => hng (by rw [← e]; exact hb)), fun b hb => ?_, fun b hb => ?_, fun b hb hb2 => ?_, fun x hx hs => ?_, (fun x hx => by cases hx), Nat.zero_le _⟩, ext_lt h.lt tS, hlog, ?_, fun e => by omega, Or.inr ⟨[], _, rfl, rfl, fun _ x hx => ?_⟩, Nat.zero_le _, k1.trans h.off, h.lives.trans k2.symm, h.full, by show c.age + 1 = a + 1; rw [h.age], h.part, h.bud.keep f hent⟩, rfl, rfl, k2, k4, fun x hx => ?_, fun x hx => ?_⟩, tS⟩
  · rcases hb with hb | hb
    · exact Or.inl (hSl b hb)
    · exact Or.inr ⟨by omega, hb.2⟩
  · rcases hb with hb | hb
    · exact Or.inl (hSd b hb)
    · exact Or.inr ⟨by omega, by omega⟩
  · rcases hb with h1 | h1
    · rcases hb2 with h2 | h2
      · exact hne b h1 h2
      · have := hL.lt b h1
        omega
    · rcases hb2 with h2 | h2
      · have := hD.lt h2
        omega
      · omega
  · obtain rfl : x = ⟨f, 0, [l], [], true⟩ := by simpa [C.flat] using hx
    cases hs
  · simp [C.flat, C.recsL, C.whole]
  · obtain rfl : x = ⟨f, 0, [l], [], true⟩ := by simpa using hx
    rfl
  · obtain rfl : x = ⟨f, 0, [l], [], true⟩ := by simpa [C.flat] using hx
    rfl
  · obtain rfl : x = ⟨f, 0, [l], [], true⟩ := by simpa [C.flat] using hx
    rfl
set_option maxRecDepth 100000 in
set_option maxHeartbeats 8000000 in
theorem logm_keep (w : World) (gl : Nat) (c : LgC) (S : Nat → Prop) (s : C.St) (a : Nat) (G : List C.Gr) (base : List UInt8) (recs : List (List UInt8)) (n M : Nat) (p : Option Addr) (l : List UInt8) (cap : Nat) (h : LogM w gl c S s a G base recs recs n M) (hT : TStay w S) (hx : Stay1 w S ⟨p, l, cap⟩) (hl : l.length ≤ 570) (hn : n + 1 ≤ 998) (hroom : 600 * (n + 1) ≤ s.room) (hM : M + 1 ≤ 100000) (ha : a + 1 < 4294967296) :
    Calls Tryz.prog 14 #[.pointer (some ⟨gl, 0, none⟩), .slice p l.length cap] w fun e w' => e = .returned (.int .i64 0) ∧ (∃ c' s' G', LogM w' gl c' (Ext w w' S) s' (a + 1) G' l [] [] (n + 1) (M + 1) ∧ c'.d = c.d ∧ c'.part = c.part ∧ s'.lives = s.lives ∧ s'.room = s.room ∧ (∀ x ∈ C.flat G', x.safe = true) ∧ C.Clean G') ∧ Turn w w' S := by
  obtain ⟨Sl, Sd, dl, hL, hD, hSl, hSd, hne, hun, hdl, hdm⟩ := h.sets
  have HTL : Hid _ := long_any p l.length cap w (hx w (Turn.refl w S)).1
  rw [decide_eq_false (show ¬ 65536 < l.length by omega)] at HTL
  have HDN : Hid _ := done_any w gl c Sd s hL.at_ hD
  rw [h.done] at HDN
  have HFR : Hid (∀ W, Below w.heap.size w W → Calls Tryz.prog 38 #[.pointer (some ⟨gl, 0, none⟩)] W fun e w' => (∃ f : Nat, e = .returned (.tuple #[.int .i64 (f : Nat), .int .i64 (1000 - ((C.fs s).length : Int))]) ∧ ¬ f ∈ C.fs s ∧ f ≤ (C.fs s).length) ∧ Below W.heap.size W w') := fun W hW => free_any W gl c Sd s (hL.at_.below hW) (hD.below hW) (by have := h.bud.made; omega) h.off
  have HH : Hid (LogM w gl c S s a G base recs recs n M) := h
  have HL : Hid (LMem w gl c Sl base recs dl) := hL
  have HLA : Hid (LgAt w gl c) := hL.at_
  have HD : Hid (Disk w c.d Sd s) := hD
  have HSL : Hid (∀ b, Sl b → S b) := hSl
  have HSD : Hid (∀ b, Sd b → S b) := hSd
  have HNE : Hid (∀ b, Sl b → ¬ Sd b) := hne
  have HT : Hid (TStay w S) := hT
  have HX : Hid (Stay1 w S ⟨p, l, cap⟩) := hx
  have HLL : Hid (l.length ≤ 570) := hl
  have HN : Hid (n + 1 ≤ 998) := hn
  have HRM : Hid (600 * (n + 1) ≤ s.room) := hroom
  have HMM : Hid (M + 1 ≤ 100000) := hM
  have HAA : Hid (a + 1 < 4294967296) := ha
  have HAG : Hid (c.age = a) := h.age
  obtain ⟨m, hm⟩ : ∃ m, m = l.length := ⟨_, rfl⟩
  have HM : Hid (m = l.length) := hm
  rw [← hm] at HTL ⊢
  clear h hL hD hSl hSd hne hun hdl hdm hT hx hl hn hroom hM hm
  have hca : c.age + 1 < 4294967296 := by have h1 := HAG.out; have h2 := HAA.out; omega
  clear ha
  go_enter Tryz.func14, Tryz.ntmps14
  go_wp2_with fail
  refine Calls.mono HTL.out ?_
  rintro e w1 ⟨rfl, hw⟩
  rw [hw]
  clear hw w1 HTL
  go_wp2_with fail
  refine Calls.mono HDN.out ?_
  rintro e w2 ⟨rfl, hb2⟩
  have HB2 : Hid (Below w.heap.size w w2) := hb2
  clear hb2 HDN
  go_wp2_with fail
  refine (HFR.out w2 HB2.out).mono ?_
  rintro e w3 ⟨⟨f, rfl, hf1, hf2⟩, hb3⟩
  have HF : Hid (¬ f ∈ C.fs s ∧ f ≤ (C.fs s).length) := ⟨hf1, hf2⟩
  have HF9 : Hid (f < 999) := by show f < 999; have := HH.out.bud.files; have := HN.out; omega
  have HB3 : Hid (Below w.heap.size w w3) := bt HB2.out hb3
  have HL3 : Hid (LgAt w3 gl c) := HLA.out.below HB3.out
  clear hb3 hf1 hf2 HFR HB2 w2
  go_wp2_with fail
  have d0 : ∀ t : HW (fun v => LgAt v gl c), t.v.cell? ⟨gl, 0, none⟩ = some (.pointer (some ⟨c.d, 0, none⟩)) := fun t => (t.h.cell 0).trans rfl
  have d4 : ∀ t : HW (fun v => LgAt v gl c), t.v.cell? ⟨gl, 4, none⟩ = some (.int .i64 (c.age : Nat)) := fun t => (t.h.cell 4).trans rfl
  have hne : Nonempty (HW (fun v => LgAt v gl c)) := ⟨⟨w3, HL3.out⟩⟩
  have hC : ∃ t : HW (fun v => LgAt v gl c), w3.drew = t.v := ⟨⟨w3.drew, HL3.out⟩, rfl⟩
  refine wp_region_held_drew (S := fun w' => ∃ t : HW (fun v => LgAt v gl c), w' = t.v) (by kernel_rfl) hC (fun _ => ?_)
  have HB3d : Hid (Below w.heap.size w w3.drew) := HB3.out.drew
  have HL3d : Hid (LgAt w3.drew gl c) := HL3.out
  generalize hW0 : w3.drew = W0 at *
  clear hW0
  refine takeList (i := 0) rfl (by kernel_rfl) (by kernel_rfl) (by kernel_rfl) (fun _ _ _ _ h => h) rfl rfl hC (fun K hK => ?_)
  go_big_quiet_op
  refine hK _ ?_
  clear hK K
  refine takeNil (i := 1) rfl rfl rfl (by kernel_rfl) (by kernel_rfl) (by kernel_rfl) (fun _ _ _ _ h => h) rfl hC ?_
  go_simp
  refine takeList (i := 2) rfl (by kernel_rfl) (by kernel_rfl) (by kernel_rfl) (fun _ _ _ _ h => h) rfl rfl hC (fun K hK => ?_)
  go_big_quiet_op
  refine hK _ ?_
  clear hK K
  refine takeList (i := 3) rfl (by kernel_rfl) (by kernel_rfl) (by kernel_rfl) (fun _ _ _ _ h => h) rfl rfl hC (fun K hK => ?_)
  go_big_quiet_op
  refine hK _ ?_
  clear hK K
  refine takeList (i := 4) rfl (by kernel_rfl) (by kernel_rfl) (by kernel_rfl) (fun _ _ _ _ h => h) rfl rfl hC (fun K hK => ?_)
  go_big_quiet_op
  refine hK _ ?_
  clear hK K
  refine takeList (i := 5) rfl (by kernel_rfl) (by kernel_rfl) (by kernel_rfl) (fun _ _ _ _ h => h) rfl rfl hC (fun K hK => ?_)
  go_big_quiet_op
  refine hK _ ?_
  clear hK K
  refine takeNil (i := 6) rfl rfl rfl (by kernel_rfl) (by kernel_rfl) (by kernel_rfl) (fun _ _ _ _ h => h) rfl hC ?_
  go_simp
  refine takeList (i := 7) rfl (by kernel_rfl) (by kernel_rfl) (by kernel_rfl) (fun _ _ _ _ h => h) rfl rfl hC (fun K hK => ?_)
  go_big_quiet_op
  refine hK _ ?_
  clear hK K
  refine takeList (i := 8) rfl (by kernel_rfl) (by kernel_rfl) (by kernel_rfl) (fun _ _ _ _ h => h) rfl rfl hC (fun K hK => ?_)
  go_big_quiet_op
  refine hK _ ?_
  clear hK K
  refine takeList (i := 9) rfl (by kernel_rfl) (by kernel_rfl) (by kernel_rfl) (fun _ _ _ _ h => h) rfl rfl hC (fun K hK => ?_)
  go_big_quiet_op
  refine hK _ ?_
  clear hK K
  refine takeList (i := 10) rfl (by kernel_rfl) (by kernel_rfl) (by kernel_rfl) (fun _ _ _ _ h => h) rfl rfl hC (fun K hK => ?_)
  go_big_quiet_op
  refine hK _ ?_
  clear hK K
  have HEN : Hid (Calls Tryz.prog 40 #[.int .i64 ((c.age : Int) + 1), .int .i64 0, .slice p m cap] W0 fun e w' => (∃ v, e = .returned v ∧ Own w' W0.heap.size v (C.ent (c.age + 1) 0 l)) ∧ Below W0.heap.size W0 w') := by
    have h1 := entry_any (c.age + 1) 0 p l cap W0 (HT.out W0 (Turn.of_below HB3d.out)) (HX.out W0 (Turn.of_below HB3d.out)) (by rw [HAG.out]; exact HAA.out) (by omega) (by have := HLL.out; omega)
    rw [← HM.out] at h1
    exact h1
  refine callList (i := 11) rfl (by kernel_rfl) rfl (fun K hK => ?_)
  go_simp
  refine Calls.mono (HEN.out) ?_
  rintro e w4 ⟨⟨v4, rfl, ho4⟩, hb4⟩
  have HB4 : Hid (Below w.heap.size w w4) := bt HB3d.out hb4
  have HL4 : Hid (LgAt w4 gl c) := HL3d.out.below hb4
  obtain ⟨p4, c4, rfl, hpk⟩ := Own.part ho4
  have HPK : Hid (Part.ok w4 ⟨p4, C.ent (c.age + 1) 0 l, c4⟩) := hpk
  clear hpk ho4 hb4 HEN
  refine hK.out _ _ ⟨⟨_, HL4.out⟩, rfl⟩ ?_
  try go_simp
  clear hK K hC
  have hC : ∃ t : HW (fun v => LgAt v gl c), w4 = t.v := ⟨⟨_, HL4.out⟩, rfl⟩
  have HEL : Hid ((C.ent (c.age + 1) 0 l).length ≤ 600) := by show _ ≤ _; rw [C.ent_length]; have := HLL.out; omega
  have HAP : Hid _ := append_ok w4 c.d Sd s f p4 (C.ent (c.age + 1) 0 l) c4 (HD.out.below HB4.out) HPK.out (free_ref HH.out.off HF.out.2 (by have := HH.out.bud.files; have := HN.out; omega)) (by have h1 := HH.out.bud.used; have h2 := HEL.out; have h3 := HRM.out; omega) (by have := HH.out.bud.made; have := HMM.out; omega)
  refine callList (i := 12) rfl (by kernel_rfl) rfl (fun K hK => ?_)
  go_simp
  refine Calls.mono (HAP.out) ?_
  rintro e w5 ⟨rfl, hd5, ht5⟩
  have HD5 : Hid (Disk w5 c.d (Ext w4 w5 Sd) (C.appS s f (C.ent (c.age + 1) 0 l))) := hd5
  have HT5 : Hid (Turn w4 w5 Sd) := ht5
  have HL5 : Hid (LgAt w5 gl c) := (ht5.block gl (Array.getElem?_eq_some_iff.1 HL4.out).1 (fun hx => HNE.out gl HL.out.mem hx)).trans HL4.out
  clear hd5 ht5 HAP
  refine hK.out _ _ ⟨⟨_, HL5.out⟩, rfl⟩ ?_
  try go_simp
  clear hK K hC
  have hC : ∃ t : HW (fun v => LgAt v gl c), w5 = t.v := ⟨⟨_, HL5.out⟩, rfl⟩
  refine takeList (i := 13) rfl (by kernel_rfl) (by kernel_rfl) (by kernel_rfl) (fun _ _ _ _ h => h) rfl rfl hC (fun K hK => ?_)
  go_big_quiet_op
  refine hK _ ?_
  clear hK K
  refine wpAnyH_done (by kernel_rfl) ?_ _
  clear d0 d4 hne hC
  have HNG : Hid (¬ Ext w4 w5 Sd gl) := fun hx => by
    rcases hx with hx | hx
    · exact HNE.out gl HL.out.mem hx
    · have h1 := HL.out.lt gl HL.out.mem
      have h2 := HB4.out.size
      omega
  have c0 : w5.cell? ⟨gl, 0, none⟩ = some (.pointer (some ⟨c.d, 0, none⟩)) := (HL5.out.cell 0).trans rfl
  have HSY : Hid _ := sync_ok w5 c.d (Ext w4 w5 Sd) (C.appS s f (C.ent (c.age + 1) 0 l)) f HD5.out (free_ref (s := s) HH.out.off HF.out.2 (by have := HH.out.bud.files; have := HN.out; omega)) (by simp [C.appS])
  go_wp2_with fail
  refine Calls.mono HSY.out ?_
  rintro e w6 ⟨rfl, hd6, ht6⟩
  have HD6 : Hid (Disk w6 c.d (Ext w4 w5 Sd) (C.syncS (C.appS s f (C.ent (c.age + 1) 0 l)) f)) := hd6
  have HT6 : Hid (Turn w5 w6 (Ext w4 w5 Sd)) := ht6
  have HL6 : Hid (LgAt w6 gl c) := (ht6.block gl (Array.getElem?_eq_some_iff.1 HL5.out).1 HNG.out).trans HL5.out
  clear hd6 ht6 HSY c0
  have HDB : Hid (Calls Tryz.prog 31 #[.pointer (some ⟨gl, 0, none⟩), .slice (some ⟨w6.heap.size, 0, none⟩) 1 1] (w6.alloc (.cells #[.int .i64 (f : Nat)] 3)) fun e w' => e = .returned (.tuple #[]) ∧ Disk w' c.d (Ext w4 w5 Sd) (C.keepS s f (C.ent (c.age + 1) 0 l)) ∧ Turn (w6.alloc (.cells #[.int .i64 (f : Nat)] 3)) w' (Ext w4 w5 Sd)) :=
    dropb_any (w6.alloc (.cells #[.int .i64 (f : Nat)] 3)) gl c (Ext w4 w5 Sd) (C.syncS (C.appS s f (C.ent (c.age + 1) 0 l)) f) (some ⟨w6.heap.size, 0, none⟩) [(f : Int)] 1 (HL6.out.below (below_new _ _)) (HD6.out.below (below_new _ _)) (by show s.made + 1 ≤ 1000000; have := HH.out.bud.made; have := HMM.out; omega) HH.out.off HNG.out (one_z w6 f) (fun x hx hs => by cases hx; exact Nat.lt_irrefl _ (HD6.out.lt hs)) (by simp)
  go_wp2_with fail
  refine HDB.out.mono ?_
  rintro e w7 ⟨rfl, hd7, ht7⟩
  have HD7 : Hid (Disk w7 c.d (Ext w4 w5 Sd) (C.keepS s f (C.ent (c.age + 1) 0 l))) := hd7
  have HT7 : Hid (Turn w w7 Sd) := (((Turn.of_below HB4.out).trans HT5.out fun x hx => Or.inl hx).trans HT6.out fun x hx => hx.imp id fun h1 => Nat.le_trans HB4.out.size h1.1).trans ((Turn.of_below (below_new w6 _)).trans ht7 fun x hx => Or.inl hx) fun x hx => hx.imp id fun h1 => Nat.le_trans HB4.out.size h1.1
  have HL7 : Hid (LgAt w7 gl c) := (HT7.out.block gl (HL.out.lt gl HL.out.mem) (HNE.out gl HL.out.mem)).trans HLA.out
  have HZ7 : Hid (w5.heap.size ≤ w7.heap.size) := by show _ ≤ _; have h1 := HT6.out.size; have h2 := ht7.size; simp at h2; omega
  clear hd7 ht7 HDB
  have c4 : w7.cell? ⟨gl, 4, none⟩ = some (.int .i64 (c.age : Nat)) := (HL7.out.cell 4).trans rfl
  have f4 := HL7.out.fz 4
  have HL7s : Hid (LgAt (w7.setCell ⟨gl, 4, none⟩ (.int .i64 ((c.age : Int) + 1))) gl { c with age := c.age + 1 }) := HL7.out.set 4 _ (by simp [LgC.cells])
  have HT7s : Hid (Turn w (w7.setCell ⟨gl, 4, none⟩ (.int .i64 ((c.age : Int) + 1))) (fun x => x = gl ∨ Sd x)) := Turn.setCell (S := fun x => x = gl ∨ Sd x) (HT7.out.mono fun b hb => Or.inr hb) (Or.inl rfl) _
  have HCL : Hid (Calls Tryz.prog 37 #[.slice p m cap] (w7.setCell ⟨gl, 4, none⟩ (.int .i64 ((c.age : Int) + 1))) fun e w' => (∃ v, e = .returned v ∧ Own w' (w7.setCell ⟨gl, 4, none⟩ (.int .i64 ((c.age : Int) + 1))).heap.size v l) ∧ Below (w7.setCell ⟨gl, 4, none⟩ (.int .i64 ((c.age : Int) + 1))).heap.size (w7.setCell ⟨gl, 4, none⟩ (.int .i64 ((c.age : Int) + 1))) w') := by
    have h1 := clone_any p l cap (w7.setCell ⟨gl, 4, none⟩ (.int .i64 ((c.age : Int) + 1))) (HX.out _ (HT7s.out.mono fun b hb => by rcases hb with e | e; rw [e]; exact HSL.out gl HL.out.mem; exact HSD.out b e)) (by have := HLL.out; omega)
    rw [← HM.out] at h1
    exact h1
  go_wp2_with fail
  refine HCL.out.mono ?_
  rintro e w8 ⟨⟨v8, rfl, ho8⟩, hb8⟩
  obtain ⟨p8, k8, hv8, -⟩ := Own.part ho8
  have HO8 : Hid (Own w8 (w7.setCell ⟨gl, 4, none⟩ (.int .i64 ((c.age : Int) + 1))).heap.size v8 l) := ho8
  have HB8 : Hid (Below (w7.setCell ⟨gl, 4, none⟩ (.int .i64 ((c.age : Int) + 1))).heap.size (w7.setCell ⟨gl, 4, none⟩ (.int .i64 ((c.age : Int) + 1))) w8) := hb8
  have HL8 : Hid (LgAt w8 gl { c with age := c.age + 1 }) := HL7s.out.below hb8
  have HS8 : Hid (w8.heap.size ≥ w7.heap.size) := by show _ ≤ _; have h1 := hb8.size; rw [size_setC] at h1; exact h1
  clear ho8 hb8 HCL c4 f4
  have e5 : w8.cell? ⟨gl, 5, none⟩ = some c.base := (HL8.out.cell 5).trans rfl
  obtain ⟨e6, e7, e8, e9, e10⟩ := log_cells HL8.out
  have e11 : w8.cell? ⟨gl, 11, none⟩ = some c.dirty := (HL8.out.cell 11).trans rfl
  have f5 := HL8.out.fz 5
  have f6 := HL8.out.fz 6
  have f7 := HL8.out.fz 7
  have f8 := HL8.out.fz 8
  have f9 := HL8.out.fz 9
  have f10 := HL8.out.fz 10
  have f11 := HL8.out.fz 11
  rw [← HM.out] at hv8
  subst hv8
  go_wp2
  go_ret
  have hks := keep_sets HL8.out (.slice p8 m k8) f
  exact ⟨rfl, keep_end HH.out HL.out HD.out HSL.out HSD.out HNE.out HF.out.1 HF9.out HLL.out HAA.out HB4.out HT5.out.size HD7.out HT7.out HZ7.out HB8.out HO8.out hks.1 hks.2⟩
end Go.Proofs.YtnhplbdbgiimkaaGreatDoor
