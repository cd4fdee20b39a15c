/-
  Several texts in one: WAddB, WX2, BOpen.
-/
import Derived.Test.YtnhplbdbgiimkaaGreatDoorZ28
import Derived.Test.YtnhplbdbgiimkaaGreatDoorZ30
import Derived.Test.YtnhplbdbgiimkaaGreatDoorZ26
import Derived.Test.YtnhplbdbgiimkaaGreatDoorZ6
import Derived.Deep.Matrix
namespace Go.Proofs.YtnhplbdbgiimkaaGreatDoor
open Go.RowKit Go.Lib
set_option linter.unusedVariables false

set_option maxRecDepth 100000 in
set_option maxHeartbeats 8000000 in
theorem logm_add_bad (w : World) (gl : Nat) (c : LgC) (S : Nat → Prop) (s : C.St) (a : Nat) (G : List C.Gr) (base : List UInt8) (recs : List (List UInt8)) (n M : Nat) (p : Option Addr) (ps : List Part) (cap : Nat) (h : LogM w gl c S s a G base recs recs n M) (hT : TStay w S) (ho : Stay w S p ps) (hr : ∀ x ∈ ps, x.l.length ≤ 570) (hn : n + ps.length ≤ 998) (hroom : ps.length = 1 ∧ s.room < C.used s.ws + (C.ents a (recs.length + 1) (ps.map Part.l)).length) (hM : M + 1 + ps.length ≤ 100000) (hlen : recs.length + ps.length ≤ 100000) (hcap : ps.length ≤ cap) (hcapm : cap ≤ maxLen) :
    Calls Tryz.prog 12 #[.pointer (some ⟨gl, 0, none⟩), .slice p ps.length cap] w fun e w' => e = .returned (.int .i64 6) ∧ (∃ c1 s' G', LgAt w' gl c1 ∧ c1.full = true ∧ c1.d = c.d ∧ DLog w' c.d (Ext w w' S) s' a G' base recs n (M + 1) ∧ s'.off = false ∧ s'.lives = s.lives ∧ s'.room = s.room) ∧ Turn w w' S := by
  have HCF : Hid (Calls Tryz.prog 32 #[.slice p ps.length cap, .func (.func 33) #[] #[]] w fun e w' => e = .returned (.bool false) ∧ w' = w) := (contf_any p ps cap w (ho w (Turn.refl w S)).1 (by omega) fun x hx => ((ho w (Turn.refl w S)).2 x hx).1).mono fun e w' ⟨⟨z, he, hz⟩, hw⟩ => ⟨by
    rw [he]
    cases z with
    | false => rfl
    | true =>
      obtain ⟨x, hx, h1⟩ := hz.1 rfl
      have := hr x hx
      omega, hw⟩
  have HDN : Hid _ := logm_done w gl c S s a G base recs recs n M h
  have HLT : Hid (∀ x ∈ ps, x.l.length ≤ 570) := hr
  have HH : Hid (LogM w gl c S s a G base recs recs n M) := h
  have HT : Hid (TStay w S) := hT
  have HO : Hid (Stay w S p ps) := ho
  have HN : Hid (n + ps.length ≤ 998) := hn
  have HRM : Hid (ps.length = 1 ∧ s.room < C.used s.ws + (C.ents a (recs.length + 1) (ps.map Part.l)).length) := hroom
  have HMM : Hid (M + 1 + ps.length ≤ 100000) := hM
  have HLEN : Hid (recs.length + ps.length ≤ 100000) := hlen
  have HCP : Hid (ps.length ≤ cap ∧ cap ≤ maxLen) := ⟨hcap, hcapm⟩
  obtain ⟨m, hm⟩ : ∃ m, m = ps.length := ⟨_, rfl⟩
  have HM : Hid (m = ps.length) := hm
  rw [← hm] at HCF ⊢
  have hm1 : m ≤ 998 := by omega
  clear h hT ho hr hn hroom hM hlen hcap hcapm hm
  go_enter Tryz.func12, Tryz.ntmps12
  go_wp2_with fail
  refine HCF.out.mono ?_
  rintro e w1 ⟨rfl, hw⟩
  rw [hw]
  clear hw w1 HCF
  go_wp2_with fail
  refine Calls.mono HDN.out ?_
  rintro e w1 ⟨rfl, hb1⟩
  have HB1 : Hid (Below w.heap.size w w1) := hb1
  clear hb1 HDN
  rcases Nat.eq_zero_or_pos m with hm0 | hm0
  · have h1 := HRM.out.1
    have h2 := HM.out
    omega
  · have hmz : ((m : Int) == 0) = false := by rw [beq_eq_false_iff_ne]; omega
    obtain ⟨Sl, Sd, dl, hL, hD, hSl, hSd, hne, hun, hdl, hdm⟩ := HH.out.sets
    have HME : Hid _ := mend_any w1 gl c Sd s (hL.at_.below HB1.out) (hD.below HB1.out) (by have := HH.out.bud.made; have := HMM.out; omega) HH.out.off (by have := HH.out.bud.files; have := HN.out; have := HM.out; omega)
    clear hL hD hSl hSd hne hun hdl hdm Sl Sd dl
    go_wp2_with fail
    refine Calls.mono HME.out ?_
    rintro e w2 ⟨rfl, hb2⟩
    have HB2 : Hid (Below w.heap.size w w2) := bt HB1.out hb2
    clear hb2 HME
    have HFI : Hid (Calls Tryz.prog 35 #[.pointer (some ⟨gl, 0, none⟩), .slice p m cap] w2 fun e w' => e = .returned (.bool true) ∧ (∃ s', LogM w' gl c (Ext w2 w' S) s' a G base recs recs n (M + 1) ∧ s'.lives = s.lives ∧ s'.room = s.room ∧ C.used s'.ws = C.used s.ws) ∧ Turn w2 w' S) := by
      have h1 := logm_fits w2 gl c S s a G base recs n M p ps cap (HH.out.below HB2.out) (HT.out.turn (Turn.of_below HB2.out)) (HO.out.turn (Turn.of_below HB2.out)) HLT.out HN.out (Or.inr HRM.out.1) (by have := HMM.out; omega) (by have := HLEN.out; omega) (by have := HM.out; omega)
      rw [← HM.out] at h1
      exact h1
    go_wp2_with fail
    refine HFI.out.mono ?_
    rintro e w3 ⟨rfl, ⟨s1, hlog1, k1, k2, k3⟩, ht3⟩
    have HL1 : Hid (LogM w3 gl c (Ext w2 w3 S) s1 a G base recs recs n (M + 1)) := hlog1
    have HK1 : Hid (s1.lives = s.lives ∧ s1.room = s.room ∧ C.used s1.ws = C.used s.ws) := ⟨k1, k2, k3⟩
    have HT3 : Hid (Turn w2 w3 S) := ht3
    clear hlog1 k1 k2 k3 ht3 HFI
    have HWR : Hid (Calls Tryz.prog 36 #[.pointer (some ⟨gl, 0, none⟩), .slice p m cap] w3 fun e w' => e = .returned (.bool false) ∧ (∃ c1 s' G', PlM w' gl c1 (Ext w3 w' (Ext w2 w3 S)) s' a G' base recs recs n (M + 1) ∧ c1.d = c.d ∧ s'.lives = s1.lives ∧ s'.room = s1.room) ∧ Turn w3 w' (Ext w2 w3 S)) := by
      have h1 := logm_write_bad w3 gl c (Ext w2 w3 S) s1 a G base recs n (M + 1) p ps cap HL1.out ((HT.out.turn (Turn.of_below HB2.out)).ext HT3.out) ((HO.out.turn (Turn.of_below HB2.out)).ext HT3.out) HLT.out HN.out (by rw [HK1.out.2.1, HK1.out.2.2]; exact HRM.out) HMM.out HLEN.out HCP.out.1 HCP.out.2
      rw [← HM.out] at h1
      exact h1
    go_wp2_with fail
    refine HWR.out.mono ?_
    rintro e w4 ⟨rfl, ⟨c1, s2, G2, hp4, k1, k2, k3⟩, ht4⟩
    have HP4 : Hid (PlM w4 gl c1 (Ext w3 w4 (Ext w2 w3 S)) s2 a G2 base recs recs n (M + 1)) := hp4
    have HT4 : Hid (Turn w3 w4 (Ext w2 w3 S)) := ht4
    have HK4 : Hid (c1.d = c.d ∧ s2.lives = s1.lives ∧ s2.room = s1.room) := ⟨k1, k2, k3⟩
    clear hp4 ht4 k1 k2 k3 HWR
    obtain ⟨Sl, Sd, dl, hL, hD, hSl, hSd, hne, -⟩ := HP4.out.sets
    have HL4 : Hid (LMem w4 gl c1 Sl base recs dl) := hL
    have HLA : Hid (LgAt w4 gl c1) := hL.at_
    have HD4 : Hid (Disk w4 c1.d Sd s2) := hD
    have HSL : Hid (∀ b, Sl b → Ext w3 w4 (Ext w2 w3 S) b) := hSl
    have HSD : Hid (∀ b, Sd b → Ext w3 w4 (Ext w2 w3 S) b) := hSd
    have HNE : Hid (∀ b, Sl b → ¬ Sd b) := hne
    clear hL hD hSl hSd hne
    have e2 := (HLA.out.cell 2)
    have f2 := HLA.out.fz 2
    go_wp2
    go_ret
    have ht5 : Turn w4 (w4.setCell ⟨gl, 2, none⟩ (.bool true)) (fun x => x = gl) := Turn.setCell (S := fun x => x = gl) (Turn.refl _ _) rfl _
    have hz2 := HB2.out.size
    have hz3 := HT3.out.size
    have hz4 := HT4.out.size
    have hz5 := ht5.size
    have hgl : Ext w3 w4 (Ext w2 w3 S) gl := HSL.out gl HL4.out.mem
    have hext : ∀ b, Ext w3 w4 (Ext w2 w3 S) b → Ext w (w4.setCell ⟨gl, 2, none⟩ (.bool true)) S b := fun b hb => by
      rcases hb with (hb | hb) | hb
      · exact Or.inl hb
      · exact Or.inr ⟨by omega, by omega⟩
      · exact Or.inr ⟨by omega, by omega⟩
    have htt : Turn w w4 S := (Turn.of_below HB2.out).trans (HT3.out.ext HT4.out) fun x hx => Or.inl hx
    have htt5 : Turn w (w4.setCell ⟨gl, 2, none⟩ (.bool true)) S := htt.trans ht5 fun x hx => by
      subst hx
      rcases hext x hgl with h1 | h1
      · exact Or.inl h1
      · exact Or.inr h1.1
    refine ⟨rfl, ⟨{ c1 with full := true }, s2, G2, HLA.out.set 2 _ (by simp [LgC.cells]), rfl, HK4.out.1, ⟨⟨Sd, ?_, fun b hb => hext b (HSD.out b hb)⟩, ext_lt HH.out.lt htt5, HP4.out.log, HP4.out.hold, HP4.out.base0, HP4.out.bud⟩, HP4.out.off, HK4.out.2.1.trans HK1.out.1, HK4.out.2.2.trans HK1.out.2.1⟩, htt5⟩
    rw [← HK4.out.1]
    exact HD4.out.turn ht5 fun b hb e => HNE.out gl HL4.out.mem (by rw [← e]; exact hb)
end Go.Proofs.YtnhplbdbgiimkaaGreatDoor

namespace Go.Proofs.YtnhplbdbgiimkaaGreatDoor
open Go.RowKit Go.Lib
set_option linter.unusedVariables false

/-- A log that found its disk full. -/
def FullL (w : World) (gl d : Nat) : Prop := ∃ c, LgAt w gl c ∧ c.d = d ∧ c.full = true
theorem FullL.below {w w' : World} {gl d : Nat} (h : FullL w gl d) (hb : Below w.heap.size w w') : FullL w' gl d := by
  obtain ⟨c, h1, h2⟩ := h
  exact ⟨c, h1.below hb, h2⟩
theorem lx_add1 (w0 w : World) (d gl part : Nat) (S : Nat → Prop) (a : Nat) (base : List UInt8) (recs : List (List UInt8)) (n M k lv room : Nat) (cl : Prop) (p : Option Addr) (x : Part) (cap : Nat) (h : LX w0 w d gl part S a base recs n M k lv room cl) (hT : Tabs w0) (ho : Stay w S p [x]) (hr : x.l.length ≤ 570) (hn : n + 1 ≤ 998) (hM : M + 2 ≤ 100000) (hlen : recs.length + 1 ≤ 100000) (hcap : 1 ≤ cap) (hcapm : cap ≤ maxLen) :
    Calls Tryz.prog 12 #[.pointer (some ⟨gl, 0, none⟩), .slice p 1 cap] w fun e w' => ((e = .returned (.int .i64 0) ∧ LX w0 w' d gl part (Ext w w' S) a base (recs ++ [x.l]) (n + 1) (M + 2) k lv room cl) ∨ (e = .returned (.int .i64 6) ∧ DX w0 w' d (Ext w w' S) false a base recs n (M + 1) lv room False ∧ FullL w' gl d)) ∧ Turn w w' S := by
  have hts := h.tst hT
  obtain ⟨c, s, G, h1, h2, h3, h4, h5, h6, hcl, h7, h8⟩ := h
  by_cases hf : s.room < C.used s.ws + (C.ents a (recs.length + 1) ([x].map Part.l)).length
  · refine (logm_add_bad w gl c S s a G base recs n M p [x] cap h3 hts ho (fun y hy => by obtain rfl := List.mem_singleton.1 hy; exact hr) hn ⟨rfl, hf⟩ hM hlen hcap hcapm).mono ?_
    rintro e w' ⟨rfl, ⟨c1, s', G', g1, g2, g3, g4, g5, g6, g7⟩, ht⟩
    rw [h1] at g4
    exact ⟨Or.inr ⟨rfl, ⟨s', G', g4, g5, g6.trans h4, g7.trans h5, (fun x => x.elim), ext_new h7 h8.size, h8.trans (ht.below h8.size h7)⟩, ⟨c1, g1, g3.trans h1, g2⟩⟩, ht⟩
  · refine (logm_add w gl c S s a G base recs n M p [x] cap h3 hts ho (fun y hy => by obtain rfl := List.mem_singleton.1 hy; exact hr) hn (Or.inr ⟨rfl, by omega⟩) hM hlen hcap hcapm).mono ?_
    rintro e w' ⟨rfl, ⟨c', s', G', c1, c2, c3, c4, c5, c6⟩, ht⟩
    exact ⟨Or.inl ⟨rfl, ⟨c', s', G', c2.trans h1, c3.trans h2, c1, c4.trans h4, c5.trans h5, by rw [c6.1]; exact h6, fun x => c6.2 (hcl x), ext_new h7 h8.size, h8.trans (ht.below h8.size h7)⟩⟩, ht⟩
theorem full_done {w0 w : World} {d gl : Nat} {S : Nat → Prop} {off : Bool} {a : Nat} {base : List UInt8} {recs : List (List UInt8)} {n M lv room : Nat} {cl : Prop} (h : DX w0 w d S off a base recs n M lv room cl) (hd : FullL w gl d) : ∃ c S s, LgAt w gl c ∧ c.d = d ∧ Disk w d S s ∧ doneB c s = true := by
  obtain ⟨s, G, h1, h2, h3, _⟩ := h
  obtain ⟨Sd, h4, _⟩ := h1.disk
  obtain ⟨c, g1, g2, g3⟩ := hd
  exact ⟨c, Sd, s, g1, g2, h4, by unfold doneB; rw [g3]; rfl⟩
theorem lx_full_done (w0 w : World) (d gl : Nat) (S : Nat → Prop) (off : Bool) (a : Nat) (base : List UInt8) (recs : List (List UInt8)) (n M lv room : Nat) (cl : Prop) (h : DX w0 w d S off a base recs n M lv room cl) (hd : FullL w gl d) :
    Calls Tryz.prog 18 #[.pointer (some ⟨gl, 0, none⟩)] w fun e w' => e = .returned (.bool true) ∧ Below w.heap.size w w' := by
  obtain ⟨c, Sd, s, g1, rfl, g3, g4⟩ := full_done h hd
  have := done_any w gl c Sd s g1 g3
  rw [g4] at this
  exact this
theorem lx_full_add (w0 w : World) (d gl : Nat) (S : Nat → Prop) (off : Bool) (a : Nat) (base : List UInt8) (recs : List (List UInt8)) (n M lv room : Nat) (cl : Prop) (p : Option Addr) (ps : List Part) (cap : Nat) (h : DX w0 w d S off a base recs n M lv room cl) (hd : FullL w gl d) (hp : PAt w p ps) (hk : ps.length ≤ 100000) (hl : ∀ x ∈ ps, x.l.length ≤ 65536) :
    Calls Tryz.prog 12 #[.pointer (some ⟨gl, 0, none⟩), .slice p ps.length cap] w fun e w' => e = .returned (.int .i64 7) ∧ Below w.heap.size w w' := by
  obtain ⟨c, Sd, s, g1, rfl, g3, g4⟩ := full_done h hd
  exact add_done w gl c Sd s p ps cap g1 g3 g4 hp hk hl
end Go.Proofs.YtnhplbdbgiimkaaGreatDoor

namespace Go.Proofs.YtnhplbdbgiimkaaGreatDoor
open Go.ChangeShapes Go.WideShapes Go.ChangeAt Go.RowKit Go.Lib
set_option linter.unusedVariables false

def zBytes (zs : List Int) : List UInt8 := zs.map fun z => UInt8.ofNat z.toNat
theorem zBytes_at {zs : List Int} (hw : ∀ n ∈ zs, (Lit.int .u8 n).wf = true) (i : Nat) (hi : i < zs.length) : (((zBytes zs).getD i 0).toNat : Int) = zs.getD i 0 := by
  have hmem : zs.getD i 0 ∈ zs := by simp [List.getD, hi]
  have hb := byte_of_wf (hw _ hmem)
  have e1 : (zBytes zs).getD i 0 = UInt8.ofNat (zs.getD i 0).toNat := by simp [zBytes, List.getD, hi]
  rw [e1, UInt8.toNat_ofNat']
  omega
theorem openedRows {H : Type} {enc : TypeId × Value → H} {P : Program} {t e q : TypeId} (ht : P.underlying t = some (.slice e)) (he : P.underlying e = some (.slice q)) (hq : P.underlying q = some (.int .u8)) (ce : P.cellsOf e = 1) (cq : P.cellsOf q = 1) {W : World} {a0 : Option Addr} {len cap : Nat} {d0 : DataW H} {p : List MemPlace}
    (h0 : DataW.Trod enc P W 0 (fun _ => true) true t (.slice a0 len cap) d0 p) : ∃ ps : List Part, ps.length = len ∧ len ≤ cap ∧ cap ≤ maxLen ∧ PAt W a0 ps ∧ ∀ x ∈ ps, x.ok W := by
  obtain ⟨fuel, hf⟩ := h0
  rcases Go.Deep.open_int_rows ht he hq ce cq hf with ⟨hcs, hx⟩ | ⟨a, len', cap', A, L, Cc, Z, hcs, _, hl, hm, hx, hr⟩
  · simp [Value.cells] at hcs
    obtain ⟨rfl, rfl, rfl⟩ := hcs
    exact ⟨[], rfl, Nat.le_refl _, Nat.zero_le _, fun h => absurd h (Nat.lt_irrefl 0), fun x hx => by cases hx⟩
  · simp [Value.cells] at hcs
    obtain ⟨rfl, rfl, rfl⟩ := hcs
    have hlz : ∀ r, r < len → (zBytes ((Z r).take (L r))).length = L r := by
      intro r h
      obtain ⟨_, h1, _, h3, _⟩ := hr r (by omega)
      simp [zBytes, h3]; omega
    refine ⟨(List.range len).map fun r => ⟨A r, zBytes ((Z r).take (L r)), Cc r⟩, by simp, hl, hm, fun h => ?_, fun x hx => ?_⟩
    · obtain ⟨b, o, s⟩ := a
      have hlen : 0 < len := by simpa using h
      obtain rfl : s = none := by simpa [Addr.add] using World.cell?_spot (hr 0 (by omega)).1
      refine ⟨b, o, rfl, fun i x hi => ?_⟩
      have hil : i < len := by
        have := (List.getElem?_eq_some_iff.1 hi).1
        simpa using this
      have hx : x = ⟨A i, zBytes ((Z i).take (L i)), Cc i⟩ := by
        rw [List.getElem?_map, List.getElem?_range hil] at hi
        simpa using hi.symm
      subst hx
      have h1 := (hr i (by omega)).1
      rw [add_plain] at h1
      rw [h1, Part.v, hlz i hil]
    · obtain ⟨r, hrm, rfl⟩ := List.mem_map.1 hx
      have hrl : r < len := List.mem_range.1 hrm
      obtain ⟨_, h1, h2, h3, h4, h5, h6⟩ := hr r (by omega)
      refine ⟨by show (zBytes ((Z r).take (L r))).length ≤ maxLen; rw [hlz r hrl]; omega, fun hpos => ?_⟩
      simp only at hpos
      rw [hlz r hrl] at hpos
      cases hA : A r with
      | none => have := h5 hA; omega
      | some a' =>
        obtain ⟨_, hc⟩ := h6 a' hA
        obtain ⟨b, o, s⟩ := a'
        obtain rfl : s = none := by simpa [Addr.add] using World.cell?_spot (hc 0 (by omega))
        refine ⟨b, o, rfl, fun i hi => ?_⟩
        simp only at hi
        rw [hlz r hrl] at hi
        have h7 := hc i (by omega)
        rw [add_plain] at h7
        rw [h7]
        congr 2
        rw [zBytes_at (fun n hn => h4 n (List.mem_of_mem_take hn)) i (by rw [List.length_take]; omega)]
        simp [List.getD, hi]
end Go.Proofs.YtnhplbdbgiimkaaGreatDoor
