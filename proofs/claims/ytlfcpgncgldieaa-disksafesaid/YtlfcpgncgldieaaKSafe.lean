/-
  DiskSafe: what was synced is there behind any fall.
-/
import Derived.Test.YtlfcpgncgldieaaWSync
import Derived.Test.YtlfcpgncgldieaaBOpen
namespace Go.Proofs.Ytlfcpgncgldieaa
namespace C
def saS (a : List UInt8) (bs : List (List UInt8)) : Nat → St
  | 0 => syncS (appS (newS 65536) 7 a) 7
  | k + 1 => appS (saS a bs k) (k % 3 + 6) (bs.getD k [])
theorem saS_head (a : List UInt8) (bs : List (List UInt8)) : ∀ k, (saS a bs k).room = 65536 ∧ (saS a bs k).made = k + 1 ∧ (saS a bs k).off = false ∧ (saS a bs k).lives = 1 ∧ (saS a bs k).is 7 = true
  | 0 => ⟨rfl, rfl, rfl, rfl, rfl⟩
  | k + 1 => by
    obtain ⟨h1, h2, h3, h4, h5⟩ := saS_head a bs k
    refine ⟨h1, ?_, h3, h4, ?_⟩
    · show (saS a bs k).made + 1 = _; rw [h2]
    · show ((saS a bs k).is 7 || _) = true; rw [h5]; rfl
theorem saS_used (a : List UInt8) (bs : List (List UInt8)) (ha : a.length ≤ 200) : ∀ k, (∀ j, j < k → (bs.getD j []).length ≤ 100) → used (saS a bs k).ws ≤ 200 + 100 * k
  | 0, _ => by show a.length + 0 ≤ _; omega
  | k + 1, h => by
    have := saS_used a bs ha k (fun j hj => h j (by omega))
    have h2 := h k (by omega)
    show used ((saS a bs k).ws ++ _) ≤ _
    rw [used_append]
    simp only [used]; omega
theorem saS_dat (a : List UInt8) (bs : List (List UInt8)) (k : Nat) : dat (saS a bs (k + 1)).ws 7 = dat (saS a bs k).ws 7 ++ if k % 3 = 1 then bs.getD k [] else [] := by
  show dat ((saS a bs k).ws ++ _) 7 = _
  rw [dat_append]
  simp only [dat, List.append_nil]
  congr 1
  by_cases h : k % 3 = 1
  · rw [if_pos (by omega), if_pos h]
  · rw [if_neg (by omega), if_neg h]
theorem saS_zero (a : List UInt8) (bs : List (List UInt8)) : dat (saS a bs 0).ws 7 = a := by
  show (if 7 = 7 then a else []) ++ [] = a
  simp
theorem saS_saf (a : List UInt8) (bs : List (List UInt8)) : ∀ k, saf (saS a bs k).ws 7 = a.length
  | 0 => by show (if 7 = 7 ∧ true = true then a.length else 0) + 0 = _; simp
  | k + 1 => by
    show saf ((saS a bs k).ws ++ _) 7 = _
    rw [saf_append, saS_saf a bs k]
    simp [saf]
theorem saS_pend (a : List UInt8) (bs : List (List UInt8)) : ∀ k, (pend (saS a bs k).ws).length = k
  | 0 => rfl
  | k + 1 => by
    show (pend ((saS a bs k).ws ++ _)).length = _
    have := saS_pend a bs k
    unfold pend at this ⊢
    rw [List.filter_append, List.length_append, this]
    rfl
theorem crash_whole (keep torn : Int) (k : Nat) : ∀ (ws : List Wr) (n : Nat), (n + (pend ws).length : Nat) ≤ keep → dat (crashL keep torn n ws) k = dat ws k
  | [], _, _ => rfl
  | x :: r, n, h => by
    by_cases hs : x.safe = true
    · have e : pend (x :: r) = pend r := by simp [pend, hs]
      rw [e] at h
      rw [crashL, if_pos hs, dat, dat, crash_whole keep torn k r n h]
    · have e : pend (x :: r) = x :: pend r := by simp [pend, hs]
      rw [e, List.length_cons] at h
      rw [crashL, if_neg hs, dat, dat, crash_whole keep torn k r (n + 1) (by omega)]
      have : cutW keep torn n x.bytes = x.bytes := by unfold cutW stay; rw [if_pos (by omega)]; simp
      simp only [this]
end C
open Go.RowKit Go.Lib Go.Maps
open C (upd upd_same upd_other)
set_option linter.unusedVariables false

theorem ba_append (a b : List UInt8) : (⟨a.toArray⟩ ++ ⟨b.toArray⟩ : ByteArray) = ⟨(a ++ b).toArray⟩ := by
  apply ByteArray.ext; simp [ByteArray.data_append]
theorem bel_alike {B : Nat} {w w1 w2 : World} (h : Below B w w1) (a : w2.os = w1.os) (b : w2.tape = w1.tape) (c : w2.output = w1.output) (d : w2.heap = w1.heap) : Below B w w2 := ⟨a.trans h.os, b.trans h.tape, c.trans h.output, by rw [d]; exact h.size, fun k hk => by rw [d]; exact h.block k hk⟩
theorem refE_on {s : C.St} {f : Nat} (h : s.off = false) (hf : f < 1000) : refE s f = 0 := by
  unfold refE; rw [h, if_neg (by simp), if_neg (by omega)]
set_option maxRecDepth 100000 in
set_option maxHeartbeats 16000000 in
theorem safe_any (p : Option Addr) (l : List UInt8) (cap : Nat) (q : Option Addr) (ps : List Part) (qc : Nat) (keep : Int) (wk : (Lit.int .i64 keep).wf = true) (torn : Int) (wt : (Lit.int .i64 torn).wf = true) (w : World) (hx : Part.ok w ⟨p, l, cap⟩) (hP : PAt w q ps) (hA : ∀ x ∈ ps, x.ok w) (hcap : ps.length ≤ qc) (hcm : qc ≤ maxLen) :
    Calls Try.prog 6 #[.slice p l.length cap, .slice q ps.length qc, .int .i64 keep, .int .i64 torn] w fun e w' => e = .returned (.bool true) ∧ Below w.heap.size w w' := by
  have hk0 : -9223372036854775808 ≤ keep ∧ keep ≤ 9223372036854775807 := by
    have h1 : IntKind.i64.min = -9223372036854775808 := rfl
    have h2 : IntKind.i64.max = 9223372036854775807 := rfl
    simp only [Lit.wf, Bool.and_eq_true, decide_eq_true_eq] at wk
    omega
  have ht0 : -9223372036854775808 ≤ torn ∧ torn ≤ 9223372036854775807 := by
    have h1 : IntKind.i64.min = -9223372036854775808 := rfl
    have h2 : IntKind.i64.max = 9223372036854775807 := rfl
    simp only [Lit.wf, Bool.and_eq_true, decide_eq_true_eq] at wt
    omega
  have HX : Hid (Part.ok w ⟨p, l, cap⟩) := hx
  have HP : Hid (PAt w q ps) := hP
  have HA : Hid (∀ x ∈ ps, x.ok w) := hA
  clear hx hP hA wk wt hcap hcm
  go_enter Try.func6, Try.ntmps6
  go_wp2_with fail
  refine (awake_any w).mono ?_
  rintro e w1 ⟨rfl, hb1⟩
  have HB1 : Hid (Below w.heap.size w w1) := hb1
  clear hb1
  by_cases h0 : 200 < l.length
  · go_wp2
    go_ret
    exact ⟨rfl, HB1.out⟩
  by_cases h1 : 20 < ps.length
  · go_wp2
    go_ret
    exact ⟨rfl, HB1.out⟩
  go_wp2_with fail
  refine (dk_new 65536 w w1 HB1.out (by omega)).mono ?_
  rintro e w2 ⟨g, rfl, hd2, _⟩
  have HD2 : Hid (DK w w2 g (C.newS 65536)) := hd2
  clear hd2 HB1
  go_wp2_with fail
  refine (dk_append w w2 g _ 7 p l.length l cap HD2.out rfl (Part.ok.below HX.out (DK.bel HD2.out)) rfl (by show 0 + l.length ≤ 65536; omega) (by decide)).mono ?_
  rintro e w3 ⟨rfl, hd3⟩
  have HD3 : Hid (DK w w3 g (C.appS (C.newS 65536) 7 l)) := hd3
  clear hd3 HD2
  go_wp2_with fail
  refine (dk_sync w w3 g _ 7 HD3.out rfl rfl).mono ?_
  rintro e w4 ⟨rfl, hd4⟩
  have HD4 : Hid (DK w w4 g (C.saS l (ps.map Part.l) 0)) := hd4
  have ka := conv_str (x := ⟨p, l, cap⟩) (Part.ok.below HX.out (DK.bel hd4))
  simp only [Part.v] at ka
  clear hd4 HD3
  go_wp2
  go_loopw [11, 12] (fun al i wr => ∃ k : Nat, k ≤ ps.length ∧ i = .int .i64 k ∧ al = .string ⟨(C.dat (C.saS l (ps.map Part.l) k).ws 7).toArray⟩ ∧ (∀ j, j < k → ((ps.map Part.l).getD j []).length ≤ 100) ∧ DK w wr g (C.saS l (ps.map Part.l) k)) (fun _ i _ => ps.length - (intOf i).toNat)
  case atStart => exact ⟨0, Nat.zero_le _, rfl, by rw [C.saS_zero], (fun j hj => absurd hj (Nat.not_lt_zero _)), HD4.out⟩
  case round =>
    clear HD4 ka
    obtain ⟨k, hk, rfl, rfl, hle, hd⟩ := hrel
    have HLE : Hid (∀ j, j < k → ((ps.map Part.l).getD j []).length ≤ 100) := hle
    have HD : Hid (DK w wr g (C.saS l (ps.map Part.l) k)) := hd
    have hused := C.saS_used l (ps.map Part.l) (by omega) k hle
    have hdl := C.dat_le (C.saS l (ps.map Part.l) k).ws 7
    have hh := C.saS_head l (ps.map Part.l) k
    clear hle hd
    by_cases hlt : k < ps.length
    · obtain ⟨x, hx⟩ : ∃ x, ps[k]? = some x := ⟨ps[k], by simp [hlt]⟩
      obtain ⟨b, o, rfl, hc⟩ := HP.out (by omega)
      have hck0 := hc k x hx
      have hck : wr.cell? ⟨b, o + k, none⟩ = some x.v := by
        rw [(DK.bel HD.out).cell (p := ⟨b, o + k, none⟩) (World.block_lt_of_cell? _ _ hck0)]; exact hck0
      have HCK : Hid (∀ w5, Below w.heap.size w w5 → w5.cell? ⟨b, o + k, none⟩ = some x.v) := fun w5 hb5 => by
        rw [hb5.cell (p := ⟨b, o + k, none⟩) (World.block_lt_of_cell? _ _ hck0)]; exact hck0
      have HXO : Hid (x.ok w) := HA.out x (List.mem_of_getElem? hx)
      have hget : (ps.map Part.l).getD k [] = x.l := by simp [List.getD, hx]
      obtain ⟨xp, xl, xc⟩ := x
      simp only [Part.v] at hck
      simp only at hget
      clear hck0 hc hx
      by_cases hbig : 100 < xl.length
      · have HBD : Hid (Below w.heap.size w wr) := DK.bel HD.out
        clear hget hused hdl hh
        go_wp2
        go_ret
        exact ⟨rfl, HBD.out⟩
      · have HSD : Hid (C.dat (C.saS l (ps.map Part.l) (k + 1)).ws 7 = C.dat (C.saS l (ps.map Part.l) k).ws 7 ++ if k % 3 = 1 then xl else []) := by show _ = _; rw [C.saS_dat, hget]
        have HSS : Hid (C.appS (C.saS l (ps.map Part.l) k) (k % 3 + 6) xl = C.saS l (ps.map Part.l) (k + 1)) := by show _ = C.appS _ _ _; rw [hget]
        have HAP : Hid _ := dk_append w wr g (C.saS l (ps.map Part.l) k) (k % 3 + 6) xp xl.length xl xc HD.out rfl (Part.ok.below HXO.out (DK.bel HD.out)) (refE_on hh.2.2.1 (by omega)) (by rw [hh.1]; omega) (by rw [hh.2.1]; omega)
        have HLE2 : Hid (∀ j, j < k + 1 → ((ps.map Part.l).getD j []).length ≤ 100) := fun j hj => by
          by_cases e : j = k
          · subst e; rw [hget]; omega
          · exact HLE.out j (by omega)
        have hdl2 : (C.dat (C.saS l (ps.map Part.l) k).ws 7).length ≤ 2200 := by omega
        generalize C.dat (C.saS l (ps.map Part.l) k).ws 7 = D at hdl2 HSD ⊢
        have e0 : ((k : Int) % 3 + 6) = ((k % 3 + 6 : Nat) : Int) := by omega
        have HE0 : Hid _ := e0
        clear hget hused hdl hh e0
        go_wp2_with fail
        rw [HE0.out]
        refine Calls.mono HAP.out ?_
        rintro e w5 ⟨rfl, hd5⟩
        have HD5 : Hid (DK w w5 g (C.saS l (ps.map Part.l) (k + 1))) := by rw [← HSS.out]; exact hd5
        have hck5 := HCK.out w5 (DK.bel HD5.out)
        simp only [Part.v] at hck5
        have k5 := conv_str (w := w5) (x := ⟨xp, xl, xc⟩) (Part.ok.below HXO.out (DK.bel HD5.out))
        simp only [Part.v] at k5
        clear hd5
        by_cases h3 : k % 3 = 1
        · have h3' : (k : Int) % 3 = 1 := by omega
          have HSD1 : Hid (C.dat (C.saS l (ps.map Part.l) (k + 1)).ws 7 = D ++ xl) := by show _ = _; rw [HSD.out, if_pos h3]
          clear h3 HAP HSS HSD HCK HE0
          go_wp2
          go_roundw
          case rel => exact ⟨k + 1, by omega, by go_num, by rw [HSD1.out, ← ba_append], HLE2.out, HD5.out⟩
          case measure => simp [intOf]; omega
        · have h3' : ¬ (k : Int) % 3 = 1 := by omega
          have HSD1 : Hid (C.dat (C.saS l (ps.map Part.l) (k + 1)).ws 7 = D) := by show _ = _; rw [HSD.out, if_neg h3, List.append_nil]
          clear h3 HAP HSS HSD HCK HE0
          go_wp2
          go_roundw
          case rel => exact ⟨k + 1, by omega, by go_num, by rw [HSD1.out], HLE2.out, HD5.out⟩
          case measure => simp [intOf]; omega
    · obtain rfl : k = ps.length := by omega
      have HDAT : Hid (∃ t, C.dat (C.saS l (ps.map Part.l) ps.length).ws 7 = C.dat (C.crashL keep torn 0 (C.saS l (ps.map Part.l) ps.length).ws) 7 ++ t) := C.crash_pre keep torn 7 _ 0 (DK.ok HD.out).ahead
      have HWH : Hid ((ps.length : Int) ≤ keep → C.dat (C.crashL keep torn 0 (C.saS l (ps.map Part.l) ps.length).ws) 7 = C.dat (C.saS l (ps.map Part.l) ps.length).ws 7) := fun h => C.crash_whole keep torn 7 _ 0 (by rw [C.saS_pend]; omega)
      have HLN : Hid (l.length ≤ (C.dat (C.crashL keep torn 0 (C.saS l (ps.map Part.l) ps.length).ws) 7).length) := by
        show _ ≤ _
        rw [C.crash_len, C.saS_saf]; omega
      have HCR : Hid _ := dk_crash w wr g _ keep torn HD.out (by rw [hh.2.1]; omega) hk0.1 hk0.2 ht0.1 ht0.2
      have hl1 : (C.crashS (C.saS l (ps.map Part.l) ps.length) keep torn).lives ≤ 1000000 := by show (C.saS l (ps.map Part.l) ps.length).lives ≤ _; rw [hh.2.2.2.1]; decide
      have HL1 : Hid _ := hl1
      have hre : readE (C.onS (C.crashS (C.saS l (ps.map Part.l) ps.length) keep torn)) 7 = 0 := by
        have h1 : refE (C.onS (C.crashS (C.saS l (ps.map Part.l) ps.length) keep torn)) 7 = 0 := rfl
        have h2 : (C.onS (C.crashS (C.saS l (ps.map Part.l) ps.length) keep torn)).is (7 : Int).toNat = true := hh.2.2.2.2
        unfold readE; rw [if_pos h1, if_pos h2]
      have hrb : readB (C.onS (C.crashS (C.saS l (ps.map Part.l) ps.length) keep torn)) 7 = C.dat (C.crashL keep torn 0 (C.saS l (ps.map Part.l) ps.length).ws) 7 := by
        unfold readB; rw [if_pos hre]; rfl
      have HRE : Hid _ := hre
      have HRB : Hid _ := hrb
      have hdl2 : (C.dat (C.saS l (ps.map Part.l) ps.length).ws 7).length ≤ 2200 := by omega
      clear hused hdl hh hl1 hre hrb HLE
      go_wp2_with fail
      refine Calls.mono HCR.out ?_
      rintro e w5 ⟨rfl, hd5⟩
      have HD5 : Hid _ := hd5
      clear hd5 HCR HD
      go_wp2_with fail
      refine (dk_on w w5 g _ HD5.out HL1.out).mono ?_
      rintro e w6 ⟨rfl, hd6⟩
      have HD6 : Hid _ := hd6
      clear hd6 HD5
      go_wp2_with fail
      refine (dk_read w w6 g _ 7 0 _ HD6.out HRE.out HRB.out).mono ?_
      rintro e w7 ⟨⟨p7, n7, c7, rfl, hi7⟩, hd7, hb7⟩
      have HB7 : Hid (Below w.heap.size w w7) := DK.bel hd7
      obtain ⟨t, ht⟩ := HDAT.out
      have hwh := HWH.out
      have hln := HLN.out
      generalize C.dat (C.saS l (ps.map Part.l) ps.length).ws 7 = D at *
      generalize C.dat (C.crashL keep torn 0 (C.saS l (ps.map Part.l) ps.length).ws) 7 = X at *
      have hn7 := hi7.1
      have HK7 : Hid (∀ m, (convert 28 9 (.slice p7 n7 c7)).run Try.prog (w7.drewN m) = .ok (.string ⟨X.toArray⟩) (w7.drewN m)) := fun m => conv_is (w := w7.drewN m) ⟨hi7.1, hi7.2.1, hi7.2.2⟩
      clear hi7 hd7 hb7 HD6 HRE HRB HL1 HDAT HWH HLN
      have g1 : (l.length : Int) ≤ (n7 : Int) := by omega
      have g2 : (n7 : Int) ≤ (D.length : Int) := by rw [ht, List.length_append]; omega
      have g3 : D.take n7 = X := by rw [ht, hn7, List.take_left]
      have g4 : (X == ((⟨D.toArray⟩ : ByteArray).extract 0 n7).toList) = true := by
        rw [ByteArray.extract_mk, ByteArray.toList_mk, List.drop_zero, Nat.sub_zero, g3]; exact beq_self_eq_true X
      clear g3
      have hdx : (ps.length : Int) ≤ keep → D = X := fun h => (hwh h).symm
      clear hn7 hln ht hwh
      by_cases hkp : keep < ps.length
      · clear hdx
        go_wp2
        have k7 := HK7.out
        go_quiet (fail)
        go_wp2
        go_ret
        exact ⟨ret_bool (by simp), bel_alike HB7.out rfl rfl rfl rfl⟩
      · have hkp' : decide (keep < (ps.length : Int)) = false := by simpa using hkp
        obtain rfl := hdx (by omega)
        have g5 : (D == D) = true := beq_self_eq_true D
        clear hdx
        go_wp2
        go_region_held_law (fun w' => (convert 28 9 (.slice p7 n7 c7)).run Try.prog w' = .ok (.string ⟨D.toArray⟩) w')
          ((first | assumption | exact HK7.out 0 | exact HK7.out 1 | exact HK7.out _)) (fail)
        all_goals
          go_wp2
          go_ret
          exact ⟨ret_bool (by simp), bel_alike HB7.out rfl rfl rfl rfl⟩
end Go.Proofs.Ytlfcpgncgldieaa
