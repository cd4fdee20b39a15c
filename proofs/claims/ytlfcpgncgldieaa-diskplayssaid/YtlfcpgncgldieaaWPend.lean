/-
  disk.Disk.pending: all writes that are not safe, in the order in which they were made.
-/
import Derived.Test.YtlfcpgncgldieaaWSort
namespace Go.Proofs.Ytlfcpgncgldieaa
open Go.RowKit Go.Lib Go.Maps
open C (upd upd_same upd_other)
set_option linter.unusedVariables false

theorem Lay.at_inv {L : Lay} {x : Int} {c : Nat} (h : L.at x = some c) : ∃ k : Nat, x = (k : Int) ∧ L.is k = true ∧ c = L.c k := by
  unfold Lay.at at h
  split at h
  · rename_i h1
    refine ⟨x.toNat, by omega, h1.2, ?_⟩
    cases h; rfl
  · cases h
theorem row_nil {w : World} {e size n : Nat} {v : Value} {xs : List Value} (h : w.ownsRow 0 e size v n xs) : (∃ p c, v = .slice p n c ∧ (p = none → n = 0)) := by
  rcases h.2 with ⟨rfl, h0⟩ | ⟨g, cap, cur, rfl, _⟩
  · exact ⟨none, 0, by rw [h0], fun _ => h0⟩
  · exact ⟨_, cap, rfl, (fun e => by cases e)⟩
set_option maxRecDepth 100000 in
set_option maxHeartbeats 4000000 in
theorem pending_any (w : World) (L : Lay) (n : Nat) (hd : Head) (sa : Nat → Nat) (da : Nat → List UInt8) (ws : List C.Wr) (M : DMem w L n hd sa da (C.pof ws)) (hfile : ∀ k, L.is k = true → k < 1000) (hhas : ∀ x ∈ ws, L.is x.file = true) (hnum : ws.Pairwise fun a b => a.num < b.num) (hlen : ws.length ≤ 1000000) :
    Calls Try.prog 34 #[.pointer (some ⟨L.g, 0, none⟩)] w fun e w' => (∃ p c, e = .returned (.slice p (C.pend ws).length c) ∧ WAt w' p (C.pend ws) ∧ ∀ a, p = some a → w.heap.size ≤ a.block) ∧ Below w.heap.size w w' := by
  have c2 := blk_cell M.blk 2
  simp only [Head.cells, List.getElem?_toArray, List.getElem?_cons_succ, List.getElem?_cons_zero] at c2
  have HM : Hid (DMem w L n hd sa da (C.pof ws)) := M
  have HMP : Hid (IMap w L.mb n L.at) := M.map
  have HP0 : Hid ((C.rowOn (fun k => L.is k) (C.pof ws) 1000).Perm (C.pend ws)) := C.pend_rows L.is 1000 ws (fun x hx => ⟨hfile _ (hhas x hx), hhas x hx⟩)
  have HPN : Hid ((C.pend ws).Pairwise fun a b => a.num < b.num) := hnum.filter _
  have hpl : (C.pend ws).length ≤ 1000000 := Nat.le_trans (List.length_filter_le _ _) hlen
  have hmb : L.mb < w.heap.size := M.map.lt
  have HF : Hid _ := hfile
  clear M hhas hnum hlen hfile
  obtain ⟨g, hg⟩ : ∃ g, g = L.g := ⟨_, rfl⟩
  obtain ⟨mb, hm⟩ : ∃ mb, mb = L.mb := ⟨_, rfl⟩
  rw [← hg, ← hm] at c2
  rw [← hg]
  rw [← hm] at HMP hmb
  have HG : Hid _ := hg
  have HB : Hid _ := hm
  clear hg hm
  go_enter Try.func34, Try.ntmps34
  go_wp2_with (at_range; go_must (refine wpList_range_imap rfl _ _ _ rfl u_map HMP.out rfl ?_); intro w0 cnt0 hrg0 hg0 hs0)
  go_frame
  have HRG0 : Hid _ := hrg0
  have HB0 : Hid (Below w.heap.size w w0) := ⟨hg0.os, hg0.tape, hg0.output, hg0.size, fun k hk => hg0.block k hk (by simp)⟩
  clear hrg0 hg0 hs0
  go_loopw [3] (fun v wr => ∃ (left : Int → Bool) (cnt : Nat) (acc : List C.Wr) (p : Option Addr) (m c : Nat), v = .slice p m c ∧ OwnW wr (.slice p m c) acc ∧ (∀ b, (Value.slice p m c).ownBlock = some b → w.heap.size < b) ∧ IRange wr mb w.heap.size n L.at left cnt ∧ (acc ++ C.rowOn (fun k => left (k : Int)) (C.pof ws) 1000).Perm (C.pend ws) ∧ Below w.heap.size w wr ∧ w.heap.size < wr.heap.size) (fun _ wr => wr.rangeLeft mb w.heap.size)
  case atStart =>
    refine ⟨_, _, [], none, 0, 0, rfl, OwnW.nil _, (fun b hb => by cases hb), HRG0.out, ?_, HB0.out, IRange.lt HRG0.out⟩
    have : C.rowOn (fun k => (L.at ((k : Nat) : Int)).isSome) (C.pof ws) 1000 = C.rowOn (fun k => L.is k) (C.pof ws) 1000 := C.rowOn_congr fun k _ => by
      have : (L.at (k : Int)).isSome = L.is k := by
        cases h : L.is k with
        | true => rw [Lay.at_some (by omega) (by simpa using h)]; rfl
        | false => rw [Lay.at_none (by simpa using h)]; rfl
      rw [this]
    rw [List.nil_append, this]; exact HP0.out
  case round =>
    obtain ⟨left, cnt, acc, p, m, c, rfl, ho, hnew, hrg, hp, hb, hsz⟩ := hrel
    have HO : Hid (OwnW wr (.slice p m c) acc) := ho
    have HN : Hid (∀ b, (Value.slice p m c).ownBlock = some b → w.heap.size < b) := hnew
    have HR : Hid (IRange wr mb w.heap.size n L.at left cnt) := hrg
    have HPE : Hid ((acc ++ C.rowOn (fun k => left (k : Int)) (C.pof ws) 1000).Perm (C.pend ws)) := hp
    have HBW : Hid (Below w.heap.size w wr) := hb
    have HSZ : Hid (w.heap.size < wr.heap.size) := hsz
    clear ho hnew hrg hp hb hsz
    go_wp2_with (at_next; go_must (refine wpList_next_imap rfl _ rfl HR.out rfl ?_ ?_))
    · intro hl
      have hacc : acc.Perm (C.pend ws) := by
        have := HPE.out
        rw [C.rowOn_none (fun k _ => hl k), List.append_nil] at this
        exact this
      obtain ⟨p', c', hv', hpn⟩ := row_nil HO.out
      cases hv'
      have hal : acc.length = (C.pend ws).length := hacc.length_eq
      cases p with
      | none =>
        have h0 := hpn rfl
        have HA : Hid (acc.length = (C.pend ws).length) := hal
        have HS : Hid _ := sort_none none c wr
        clear hpn hal hacc hl
        rw [h0] at HA ⊢
        go_wp2_with fail
        refine Calls.mono HS.out ?_
        rintro e w1 ⟨rfl, hw⟩
        subst w1
        go_wp2
        go_ret
        exact ⟨⟨none, c, by rw [← HA.out]; rfl, (fun h => absurd h (by rw [← HA.out]; omega)), (fun a e => by cases e)⟩, HBW.out⟩
      | some ad =>
        obtain ⟨b, rfl⟩ : ∃ b, ad = ⟨b, 0, none⟩ := by
          rcases (HO.out : OwnW wr _ acc).2 with ⟨h1, _⟩ | ⟨g', cap', cur, h1, _⟩
          · cases h1
          · cases h1; exact ⟨_, rfl⟩
        have HS : Hid _ := sort_some b c acc (C.pend ws) wr HO.out hacc HPN.out (by omega)
        have hbn := HN.out b rfl
        have HA : Hid (acc.length = (C.pend ws).length) := hal
        clear hpn hal hacc hl
        go_wp2_with fail
        refine Calls.mono HS.out ?_
        rintro e w1 ⟨rfl, hat, hg1⟩
        go_wp2
        go_ret
        exact ⟨⟨_, c, by rw [← HA.out]; rfl, hat, (fun a e => by cases e; exact Nat.le_of_lt hbn)⟩, (HBW.out : Below _ _ _).grown hg1 (HBW.out : Below _ _ _).size (fun k e => by cases e; omega)⟩
    · intro x cc w2 cnt2 hwx hlx hmx hrg2 hlt hg2 hs2 hen
      obtain ⟨k, rfl, hk, hcc⟩ := Lay.at_inv hmx
      have hB2 : Below w.heap.size w w2 := (HBW.out : Below _ _ _).grown hg2 (HBW.out : Below _ _ _).size (fun j e => by cases e; exact Nat.le_refl _)
      have hcont := (HM.out : DMem _ _ _ _ _ _ _).cont k hk
      have hwr := (HM.out : DMem _ _ _ _ _ _ _).wr k hk
      have hcw : w2.heap[cc]? = some (.cells #[L.d k, .int .i64 (sa k : Nat), L.w k] 58) := by
        rw [hcc, hB2.block _ (Array.getElem?_eq_some_iff.1 hcont).1]; exact hcont
      have a2 := blk_cell hcw 2
      simp only [List.getElem?_toArray, List.getElem?_cons_succ, List.getElem?_cons_zero] at a2
      obtain ⟨pw, cw, hvw⟩ := OwnW.shape hwr
      rw [hvw] at a2 hwr
      have HSRC : Hid (SrcAt w2 3 (.slice pw (C.pof ws k).length cw) (C.pof ws k).length (rowW (C.pof ws k))) := row_src (row_same hwr fun b hb => hB2.block b (row_lt hwr hb))
      have HO2 : Hid (w2.ownsRow 0 60 3 (.slice p m c) acc.length (rowW acc)) := row_same HO.out fun b hb => hg2.block b (row_lt HO.out hb) (fun e => by have := HN.out b hb; have := Option.some.inj e; omega)
      have hpo := C.rowOn_out (p := fun j => left (j : Int)) (f := C.pof ws) (j := k) (n := 1000) (HF.out k hk) hlx
      have hp2 : ((acc ++ C.pof ws k) ++ C.rowOn (fun j => left (j : Int) && !(j == k)) (C.pof ws) 1000).Perm (C.pend ws) := by
        rw [List.append_assoc]
        exact (hpo.symm.append_left acc).trans HPE.out
      have hl2 := hp2.length_eq
      simp only [List.length_append] at hl2
      have HN1 : Hid (acc.length + (C.pof ws k).length ≤ maxLen) := by show _ ≤ _; unfold maxLen; omega
      have HN2 : Hid ((acc.length + (C.pof ws k).length) * 24 ≤ 140737488355328) := by show _ ≤ _; omega
      obtain ⟨nw, hnw⟩ : ∃ nw, nw = (C.pof ws k).length := ⟨_, rfl⟩
      rw [← hnw] at a2 HSRC HN1 HN2
      have HNW : Hid _ := hnw
      have HP2 : Hid _ := hp2
      have HR2 : Hid _ := hrg2
      have HG2 : Hid (w2.heap.size = wr.heap.size) := hs2
      have HB2 : Hid _ := hB2
      have HLT : Hid _ := hlt
      clear hp2 hrg2 hs2 hB2 hlt hg2 hl2 hpo hvw hwr hcw hcont hcc hmx hlx hwx hnw
      go_wp2_with (at_builtin; go_must (refine wpList_append_src Try.underlying56 info_wr rfl (by decide) rfl _ _ rfl rfl HO2.out rfl HSRC.out (rowW_one _) HN1.out HN2.out ?_); intro v3 w3 hr3 hg3 hl3; obtain ⟨p3, c3, rfl, _⟩ := row_nil hr3)
      have hgt : ∀ b, (Value.slice p m c).ownBlock = some b → w.heap.size < b := HN.out
      have HR3 : Hid (IRange w3 mb w.heap.size n L.at (fun j => left j && !(j == (k : Int))) cnt2) := IRange.same HR2.out (hg3.block _ (by have := HSZ.out; have := HG2.out; omega) (fun e => by have := hgt _ e.symm; omega)) (hg3.block _ (by have := HSZ.out; have := HG2.out; omega) (fun e => by have := hgt _ e.symm; omega))
      go_roundw
      case rel =>
        refine ⟨_, cnt2, acc ++ C.pof ws k, p3, _, c3, rfl, ownW_of_row (HNW.out ▸ hr3), ?_, HR3.out, ?_, ?_, ?_⟩
        · intro b hb
          rcases hl3 with h | h
          · exact hgt b (h ▸ hb)
          · rw [h] at hb; have := Option.some.inj hb; have := HSZ.out; have := HG2.out; omega
        · have e : (fun j : Nat => left (j : Int) && !((j : Int) == (k : Int))) = (fun j : Nat => left (j : Int) && !(j == k)) := by
            funext j
            have : ((j : Int) == (k : Int)) = (j == k) := by
              by_cases h : j = k
              · subst h; simp
              · have h' : ¬ (j : Int) = (k : Int) := by omega
                rw [beq_eq_false_iff_ne.2 h', beq_eq_false_iff_ne.2 h]
            rw [this]
          have h := HP2.out
          rw [← e] at h
          exact h
        · exact (HB2.out : Below _ _ _).grown hg3 (HB2.out : Below _ _ _).size (fun b e => by have := hgt b e; omega)
        · have := HSZ.out; have := HG2.out; have := hg3.size; omega
      case measure =>
        rw [IRange.left_eq HR3.out, IRange.left_eq HR.out]
        exact HLT.out
end Go.Proofs.Ytlfcpgncgldieaa
