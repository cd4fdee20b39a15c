/-
  dots.read.
-/
import Derived.Test.YtadafllhionhhaaTApp
import Derived.Test.YtadafllhionhhaaTSettle
namespace Go.Proofs.Ytadafllhionhhaa
open Go.RowKit Go.Lib
set_option linter.unusedVariables false

theorem rd_grown {w w' : World} {g : Nat} {o : Option Nat} {s : Option (List UInt8)} {p : Option Addr} {n c : Nat} (h : Rd w g s p n c) (hg : w.grownBy w' o) (ho : ∀ k, o = some k → NB w k ∧ g ≠ k) : Rd w' g s p n c := by
  cases o with
  | none => exact h.below ⟨hg.os, hg.tape, hg.output, hg.size, fun b hb => hg.block b hb (fun e => by cases e)⟩
  | some k => exact h.kept hg (ho k rfl).1 (ho k rfl).2
theorem rowR_step {m k : Nat} {s : Option (List UInt8)} {a b : Int} {s1 s2 : Option (List UInt8)} (hk : k < m) (h1 : C.rnum s 0 6 = (a, s1)) (h2 : C.rnum s1 1 1099511627776 = (b, s2)) : C.rowR (m - k) s = ((a, b) :: (C.rowR (m - (k + 1)) s2).1, (C.rowR (m - (k + 1)) s2).2) := by
  obtain ⟨j, hj⟩ : ∃ j, m - k = j + 1 := ⟨m - k - 1, by omega⟩
  rw [hj, show m - (k + 1) = j by omega, C.rowR, h1]
  simp only
  rw [h2]
theorem zfacts7 {w : World} {b : Nat} {x0 x1 x2 x3 x4 x5 x6 : Int} {t : TypeId} (h : w.heap[b]? = some (.cells (cells7 ⟨x0, x1, x2, x3, x4, x5, x6⟩) t)) :
    (w.cell? ⟨b, 0, none⟩ = some (.int .i64 x0) ∧ w.cell? ⟨b, 1, none⟩ = some (.int .i64 x1) ∧ w.cell? ⟨b, 2, none⟩ = some (.int .i64 x2) ∧ w.cell? ⟨b, 3, none⟩ = some (.int .i64 x3) ∧ w.cell? ⟨b, 4, none⟩ = some (.int .i64 x4) ∧ w.cell? ⟨b, 5, none⟩ = some (.int .i64 x5) ∧ w.cell? ⟨b, 6, none⟩ = some (.int .i64 x6)) ∧
    (w.frozen? ⟨b, 0, none⟩ = false ∧ w.frozen? ⟨b, 1, none⟩ = false ∧ w.frozen? ⟨b, 2, none⟩ = false ∧ w.frozen? ⟨b, 3, none⟩ = false ∧ w.frozen? ⟨b, 4, none⟩ = false ∧ w.frozen? ⟨b, 5, none⟩ = false ∧ w.frozen? ⟨b, 6, none⟩ = false) := by
  refine ⟨box7 h, ?_⟩
  simp [World.frozen?, h]
theorem turn_g {w w' : World} {g : Nat} (h : w.grownBy w' (some g)) : Turn w w' (fun b => b = g) := Turn.of_grown h fun b hb => by cases hb; rfl
set_option maxRecDepth 100000 in
set_option maxHeartbeats 8000000 in
theorem readD_any (w : World) (g : Nat) (s : Option (List UInt8)) (p : Option Addr) (n c : Nat) (h : Rd w g s p n c) (hl : (s.getD []).length ≤ 100000) (cv : V7) (s1 s2 : Option (List UInt8)) (m : Nat) (hv : C.getV s = (cv, s1)) (hl1 : (s1.getD []).length ≤ 100000) (hm : C.rnum s1 0 1000 = ((m : Int), s2)) (hm1 : m ≤ 1000) (R : List C.Dt × Option (List UInt8)) (hR : C.rowR m s2 = R) :
    Calls Try.prog 38 #[.pointer (some ⟨g, 0, none⟩)] w fun e w' => (∃ v', e = .returned (.tuple #[cv.v, v']) ∧ OwnN w' v' R.1 ∧ Fresh w v') ∧ (∃ p' n' c', Rd w' g R.2 p' n' c') ∧ Turn w w' (fun b => b = g) := by
  have HRD : Hid (Rd w g s p n c) := h
  have HV : Hid (C.getV s = (cv, s1)) := hv
  have HM : Hid (C.rnum s1 0 1000 = ((m : Int), s2)) := hm
  have HR : Hid (R = C.rowR (m - 0) s2) := hR.symm
  have HGL : Hid (g < w.heap.size) := h.lt
  have HLS : Hid ((s.getD []).length ≤ 100000) := hl
  have HL1 : Hid ((s1.getD []).length ≤ 100000) := hl1
  have HL2 : Hid ((s2.getD []).length ≤ 100000) := rnum_len' hm hl1
  clear h hv hm hR hl hl1
  go_enter Try.func38, Try.ntmps38
  go_wp2_with fail
  refine (get_at _ g s p n c cv s1 (HRD.out.below (below_new w _)) HLS.out HV.out).mono ?_
  rintro e w1 ⟨rfl, ⟨p1, n1, c1, hr1⟩, hg1⟩
  have HR1 : Hid (Rd w1 g s1 p1 n1 c1) := hr1
  have hb0 : Below w.heap.size w (w.alloc (.cells (cells7 ⟨0, 0, 0, 0, 0, 0, 0⟩) 43)) := below_new w _
  have HT1 : Hid (Turn w w1 (fun b => b = g)) := (Turn.of_below hb0).trans (turn_g hg1) fun x hx => Or.inl hx
  have HQ0 : Hid (w1.heap[w.heap.size]? = some (.cells (cells7 ⟨0, 0, 0, 0, 0, 0, 0⟩) 43)) := by
    show _ = _
    rw [hg1.block w.heap.size (by simp) (fun e => by cases e; have := HGL.out; omega)]; exact heap_alloc_new w _
  clear hr1 hg1 hb0 HRD
  have hcv : cv.v = .agg (cells7 cv) := rfl
  obtain ⟨x0, x1, x2, x3, x4, x5, x6⟩ := cv
  rw [hcv]
  clear hcv
  simp only [cells7]
  have HB1 : Hid (Below w1.heap.size w1 (w1.alloc (.cells #[.int .i64 x0, .int .i64 x1, .int .i64 x2, .int .i64 x3, .int .i64 x4, .int .i64 x5, .int .i64 x6] 43))) := below_new _ _
  have HQ1 : Hid ((w1.alloc (.cells #[.int .i64 x0, .int .i64 x1, .int .i64 x2, .int .i64 x3, .int .i64 x4, .int .i64 x5, .int .i64 x6] 43)).heap[w1.heap.size]? = some (.cells #[.int .i64 x0, .int .i64 x1, .int .i64 x2, .int .i64 x3, .int .i64 x4, .int .i64 x5, .int .i64 x6] 43)) := heap_alloc_new _ _
  go_wp2_with fail
  refine (rnum_at _ g s1 p1 n1 c1 0 1000 _ s2 (HR1.out.below HB1.out) HL1.out HM.out).mono ?_
  rintro e w2 ⟨rfl, ⟨p2, n2, c2, hr2⟩, hg2⟩
  have HR2 : Hid (Rd w2 g s2 p2 n2 c2) := hr2
  have HT2 : Hid (Turn w w2 (fun b => b = g)) := (HT1.out.trans (Turn.of_below (S := fun b => b = g) HB1.out) fun x hx => Or.inl hx).trans (turn_g hg2) fun x hx => Or.inl hx
  have hgl := HGL.out
  have hs1 := HT1.out.size
  have HQ2 : Hid (w2.heap[w.heap.size]? = some (.cells (cells7 ⟨0, 0, 0, 0, 0, 0, 0⟩) 43)) := by
    show _ = _
    have h1 := keep_on HB1.out HQ0.out
    rw [hg2.block _ (Array.getElem?_eq_some_iff.1 h1).1 (fun e => by cases e; omega)]; exact h1
  have HQ3 : Hid (w2.heap[w1.heap.size]? = some (.cells #[.int .i64 x0, .int .i64 x1, .int .i64 x2, .int .i64 x3, .int .i64 x4, .int .i64 x5, .int .i64 x6] 43)) := by
    show _ = _
    rw [hg2.block _ (Array.getElem?_eq_some_iff.1 HQ1.out).1 (fun e => by cases e; omega)]; exact HQ1.out
  have HS1 : Hid (w.heap.size ≤ w1.heap.size) := hs1
  clear hr2 hg2 hgl hs1 HQ0 HQ1 HB1 HR1 HT1
  go_wp2_with fail
  go_loopw [5, 11] (fun s5 s11 wr => ∃ (k : Nat) (lk : List C.Dt) (sk : Option (List UInt8)), s11 = .int .i64 k ∧ k ≤ m ∧ Hid (R = (lk ++ (C.rowR (m - k) sk).1, (C.rowR (m - k) sk).2)) ∧ Hid (lk.length ≤ k) ∧ Hid (OwnN wr s5 lk) ∧ Hid (Fresh w2 s5) ∧ Hid ((sk.getD []).length ≤ 100000) ∧ Hid (∃ p n c, Rd wr g sk p n c) ∧ Hid (Turn w2 wr (fun b => b = g))) (fun _ s11 _ => m - (intOf s11).toNat)
  case atStart => exact ⟨0, [], s2, rfl, Nat.zero_le _, by show R = _; rw [HR.out]; rfl, Nat.le_refl _, OwnN.nil _, fun b hb => (by cases hb), HL2.out, ⟨p2, n2, c2, HR2.out⟩, Turn.refl _ _⟩
  case round =>
    clear HR2
    obtain ⟨k, lk, sk, rfl, hkm, HK, HLK, HO, HF, HLK2, HRk, HT⟩ := hrel
    by_cases hlt : k < m
    · obtain ⟨pk, nk, ck, hrk⟩ := HRk.out
      have HRK : Hid (Rd wr g sk pk nk ck) := hrk
      obtain ⟨a, sa, ha⟩ : ∃ a sa, C.rnum sk 0 6 = (a, sa) := ⟨_, _, rfl⟩
      obtain ⟨b, sb, hb⟩ : ∃ b sb, C.rnum sa 1 1099511627776 = (b, sb) := ⟨_, _, rfl⟩
      have HA : Hid (C.rnum sk 0 6 = (a, sa)) := ha
      have HBb : Hid (C.rnum sa 1 1099511627776 = (b, sb)) := hb
      have HLA : Hid ((sa.getD []).length ≤ 100000) := rnum_len' ha HLK2.out
      have HLB : Hid ((sb.getD []).length ≤ 100000) := rnum_len' hb HLA.out
      have HST : Hid (C.rowR (m - k) sk = ((a, b) :: (C.rowR (m - (k + 1)) sb).1, (C.rowR (m - (k + 1)) sb).2)) := rowR_step hlt ha hb
      clear hrk ha hb HRk
      go_wp2_with fail
      refine (rnum_at _ g sk pk nk ck 0 6 a sa HRK.out HLK2.out HA.out).mono ?_
      rintro e w3 ⟨rfl, ⟨p3, n3, c3, hr3⟩, hg3⟩
      have HR3 : Hid (Rd w3 g sa p3 n3 c3) := hr3
      have HT3 : Hid (Turn w2 w3 (fun b => b = g)) := HT.out.trans (turn_g hg3) fun x hx => Or.inl hx
      have hsz2 := HT2.out.size
      have hgl := HGL.out
      have HO3 : Hid (OwnN w3 u5 lk) := HO.out.same fun b hb => hg3.block b (row_lt HO.out.1 hb) fun e => by have := HF.out b hb; cases e; omega
      clear hr3 hg3 hsz2 hgl HRK
      go_wp2_with fail
      refine (rnum_at _ g sa p3 n3 c3 1 1099511627776 b sb HR3.out HLA.out HBb.out).mono ?_
      rintro e w4 ⟨rfl, ⟨p4, n4, c4, hr4⟩, hg4⟩
      have HR4 : Hid (Rd w4 g sb p4 n4 c4) := hr4
      have HT4 : Hid (Turn w2 w4 (fun b => b = g)) := HT3.out.trans (turn_g hg4) fun x hx => Or.inl hx
      have hsz2 := HT2.out.size
      have hgl := HGL.out
      have HO4 : Hid (OwnN w4 u5 lk) := HO3.out.same fun b hb => hg4.block b (row_lt HO3.out.1 hb) fun e => by have := HF.out b hb; cases e; omega
      clear hr4 hg4 hsz2 hgl HR3 HO3 HO
      have HO5 : Hid (OwnN (w4.alloc (.cells #[.int .i64 a, .int .i64 b] 29)) u5 lk) := HO4.out.same fun b hb => (below_new w4 _).block b (row_lt HO4.out.1 hb)
      go_wp2_with (at_builtin; go_must (refine wpList_append_one rfl _ _ rfl rfl rfl HO5.out (heap_alloc_new w4 _) (by have := HLK.out; omega) ?_); intro v6 w6 ho6 hg6 hb6)
      have HO6 : Hid (OwnN w6 v6 (lk ++ [(a, b)])) := ho6
      have hsz4 := HT4.out.size
      have HF6 : Hid (Fresh w2 v6) := fun b hb => by
        rcases hb6 with h | h
        · exact HF.out b (h.symm.trans hb)
        · rw [h] at hb; cases hb; simp only [World.size_alloc]; omega
      have hsz2 := HT2.out.size
      have hgl := HGL.out
      have HR6 : Hid (Rd w6 g sb p4 n4 c4) := rd_grown (HR4.out.below (below_new w4 _)) hg6 fun k hk => ⟨HO5.out.2 k hk, fun e => by have := HF.out k hk; omega⟩
      have HT6 : Hid (Turn w2 w6 (fun b => b = g)) := (HT4.out.alloc _).trans (Turn.of_grown (S := fun b => u5.ownBlock = some b) hg6 fun b hb => hb) fun x hx => Or.inr (HF.out x hx)
      clear ho6 hg6 hb6 hsz4 hsz2 hgl HO5 HO4 HR4
      go_wp2
      go_roundw
      case rel => exact ⟨k + 1, lk ++ [(a, b)], sb, by go_num, by omega, by show R = _; rw [HK.out, HST.out]; simp, by have := HLK.out; show _ ≤ _; simp; omega, HO6.out, HF6.out, HLB.out, ⟨p4, n4, c4, HR6.out⟩, HT6.out⟩
      case measure => simp [intOf]; omega
    · obtain rfl : k = m := by omega
      have HE : Hid (R = (lk, sk)) := by
        show R = _
        rw [HK.out, Nat.sub_self]
        simp [C.rowR]
      have hgl := HGL.out
      have hs1 := HS1.out
      have HQz : Hid (wr.heap[w.heap.size]? = some (.cells (cells7 ⟨0, 0, 0, 0, 0, 0, 0⟩) 43)) := by
        show _ = _
        rw [HT.out.block _ (Array.getElem?_eq_some_iff.1 HQ2.out).1 (by omega)]; exact HQ2.out
      have HQc : Hid (wr.heap[w1.heap.size]? = some (.cells #[.int .i64 x0, .int .i64 x1, .int .i64 x2, .int .i64 x3, .int .i64 x4, .int .i64 x5, .int .i64 x6] 43)) := by
        show _ = _
        rw [HT.out.block _ (Array.getElem?_eq_some_iff.1 HQ3.out).1 (by omega)]; exact HQ3.out
      obtain ⟨b0, b1, b2, b3, b4, b5, b6⟩ := box7 HQc.out
      obtain ⟨⟨z0, z1, z2, z3, z4, z5, z6⟩, f0, f1, f2, f3, f4, f5, f6⟩ := zfacts7 HQz.out
      clear hgl hs1
      go_wp2
      generalize hW : World.setCell _ _ _ = W5
      have hq : W5.heap[w.heap.size]? = some (.cells (cells7 ⟨x0, x1, x2, x3, x4, x5, x6⟩) 43) := by
        rw [← hW]
        exact (set_block (set_block (set_block (set_block (set_block (set_block (set_block HQz.out)))))))
      have hg5 : wr.grownBy W5 (some w.heap.size) := by
        rw [← hW]
        exact sets7 wr w.heap.size _ _ _ _ _ _ _
      have hsz2 := HT2.out.size
      have hgl := HGL.out
      have hqlt := (Array.getElem?_eq_some_iff.1 HQ2.out).1
      have HO5 : OwnN W5 u5 lk := HO.out.same fun b hb => hg5.block b (row_lt HO.out.1 hb) fun e => by have h1 := HF.out b hb; cases e; omega
      obtain ⟨pk, nk, ck, hrk⟩ := HRk.out
      have HR5 : Rd W5 g sk pk nk ck := rd_grown hrk hg5 fun k hk => by cases hk; exact ⟨nb7 HQz.out, by omega⟩
      have HT5 : Turn w W5 (fun b => b = g) := by
        have t1 := HT2.out.trans HT.out fun x hx => Or.inl hx
        exact t1.trans (Turn.of_grown (S := fun b => b = w.heap.size) hg5 fun b hb => by cases hb; rfl) fun x hx => Or.inr (by omega)
      obtain ⟨c0, c1, c2, c3, c4, c5, c6⟩ := box7 hq
      clear hW b0 b1 b2 b3 b4 b5 b6 z0 z1 z2 z3 z4 z5 z6 f0 f1 f2 f3 f4 f5 f6
      refine bodyPost_ret (v := .tuple #[.agg #[.int .i64 x0, .int .i64 x1, .int .i64 x2, .int .i64 x3, .int .i64 x4, .int .i64 x5, .int .i64 x6], u5]) (by simp [results, Try.results38, go_sem, c0, c1, c2, c3, c4, c5, c6]) rfl ⟨⟨u5, rfl, ?_, fun b hb => ?_⟩, ⟨pk, nk, ck, ?_⟩, HT5⟩
      · rw [HE.out]; exact HO5
      · have := HF.out b hb; omega
      · rw [HE.out]; exact HR5
end Go.Proofs.Ytadafllhionhhaa
