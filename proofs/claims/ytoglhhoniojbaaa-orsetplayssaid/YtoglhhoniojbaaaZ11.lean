/-
  Several texts in one: QDots, QAll.
-/
import Derived.Test.YtoglhhoniojbaaaQRem
import Derived.Test.YtoglhhoniojbaaaZ4
namespace Go.Proofs.Ytoglhhoniojbaaa
open Go.RowKit Go.Lib
set_option linter.unusedVariables false
set_option linter.unusedSimpArgs false

theorem C.take_snoc1 {α : Type} {l : List α} {k : Nat} {e : α} (h : l[k]? = some e) : l.take (k + 1) = l.take k ++ [e] := by
  rw [List.take_add_one, h]; rfl
set_option maxRecDepth 100000 in
set_option maxHeartbeats 16000000 in
theorem qdots_any (w : World) (g : Nat) (vl vr : Value) (R : C.Rf) (x : Tx) (h : RsAt w g vl vr R) (hx : x.size ≤ maxLen) (hl : R.l.length ≤ 1000) :
    Calls Try.prog 23 #[.pointer (some ⟨g, 0, none⟩), .string x] w fun e w' => (∃ v', e = .returned v' ∧ OwnD w' v' (C.dotsF R.l x []) ∧ ∀ b, v'.ownBlock = some b → w.heap.size ≤ b) ∧ Below w.heap.size w w' := by
  have HS : Hid (RsAt w g vl vr R) := h
  have HL : Hid (R.l.length ≤ 1000) := hl
  obtain ⟨pl, cl, hvl, hpl⟩ := h.lo.slice
  obtain ⟨n, hn⟩ : ∃ n, n = R.l.length := ⟨_, rfl⟩
  rw [← hn] at hvl hpl
  have HN : Hid (n = R.l.length) := hn
  have HPL : Hid (0 < n → ∃ g, pl = some ⟨g, 0, none⟩) := hpl
  subst hvl
  have hn1000 : n ≤ 1000 := by rw [hn]; exact hl
  clear h hx hpl hn hl
  go_enter Try.func23, Try.ntmps23
  go_wp2_with fail
  go_loopw [5, 6] (fun s5 s6 wr => ∃ (k : Nat), s6 = .int .i64 k ∧ k ≤ n ∧ Hid (OwnD wr s5 (C.dotsF (R.l.take k) x [])) ∧ Hid (∀ b, s5.ownBlock = some b → w.heap.size ≤ b) ∧ Hid (Below w.heap.size w wr)) (fun _ s6 _ => n - (intOf s6).toNat)
  case atStart => exact ⟨0, rfl, Nat.zero_le _, OwnD.nil w, (fun b hb => by cases hb), Below.refl _ _⟩
  case round =>
    obtain ⟨k, rfl, hkn, HO, HF, HB⟩ := hrel
    have hS := HS.out.below HB.out
    have c0 := hS.cells.1
    by_cases hlt : k < n
    · obtain ⟨z, hz⟩ : ∃ z, R.l[k]? = some z := ⟨_, List.getElem?_eq_getElem (by have := HN.out; omega)⟩
      obtain ⟨gl, rfl⟩ := HPL.out (by omega)
      have HT : Hid (C.dotsF (R.l.take (k + 1)) x [] = if (decide (z.x = x) && !z.gone) = true then C.insL z.d (C.dotsF (R.l.take k) x []) else C.dotsF (R.l.take k) x []) := by
        show _ = _
        rw [C.take_snoc1 hz, C.dotsF_snoc]
      have hlz : (k : Int) < (n : Int) := by omega
      have a0 := OwnG.cell encE_len hS.lo hz (j := 0) (by decide) rfl
      have a1 := OwnG.cell encE_len hS.lo hz (j := 1) (by decide) rfl
      have a2 := OwnG.cell encE_len hS.lo hz (j := 2) (by decide) rfl
      have a3 := OwnG.cell encE_len hS.lo hz (j := 3) (by decide) rfl
      simp only [Nat.add_zero] at a0
      clear hS hz
      obtain ⟨⟨e1, e2⟩, zx, zg⟩ := z
      simp only at a0 a1 a2 a3
      obtain ⟨qx, hqx⟩ : ∃ qx, (zx.toList == x.toList) = qx := ⟨_, rfl⟩
      have HQX : Hid (decide (zx = x) = qx) := by show _ = _; rw [← hqx, tx_eq]
      cases qx with
      | false =>
        have HT2 : Hid (C.dotsF (R.l.take (k + 1)) x [] = C.dotsF (R.l.take k) x []) := by
          show _ = _
          have h1 := HT.out
          rw [HQX.out] at h1
          simpa using h1
        clear HT
        go_wp2
        go_roundw
        case rel => exact ⟨k + 1, by go_num, by omega, by rw [HT2.out]; exact HO.out, HF.out, HB.out⟩
        case measure => simp [intOf]; omega
      | true =>
        cases zg with
        | true =>
          have HT2 : Hid (C.dotsF (R.l.take (k + 1)) x [] = C.dotsF (R.l.take k) x []) := by
            show _ = _
            have h1 := HT.out
            rw [HQX.out] at h1
            simpa using h1
          clear HT
          go_wp2
          go_roundw
          case rel => exact ⟨k + 1, by go_num, by omega, by rw [HT2.out]; exact HO.out, HF.out, HB.out⟩
          case measure => simp [intOf]; omega
        | false =>
          have HT2 : Hid (C.dotsF (R.l.take (k + 1)) x [] = C.insL (e1, e2) (C.dotsF (R.l.take k) x [])) := by
            show _ = _
            have h1 := HT.out
            rw [HQX.out] at h1
            simpa using h1
          clear HT
          have HIN : Hid (∀ v, OwnD wr v (C.dotsF (R.l.take k) x []) → Calls Try.prog 50 #[v, .agg #[.int .i64 e1, .int .i64 e2]] wr fun e w' => (∃ v', e = .returned v' ∧ OwnD w' v' (C.insL (e1, e2) (C.dotsF (R.l.take k) x [])) ∧ (v' = v ∨ ∀ b, v'.ownBlock = some b → wr.heap.size ≤ b)) ∧ Below wr.heap.size wr w') := fun v hv => rinsert_any v _ e1 e2 wr hv (by
            have h1 := C.dotsF_len x (R.l.take k) []
            have h2 := List.length_take_le k R.l
            simp only [List.length_nil] at h1
            omega)
          go_wp2_with fail
          refine (HIN.out _ HO.out).mono ?_
          rintro e w5 ⟨⟨v', rfl, HO5, HF5⟩, HB5⟩
          have HFN : Hid (∀ b, v'.ownBlock = some b → w.heap.size ≤ b) := fun b hb => by
            rcases HF5 with rfl | h1
            · exact HF.out b hb
            · exact Nat.le_trans HB.out.size (h1 b hb)
          have HON : Hid (OwnD w5 v' (C.dotsF (R.l.take (k + 1)) x [])) := by show OwnD _ _ _; rw [HT2.out]; exact HO5
          have HBN : Hid (Below w.heap.size w w5) := bt HB.out HB5
          clear HIN HO5 HF5 HB5
          go_wp2
          go_roundw
          case rel => exact ⟨k + 1, by go_num, by omega, HON.out, HFN.out, HBN.out⟩
          case measure => simp [intOf]; omega
    · obtain rfl : k = n := by omega
      have HON : Hid (OwnD wr u5 (C.dotsF R.l x [])) := by
        have h1 := HO.out
        rw [List.take_of_length_le (by have := HN.out; omega)] at h1
        exact h1
      clear hS
      go_wp2
      go_ret
      exact ⟨⟨_, rfl, HON.out, HF.out⟩, HB.out⟩
end Go.Proofs.Ytoglhhoniojbaaa

namespace Go.Proofs.Ytoglhhoniojbaaa
open Go.RowKit Go.Lib Go.Sort
set_option linter.unusedVariables false
set_option linter.unusedSimpArgs false

namespace C
theorem insT_at (d : List UInt8) : ∀ (l : List (List UInt8)) (k : Nat), (∀ j x, j < k → l[j]? = some x → x < d) → (∀ x, l[k]? = some x → ¬ x < d) → k ≤ l.length → insT d l = if l[k]? = some d then l else l.take k ++ d :: l.drop k
  | [], k, _, _, hk => by
    obtain rfl : k = 0 := by simpa using hk
    simp [insT]
  | e :: t, 0, _, h2, _ => by
    have h := h2 e rfl
    unfold insT
    rw [if_neg h]
    by_cases he : e = d
    · simp [he]
    · simp [he]
  | e :: t, k + 1, h1, h2, hk => by
    have h := h1 0 e (by omega) rfl
    have ih := insT_at d t k (fun j x hj hx => h1 (j + 1) x (by omega) (by simpa using hx)) (fun x hx => h2 x (by simpa using hx)) (by simpa using hk)
    unfold insT
    rw [if_pos h, ih]
    by_cases he : t[k]? = some d
    · simp [he]
    · simp [he]
end C
def encT (b : List UInt8) : List Value := [encStr b]
theorem encT_len (b : List UInt8) : (encT b).length = 1 := rfl
theorem encT_one (b : List UInt8) : ∀ u ∈ encT b, u.oneCell' = true := by
  intro u hu
  obtain rfl : u = encStr b := by simpa [encT] using hu
  rfl
theorem encT_eq (x : Tx) : encT x.toList = [.string x] := by
  show [Value.string ⟨x.toList.toArray⟩] = _
  rw [tx_list]
theorem rowT (l : List (List UInt8)) : rowG encT l = l.map encStr := by
  induction l with
  | nil => rfl
  | cons a t ih =>
    show encT a ++ rowG encT t = _
    rw [ih]; rfl
abbrev OwnS (w : World) (v : Value) (l : List (List UInt8)) : Prop := OwnG encT w 9 1 v l
theorem OwnS.ownT {w : World} {v : Value} {l : List (List UInt8)} (h : OwnS w v l) : OwnT w 0 v l := by
  have h1 : w.ownsRow 0 9 1 v l.length (rowG encT l) := h
  rw [rowT] at h1
  exact h1
theorem u_strs : Try.prog.underlying 46 = some (.slice 9) := Try.underlying46
theorem info_strs : (Try.prog.info? 9).map (fun i => (i.zero, i.size, i.bytes)) = some (some (.string ByteArray.empty), 1, 16) := by kernel_rfl
theorem cap_ofS {w : World} {p : Option Addr} {n c : Nat} {l : List (List UInt8)} (h : OwnS w (.slice p n c) l) : l.length ≤ c := by
  rcases h.2 with ⟨h1, h2⟩ | ⟨g, cap, cur, hv, _, _, hn, _⟩
  · rw [h2]; exact Nat.zero_le _
  · cases hv; exact hn
theorem src_takeT {w : World} {g n c k : Nat} {l : List (List UInt8)} (hk : k ≤ l.length) (h : OwnS w (.slice (some ⟨g, 0, none⟩) n c) l) : SrcAt w 1 (.slice (some ⟨g, 0, none⟩) k c) (l.take k).length (rowG encT (l.take k)) := by
  refine ⟨some ⟨g, 0, none⟩, c, by rw [List.length_take, Nat.min_eq_left hk], rowG_length encT encT_len _, (fun e => by cases e), fun a ha j u hj => ?_⟩
  cases ha
  have h1 := World.ownsRow.cells h rfl j u (by rw [← List.take_append_drop k l, ← rowG_append, List.getElem?_append_left (List.getElem?_eq_some_iff.1 hj).1]; exact hj)
  exact h1
theorem src_dropT {w : World} {g n c k : Nat} {l : List (List UInt8)} (h : OwnS w (.slice (some ⟨g, 0, none⟩) n c) l) : SrcAt w 1 (.slice (some ⟨g, k, none⟩) (l.length - k) (c - k)) (l.drop k).length (rowG encT (l.drop k)) := by
  refine ⟨some ⟨g, k, none⟩, c - k, by rw [List.length_drop], rowG_length encT encT_len _, (fun e => by cases e), fun a ha j u hj => ?_⟩
  cases ha
  by_cases hk : k ≤ l.length
  · have e : (rowG encT (l.take k)).length = k := by rw [rowG_length encT encT_len, List.length_take, Nat.min_eq_left hk, Nat.mul_one]
    have h1 := World.ownsRow.cells h rfl (k + j) u (by rw [← List.take_append_drop k l, ← rowG_append, List.getElem?_append_right (by omega), e, Nat.add_sub_cancel_left]; exact hj)
    rw [WideShapes.add_plain] at h1 ⊢
    simpa using h1
  · rw [List.drop_eq_nil_of_le (by omega)] at hj
    simp [rowG] at hj
theorem src_zeroT (W : World) (p : Option Addr) (c : Nat) : SrcAt W 1 (.slice p 0 c) ([] : List (List UInt8)).length (rowG encT []) := ⟨p, c, rfl, rfl, fun _ => rfl, fun a _ j u hj => by simp [rowG] at hj⟩
theorem OwnS.nth {w : World} {g n c : Nat} {l : List (List UInt8)} (h : OwnS w (.slice (some ⟨g, 0, none⟩) n c) l) {i : Nat} {x : List UInt8} (hx : l[i]? = some x) : w.cell? ⟨g, i, none⟩ = some (.string ⟨x.toArray⟩) := by
  have h1 := OwnG.cell encT_len h hx (j := 0) (by decide) rfl
  simpa using h1
set_option maxRecDepth 100000 in
set_option maxHeartbeats 16000000 in
theorem qall_any (w : World) (g : Nat) (vl vr : Value) (R : C.Rf) (h : RsAt w g vl vr R) (hl : R.l.length ≤ 1000) :
    Calls Try.prog 20 #[.pointer (some ⟨g, 0, none⟩)] w fun e w' => (∃ v', e = .returned v' ∧ OwnS w' v' (C.allF R.l []) ∧ ∀ b, v'.ownBlock = some b → w.heap.size ≤ b) ∧ Below w.heap.size w w' := by
  have HS : Hid (RsAt w g vl vr R) := h
  have HL : Hid (R.l.length ≤ 1000) := hl
  obtain ⟨pl, cl, hvl, hpl⟩ := h.lo.slice
  obtain ⟨n, hn⟩ : ∃ n, n = R.l.length := ⟨_, rfl⟩
  rw [← hn] at hvl hpl
  have HN : Hid (n = R.l.length) := hn
  have HPL : Hid (0 < n → ∃ g, pl = some ⟨g, 0, none⟩) := hpl
  subst hvl
  have hn1000 : n ≤ 1000 := by rw [hn]; exact hl
  clear h hpl hn hl
  go_enter Try.func20, Try.ntmps20
  go_wp2_with fail
  go_loopw [3, 4] (fun s3 s4 wr => ∃ (k : Nat), s4 = .int .i64 k ∧ k ≤ n ∧ Hid (OwnS wr s3 (C.allF (R.l.take k) [])) ∧ Hid (∀ b, s3.ownBlock = some b → w.heap.size ≤ b) ∧ Hid (Below w.heap.size w wr)) (fun _ s4 _ => n - (intOf s4).toNat)
  case atStart => exact ⟨0, rfl, Nat.zero_le _, OwnG.nil w _ _, (fun b hb => by cases hb), Below.refl _ _⟩
  case round =>
    obtain ⟨k, rfl, hkn, HO, HF, HB⟩ := hrel
    have hS := HS.out.below HB.out
    have c0 := hS.cells.1
    by_cases hlt : k < n
    · obtain ⟨z, hz⟩ : ∃ z, R.l[k]? = some z := ⟨_, List.getElem?_eq_getElem (by have := HN.out; omega)⟩
      obtain ⟨gl, rfl⟩ := HPL.out (by omega)
      have HT : Hid (C.allF (R.l.take (k + 1)) [] = if z.gone = true then C.allF (R.l.take k) [] else C.insT z.x.toList (C.allF (R.l.take k) [])) := by
        show _ = _
        rw [C.take_snoc1 hz, C.allF_snoc]
      have HLL : Hid ((C.allF (R.l.take k) []).length ≤ 1000) := by
        have h1 := C.allF_len (R.l.take k) []
        have h2 := List.length_take_le k R.l
        simp only [List.length_nil] at h1
        show _ ≤ _
        omega
      obtain ⟨L, hL⟩ : ∃ L, L = C.allF (R.l.take k) [] := ⟨_, rfl⟩
      rw [← hL] at HO HT HLL
      have HLE : Hid (L = C.allF (R.l.take k) []) := hL
      have hlz : (k : Int) < (n : Int) := by omega
      have a2 := OwnG.cell encE_len hS.lo hz (j := 2) (by decide) rfl
      have a3 := OwnG.cell encE_len hS.lo hz (j := 3) (by decide) rfl
      have HA2 : Hid (∀ W, Below wr.heap.size wr W → W.cell? ⟨gl, k * 4 + 2, none⟩ = some (.string z.x)) := fun W hW => OwnG.cell encE_len (HS.out.below (bt HB.out hW)).lo hz (j := 2) (by decide) rfl
      have HA0 : Hid (∀ W, Below wr.heap.size wr W → W.cell? ⟨g, 0, none⟩ = some (.slice (some ⟨gl, 0, none⟩) n cl)) := fun W hW => (HS.out.below (bt HB.out hW)).cells.1
      clear hS hz hL
      obtain ⟨⟨e1, e2⟩, zx, zg⟩ := z
      simp only at a2 a3 HA2
      cases zg with
      | true =>
        have HT2 : Hid (C.allF (R.l.take (k + 1)) [] = L) := by
          have h1 := HT.out
          show _ = _
          simpa using h1
        clear HT
        go_wp2
        go_roundw
        case rel => exact ⟨k + 1, by go_num, by omega, by rw [HT2.out]; exact HO.out, HF.out, HB.out⟩
        case measure => simp [intOf]; omega
      | false =>
        have HT2 : Hid (C.allF (R.l.take (k + 1)) [] = C.insT zx.toList L) := by
          have h1 := HT.out
          show _ = _
          simpa using h1
        obtain ⟨q1, c1, hq, hq1⟩ := HO.out.slice
        subst hq
        obtain ⟨m, hm⟩ : ∃ m, m = L.length := ⟨_, rfl⟩
        have HM : Hid (m = L.length) := hm
        rw [← hm] at HO HF hq1 HLL
        have HQ1 : Hid (0 < m → ∃ g, q1 = some ⟨g, 0, none⟩) := hq1
        have hm1000 : m ≤ 1000 := HLL.out
        rw [← hm]
        clear HT hq1 hm
        obtain ⟨W3, hW3⟩ : ∃ W3, W3 = wr := ⟨_, rfl⟩
        subst hW3
        go_wp2_with fail
        clear c0 a2 a3
        go_loopw [5] (fun s5 w5 => ∃ (j : Nat), s5 = .int .i64 j ∧ j ≤ m ∧ Hid (∀ i y, i < j → L[i]? = some y → y < zx.toList) ∧ Hid (Below W3.heap.size W3 w5)) (fun s5 _ => m - (intOf s5).toNat)
        case atStart => exact ⟨0, rfl, Nat.zero_le _, (fun i y hi => absurd hi (Nat.not_lt_zero _)), Below.refl _ _⟩
        case round =>
          obtain ⟨j, rfl, hjm, HK, HB5⟩ := hrel
          by_cases hlt2 : j < m
          · obtain ⟨y, hy⟩ : ∃ y, L[j]? = some y := ⟨_, List.getElem?_eq_getElem (by have := HM.out; omega)⟩
            obtain ⟨g1, rfl⟩ := HQ1.out (by omega)
            have HY : Hid (L[j]? = some y) := hy
            have hly : (j : Int) < (m : Int) := by omega
            obtain ⟨Y, hYe⟩ : ∃ Y : Tx, Y = ⟨y.toArray⟩ := ⟨_, rfl⟩
            have HYE : Hid (Y.toList = y) := by show _ = _; rw [hYe, ByteArray.toList_eq]
            have HA1 : Hid (∀ W, Below W3.heap.size W3 W → W.cell? ⟨g1, j, none⟩ = some (.string Y)) := fun W hW => by rw [hYe]; exact OwnS.nth (HO.out.below hW) hy
            clear hy hYe
            have hne : Nonempty (NewW wr) := ⟨NewW.start wr⟩
            have b0 : ∀ t : NewW wr, t.v.cell? ⟨g, 0, none⟩ = some (.slice (some ⟨gl, 0, none⟩) n cl) := fun t => HA0.out _ (bt HB5.out t.h)
            have b2 : ∀ t : NewW wr, t.v.cell? ⟨gl, k * 4 + 2, none⟩ = some (.string zx) := fun t => HA2.out _ (bt HB5.out t.h)
            have b1 : ∀ t : NewW wr, t.v.cell? ⟨g1, j, none⟩ = some (.string Y) := fun t => HA1.out _ (bt HB5.out t.h)
            obtain ⟨qb, hqb⟩ : ∃ qb, Op.bytesLess Y.toList zx.toList = qb := ⟨_, rfl⟩
            have HD : Hid (qb = decide (y < zx.toList)) := by show _ = _; rw [← hqb, bytesLess_eq, HYE.out]
            cases qb with
            | true =>
              go_wp2_with fail
              refine wp_region_new (by kernel_rfl) (by kernel_rfl) ?_
              repeat (go_big_quiet_step (fail))
              refine wpQuiet_nil ?_
              rintro _ ⟨w2, rfl⟩
              have HB2 : Hid (Below W3.heap.size W3 w2.v) := bt HB5.out w2.h
              clear b0 b1 b2 hne hqb
              go_wp2
              go_roundw
              case rel =>
                refine ⟨j + 1, by go_num, by omega, ?_, HB2.out⟩
                intro i x hi hx
                by_cases e : i = j
                · subst e
                  rw [HY.out] at hx
                  cases hx
                  exact of_decide_eq_true HD.out.symm
                · exact HK.out i x (by omega) hx
              case measure => simp [intOf]; omega
            | false =>
              go_wp2_with fail
              refine wp_region_new (by kernel_rfl) (by kernel_rfl) ?_
              repeat (go_big_quiet_step (fail))
              refine wpQuiet_nil ?_
              rintro _ ⟨w2, rfl⟩
              have HB2 : Hid (Below W3.heap.size W3 w2.v) := bt HB5.out w2.h
              obtain ⟨wc, hwc⟩ : ∃ wc, w2.v = wc := ⟨_, rfl⟩
              rw [hwc] at HB2 ⊢
              clear hwc b0 b1 b2 hne hqb w2 HB5
              have HAT : Hid (C.insT zx.toList L = if L[j]? = some zx.toList then L else L.take j ++ zx.toList :: L.drop j) := C.insT_at zx.toList L j HK.out (fun x hx => by rw [HY.out] at hx; cases hx; exact of_decide_eq_false HD.out.symm) (by have := HM.out; omega)
              have hne : Nonempty (NewW wc) := ⟨NewW.start wc⟩
              have b0 : ∀ t : NewW wc, t.v.cell? ⟨g, 0, none⟩ = some (.slice (some ⟨gl, 0, none⟩) n cl) := fun t => HA0.out _ (bt HB2.out t.h)
              have b2 : ∀ t : NewW wc, t.v.cell? ⟨gl, k * 4 + 2, none⟩ = some (.string zx) := fun t => HA2.out _ (bt HB2.out t.h)
              have b1 : ∀ t : NewW wc, t.v.cell? ⟨g1, j, none⟩ = some (.string Y) := fun t => HA1.out _ (bt HB2.out t.h)
              obtain ⟨qb, hqb⟩ : ∃ qb, (Y.toList == zx.toList) = qb := ⟨_, rfl⟩
              have HE : Hid (qb = decide (y = zx.toList)) := by
                show _ = _
                rw [← hqb, HYE.out]
                exact Bool.eq_iff_iff.2 (by simp)
              have HBW : Hid (Below w.heap.size w wc) := bt HB.out HB2.out
              cases qb with
              | true =>
                go_wp2_with fail
                refine wp_region_new (by kernel_rfl) (by kernel_rfl) ?_
                repeat (go_big_quiet_step (fail))
                refine wpQuiet_nil ?_
                rintro _ ⟨w3, rfl⟩
                have HB3 : Hid (Below w.heap.size w w3.v) := bt HBW.out w3.h
                have HO3 : Hid (OwnS w3.v (.slice (some ⟨g1, 0, none⟩) m c1) (C.allF (R.l.take (k + 1)) [])) := by
                  show OwnS _ _ _
                  rw [HT2.out, HAT.out, if_pos (by rw [HY.out, of_decide_eq_true HE.out.symm])]
                  exact HO.out.below (bt HB2.out w3.h)
                clear b0 b1 b2 hne hqb
                go_wp2
                go_roundw
                case rel => exact ⟨k + 1, by go_num, by omega, HO3.out, HF.out, HB3.out⟩
                case measure => simp [intOf]; omega
              | false =>
                have HINS : Hid (C.allF (R.l.take (k + 1)) [] = L.take j ++ zx.toList :: L.drop j) := by
                  show _ = _
                  rw [HT2.out, HAT.out, if_neg (by rw [HY.out]; intro e; cases e; have := HE.out; simp at this)]
                have HS3 : Hid (∀ W, Below wc.heap.size wc W → SrcAt W 1 (.slice (some ⟨g1, 0, none⟩) j c1) (L.take j).length (rowG encT (L.take j))) := fun W hW => src_takeT (by have := HM.out; omega) (HO.out.below (bt HB2.out hW))
                have HS10 : Hid (∀ W, Below wc.heap.size wc W → SrcAt W 1 (.slice (some ⟨g1, j, none⟩) (m - j) (c1 - j)) (L.drop j).length (rowG encT (L.drop j))) := fun W hW => by rw [HM.out]; exact src_dropT (HO.out.below (bt HB2.out hW))
                have hcap : m ≤ c1 := by have := cap_ofS HO.out; have := HM.out; omega
                go_wp2_with fail
                refine wp_region_new (by kernel_rfl) (by kernel_rfl) ?_
                repeat (go_big_quiet_step (fail))
                refine wpQuiet_nil ?_
                rintro _ ⟨w3, rfl⟩
                clear hqb b1
                go_wp2_with fail
                have hC : ∃ m : NewW wc, w3.v.drew = m.v := ⟨⟨w3.v.drew, w3.h.drew⟩, rfl⟩
                refine wp_region_held_drew (S := fun w' => ∃ m : NewW wc, w' = m.v) (by kernel_rfl) hC (fun _ => ?_)
                have hB : Below wc.heap.size wc w3.v.drew := w3.h.drew
                generalize hW0 : w3.v.drew = W0 at *
                clear hW0 w3
                refine takeList (i := 1) rfl (by kernel_rfl) (by kernel_rfl) (by kernel_rfl) (fun _ _ _ _ h => h) rfl rfl hC (fun K hK => ?_)
                go_big_quiet_op
                refine hK _ ?_
                clear hK K
                refine takeList (i := 2) rfl (by kernel_rfl) (by kernel_rfl) (by kernel_rfl) (fun _ _ _ _ h => h) rfl rfl hC (fun K hK => ?_)
                go_big_quiet_op
                refine hK _ ?_
                clear hK K
                refine takeVal (i := 3) (.slice (some ⟨g1, 0, none⟩) j c1) rfl (by kernel_rfl) (by kernel_rfl) (by kernel_rfl) (fun _ _ _ _ h => h) rfl hC (fun w' _ => by go_simp; try (intro h; omega)) ?_
                go_simp
                refine takeList (i := 5) rfl (by kernel_rfl) (by kernel_rfl) (by kernel_rfl) (fun _ _ _ _ h => h) rfl rfl hC (fun K hK => ?_)
                go_big_quiet_op
                refine hK _ ?_
                clear hK K
                refine takeNil (i := 6) rfl rfl rfl (by kernel_rfl) (by kernel_rfl) (by kernel_rfl) (fun _ _ _ _ h => h) rfl hC ?_
                go_simp
                refine takeList (i := 7) rfl (by kernel_rfl) (by kernel_rfl) (by kernel_rfl) (fun _ _ _ _ h => h) rfl rfl hC (fun K hK => ?_)
                go_big_quiet_op
                refine hK _ ?_
                clear hK K
                refine takeList (i := 8) rfl (by kernel_rfl) (by kernel_rfl) (by kernel_rfl) (fun _ _ _ _ h => h) rfl rfl hC (fun K hK => ?_)
                go_big_quiet_op
                refine hK _ ?_
                clear hK K
                refine takeList (i := 9) rfl (by kernel_rfl) (by kernel_rfl) (by kernel_rfl) (fun _ _ _ _ h => h) rfl rfl hC (fun K hK => ?_)
                go_big_quiet_op
                refine hK _ ?_
                clear hK K
                refine takeList (i := 10) rfl (by kernel_rfl) (by kernel_rfl) (by kernel_rfl) (fun _ _ _ _ h => h) rfl rfl hC (fun K hK => ?_)
                go_big_quiet_op
                refine hK _ ?_
                clear hK K
                refine takeList (i := 11) rfl (by kernel_rfl) (by kernel_rfl) (by kernel_rfl) (fun _ _ _ _ h => h) rfl rfl hC (fun K hK => ?_)
                go_big_quiet_op
                refine hK _ ?_
                clear hK K
                refine takeList (i := 12) rfl (by kernel_rfl) (by kernel_rfl) (by kernel_rfl) (fun _ _ _ _ h => h) rfl rfl hC (fun K hK => ?_)
                go_big_quiet_op
                refine hK _ ?_
                clear hK K
                refine takeList (i := 15) rfl (by kernel_rfl) (by kernel_rfl) (by kernel_rfl) (fun _ _ _ _ h => h) rfl rfl hC (fun K hK => ?_)
                go_big_quiet_op
                refine hK _ ?_
                clear hK K
                refine takeList (i := 16) rfl (by kernel_rfl) (by kernel_rfl) (by kernel_rfl) (fun _ _ _ _ h => h) rfl rfl hC (fun K hK => ?_)
                go_big_quiet_op
                refine hK _ ?_
                clear hK K
                refine takeVal (i := 17) (.slice (some ⟨g1, j, none⟩) (m - j) (c1 - j)) rfl (by kernel_rfl) (by kernel_rfl) (by kernel_rfl) (fun _ _ _ _ h => h) rfl hC (fun w' _ => by go_simp; try (intro h; omega)) ?_
                go_simp
                clear b0 b2 hne
                refine wpAnyH_ready (rs := [0, 13]) (by kernel_rfl) (by simp) (AllReadyH.cons (at_of_drop (i := 0) rfl) (fun K hK => ?_) (AllReadyH.cons (at_of_drop (i := 13) rfl) (fun K hK => ?_) AllReadyH.nil))
                · rw [if_pos (by rfl)]
                  go_simp
                  have hal := below_new W0 (.cells #[] 9)
                  have hr := OwnG.empty (enc := encT) W0 9 1
                  obtain ⟨vr9, hvr⟩ : ∃ vr9, Value.slice (some ⟨W0.heap.size, 0, none⟩) 0 0 = vr9 := ⟨_, rfl⟩
                  have hrf : ∀ b, vr9.ownBlock = some b → wc.heap.size ≤ b := fun b hb => by rw [← hvr] at hb; cases hb; exact hB.size
                  rw [hvr] at hr ⊢
                  replace hB := bt hB hal
                  refine hK.out _ _ ⟨⟨_, hB⟩, rfl⟩ (fun hC => ?_)
                  generalize World.alloc W0 (.cells #[] 9) = Wq1 at *
                  clear hK K hal hvr
                  refine wpAnyH_ready (rs := [4, 13]) (by kernel_rfl) (by simp) (AllReadyH.cons (at_of_drop (i := 4) rfl) (fun K hK => ?_) (AllReadyH.cons (at_of_drop (i := 13) rfl) (fun K hK => ?_) AllReadyH.nil))
                  · refine stepG u_strs info_strs (by rfl) (by decide) (by decide) encT_one (ns := L.take j) rfl _ _ rfl rfl hr hrf hB rfl (HS3.out _ hB) (by have := HM.out; have := HLL.out; simp <;> omega) ?_
                    intro vr9 Wq2 hr hrf hB hk
                    clear hk
                    refine hK.out _ _ ⟨⟨_, hB⟩, rfl⟩ (fun hC => ?_)
                    go_simp
                    clear hK K
                    refine wpAnyH_ready (rs := [13]) (by kernel_rfl) (by simp) (AllReadyH.cons (at_of_drop (i := 13) rfl) (fun K hK => ?_) AllReadyH.nil)
                    rw [if_pos (by rfl)]
                    go_simp
                    have hal := below_new Wq2 (.cells #[.string zx] 9)
                    obtain ⟨vd, hvd⟩ : ∃ vd, Wq2.heap.size = vd := ⟨_, rfl⟩
                    have hd := heap_alloc_new Wq2 (.cells #[.string zx] 9)
                    have hdn : vr9.ownBlock ≠ some vd := fun e => by have := OwnG.lt hr e; omega
                    replace hr := OwnG.below hr hal
                    rw [hvd] at hd ⊢
                    replace hB := bt hB hal
                    refine hK.out _ _ ⟨⟨_, hB⟩, rfl⟩ (fun hC => ?_)
                    generalize World.alloc Wq2 (.cells #[.string zx] 9) = Wq3 at *
                    clear hK K hal hvd
                    refine wpAnyH_ready (rs := [14]) (by kernel_rfl) (by simp) (AllReadyH.cons (at_of_drop (i := 14) rfl) (fun K hK => ?_) AllReadyH.nil)
                    refine stepG u_strs info_strs (by rfl) (by decide) (by decide) encT_one (ns := [zx.toList]) rfl _ _ rfl rfl hr hrf hB rfl (src_one (x := zx.toList) encT_len (by rw [encT_eq]; exact hd)) (by have := HM.out; have := HLL.out; simp <;> omega) ?_
                    intro vr9 Wq4 hr hrf hB hk
                    clear hk
                    refine hK.out _ _ ⟨⟨_, hB⟩, rfl⟩ (fun hC => ?_)
                    go_simp
                    clear hK K
                    refine wpAnyH_ready (rs := [18]) (by kernel_rfl) (by simp) (AllReadyH.cons (at_of_drop (i := 18) rfl) (fun K hK => ?_) AllReadyH.nil)
                    refine stepG u_strs info_strs (by rfl) (by decide) (by decide) encT_one (ns := L.drop j) rfl _ _ rfl rfl hr hrf hB rfl (HS10.out _ hB) (by have := HM.out; have := HLL.out; simp <;> omega) ?_
                    intro vr9 Wq5 hr hrf hB hk
                    clear hk
                    refine hK.out _ _ ⟨⟨_, hB⟩, rfl⟩ (fun hC => ?_)
                    go_simp
                    clear hK K
                    refine takeList (i := 19) rfl (by kernel_rfl) (by kernel_rfl) (by kernel_rfl) (fun _ _ _ _ h => h) rfl rfl hC (fun K hK => ?_)
                    go_big_quiet_op
                    refine hK _ ?_
                    clear hK K
                    refine wpAnyH_done (by kernel_rfl) ?_ _
                    go_wp2
                    go_roundw
                    case rel => exact ⟨k + 1, by go_num, by omega, by show OwnS _ _ _; rw [HINS.out]; simpa using hr, fun b hb => Nat.le_trans HBW.out.size (hrf b hb), bt HBW.out hB⟩
                    case measure => simp [intOf]; omega
                  · rw [if_pos (by rfl)]
                    go_simp
                    have hal := below_new Wq1 (.cells #[.string zx] 9)
                    obtain ⟨vd, hvd⟩ : ∃ vd, Wq1.heap.size = vd := ⟨_, rfl⟩
                    have hd := heap_alloc_new Wq1 (.cells #[.string zx] 9)
                    have hdn : vr9.ownBlock ≠ some vd := fun e => by have := OwnG.lt hr e; omega
                    replace hr := OwnG.below hr hal
                    rw [hvd] at hd ⊢
                    replace hB := bt hB hal
                    refine hK.out _ _ ⟨⟨_, hB⟩, rfl⟩ (fun hC => ?_)
                    generalize World.alloc Wq1 (.cells #[.string zx] 9) = Wq2 at *
                    clear hK K hal hvd
                    refine wpAnyH_ready (rs := [4]) (by kernel_rfl) (by simp) (AllReadyH.cons (at_of_drop (i := 4) rfl) (fun K hK => ?_) AllReadyH.nil)
                    refine stepG u_strs info_strs (by rfl) (by decide) (by decide) encT_one (ns := L.take j) rfl _ _ rfl rfl hr hrf hB rfl (HS3.out _ hB) (by have := HM.out; have := HLL.out; simp <;> omega) ?_
                    intro vr9 Wq3 hr hrf hB hk
                    replace hd := hk _ _ hd hdn
                    clear hk
                    refine hK.out _ _ ⟨⟨_, hB⟩, rfl⟩ (fun hC => ?_)
                    go_simp
                    clear hK K
                    refine wpAnyH_ready (rs := [14]) (by kernel_rfl) (by simp) (AllReadyH.cons (at_of_drop (i := 14) rfl) (fun K hK => ?_) AllReadyH.nil)
                    refine stepG u_strs info_strs (by rfl) (by decide) (by decide) encT_one (ns := [zx.toList]) rfl _ _ rfl rfl hr hrf hB rfl (src_one (x := zx.toList) encT_len (by rw [encT_eq]; exact hd)) (by have := HM.out; have := HLL.out; simp <;> omega) ?_
                    intro vr9 Wq4 hr hrf hB hk
                    clear hk
                    refine hK.out _ _ ⟨⟨_, hB⟩, rfl⟩ (fun hC => ?_)
                    go_simp
                    clear hK K
                    refine wpAnyH_ready (rs := [18]) (by kernel_rfl) (by simp) (AllReadyH.cons (at_of_drop (i := 18) rfl) (fun K hK => ?_) AllReadyH.nil)
                    refine stepG u_strs info_strs (by rfl) (by decide) (by decide) encT_one (ns := L.drop j) rfl _ _ rfl rfl hr hrf hB rfl (HS10.out _ hB) (by have := HM.out; have := HLL.out; simp <;> omega) ?_
                    intro vr9 Wq5 hr hrf hB hk
                    clear hk
                    refine hK.out _ _ ⟨⟨_, hB⟩, rfl⟩ (fun hC => ?_)
                    go_simp
                    clear hK K
                    refine takeList (i := 19) rfl (by kernel_rfl) (by kernel_rfl) (by kernel_rfl) (fun _ _ _ _ h => h) rfl rfl hC (fun K hK => ?_)
                    go_big_quiet_op
                    refine hK _ ?_
                    clear hK K
                    refine wpAnyH_done (by kernel_rfl) ?_ _
                    go_wp2
                    go_roundw
                    case rel => exact ⟨k + 1, by go_num, by omega, by show OwnS _ _ _; rw [HINS.out]; simpa using hr, fun b hb => Nat.le_trans HBW.out.size (hrf b hb), bt HBW.out hB⟩
                    case measure => simp [intOf]; omega
                · rw [if_pos (by rfl)]
                  go_simp
                  have hal := below_new W0 (.cells #[.string zx] 9)
                  obtain ⟨vd, hvd⟩ : ∃ vd, W0.heap.size = vd := ⟨_, rfl⟩
                  have hd := heap_alloc_new W0 (.cells #[.string zx] 9)
                  rw [hvd] at hd ⊢
                  replace hB := bt hB hal
                  refine hK.out _ _ ⟨⟨_, hB⟩, rfl⟩ (fun hC => ?_)
                  generalize World.alloc W0 (.cells #[.string zx] 9) = Wq1 at *
                  clear hK K hal hvd
                  refine wpAnyH_ready (rs := [0]) (by kernel_rfl) (by simp) (AllReadyH.cons (at_of_drop (i := 0) rfl) (fun K hK => ?_) AllReadyH.nil)
                  rw [if_pos (by rfl)]
                  go_simp
                  have hal := below_new Wq1 (.cells #[] 9)
                  have hr := OwnG.empty (enc := encT) Wq1 9 1
                  obtain ⟨vr9, hvr⟩ : ∃ vr9, Value.slice (some ⟨Wq1.heap.size, 0, none⟩) 0 0 = vr9 := ⟨_, rfl⟩
                  have hrf : ∀ b, vr9.ownBlock = some b → wc.heap.size ≤ b := fun b hb => by rw [← hvr] at hb; cases hb; exact hB.size
                  have hdn : vr9.ownBlock ≠ some vd := fun e => by rw [← hvr] at e; cases e; exact absurd (Array.getElem?_eq_some_iff.1 hd).1 (Nat.lt_irrefl _)
                  replace hd := keep_on hal hd
                  rw [hvr] at hr ⊢
                  replace hB := bt hB hal
                  refine hK.out _ _ ⟨⟨_, hB⟩, rfl⟩ (fun hC => ?_)
                  generalize World.alloc Wq1 (.cells #[] 9) = Wq2 at *
                  clear hK K hal hvr
                  refine wpAnyH_ready (rs := [4]) (by kernel_rfl) (by simp) (AllReadyH.cons (at_of_drop (i := 4) rfl) (fun K hK => ?_) AllReadyH.nil)
                  refine stepG u_strs info_strs (by rfl) (by decide) (by decide) encT_one (ns := L.take j) rfl _ _ rfl rfl hr hrf hB rfl (HS3.out _ hB) (by have := HM.out; have := HLL.out; simp <;> omega) ?_
                  intro vr9 Wq3 hr hrf hB hk
                  replace hd := hk _ _ hd hdn
                  clear hk
                  refine hK.out _ _ ⟨⟨_, hB⟩, rfl⟩ (fun hC => ?_)
                  go_simp
                  clear hK K
                  refine wpAnyH_ready (rs := [14]) (by kernel_rfl) (by simp) (AllReadyH.cons (at_of_drop (i := 14) rfl) (fun K hK => ?_) AllReadyH.nil)
                  refine stepG u_strs info_strs (by rfl) (by decide) (by decide) encT_one (ns := [zx.toList]) rfl _ _ rfl rfl hr hrf hB rfl (src_one (x := zx.toList) encT_len (by rw [encT_eq]; exact hd)) (by have := HM.out; have := HLL.out; simp <;> omega) ?_
                  intro vr9 Wq4 hr hrf hB hk
                  clear hk
                  refine hK.out _ _ ⟨⟨_, hB⟩, rfl⟩ (fun hC => ?_)
                  go_simp
                  clear hK K
                  refine wpAnyH_ready (rs := [18]) (by kernel_rfl) (by simp) (AllReadyH.cons (at_of_drop (i := 18) rfl) (fun K hK => ?_) AllReadyH.nil)
                  refine stepG u_strs info_strs (by rfl) (by decide) (by decide) encT_one (ns := L.drop j) rfl _ _ rfl rfl hr hrf hB rfl (HS10.out _ hB) (by have := HM.out; have := HLL.out; simp <;> omega) ?_
                  intro vr9 Wq5 hr hrf hB hk
                  clear hk
                  refine hK.out _ _ ⟨⟨_, hB⟩, rfl⟩ (fun hC => ?_)
                  go_simp
                  clear hK K
                  refine takeList (i := 19) rfl (by kernel_rfl) (by kernel_rfl) (by kernel_rfl) (fun _ _ _ _ h => h) rfl rfl hC (fun K hK => ?_)
                  go_big_quiet_op
                  refine hK _ ?_
                  clear hK K
                  refine wpAnyH_done (by kernel_rfl) ?_ _
                  go_wp2
                  go_roundw
                  case rel => exact ⟨k + 1, by go_num, by omega, by show OwnS _ _ _; rw [HINS.out]; simpa using hr, fun b hb => Nat.le_trans HBW.out.size (hrf b hb), bt HBW.out hB⟩
                  case measure => simp [intOf]; omega
          · have HINS : Hid (C.allF (R.l.take (k + 1)) [] = L ++ [zx.toList]) := by
              have hj : L.length ≤ j := by have := HM.out; omega
              have h1 := C.insT_at zx.toList L j HK.out (fun x hx => by rw [List.getElem?_eq_none hj] at hx; cases hx) (by have := HM.out; omega)
              show _ = _
              rw [HT2.out, h1, if_neg (by rw [List.getElem?_eq_none hj]; intro e; cases e), List.take_of_length_le hj, List.drop_eq_nil_of_le hj]
            rcases HO.out.2 with ⟨hv, h0⟩ | ⟨g1, cap, cur, hv, -, -, hcn, -⟩
            · have hm0 : m = 0 := by cases hv; rfl
              have hq0 : q1 = none := by cases hv; rfl
              have hc0 : c1 = 0 := by cases hv; rfl
              have hL0 : L = [] := List.eq_nil_of_length_eq_zero h0
              have hj0 : j = 0 := by omega
              clear hv h0
              subst hm0 hq0 hc0 hL0 hj0
              have HS3 : Hid (∀ {B : Nat} {A : World} (W : World), Below B A W → SrcAt W 1 (.slice none 0 0) ([] : List (List UInt8)).length (rowG encT [])) := fun W _ => src_zeroT W none 0
              have HS10 : Hid (∀ {B : Nat} {A : World} (W : World), Below B A W → SrcAt W 1 (.slice none 0 0) ([] : List (List UInt8)).length (rowG encT [])) := fun W _ => src_zeroT W none 0
              have hne : Nonempty (NewW wr) := ⟨NewW.start wr⟩
              go_wp2_with fail
              refine wp_region_new (by kernel_rfl) (by kernel_rfl) ?_
              repeat (go_big_quiet_step (fail))
              refine wpQuiet_nil ?_
              rintro _ ⟨w2, rfl⟩
              have HB2 : Hid (Below W3.heap.size W3 w2.v) := bt HB5.out w2.h
              obtain ⟨wc, hwc⟩ : ∃ wc, w2.v = wc := ⟨_, rfl⟩
              rw [hwc] at HB2 ⊢
              clear hwc hne w2 HB5
              have HBW : Hid (Below w.heap.size w wc) := bt HB.out HB2.out
              have hne : Nonempty (NewW wc) := ⟨NewW.start wc⟩
              have b0 : ∀ t : NewW wc, t.v.cell? ⟨g, 0, none⟩ = some (.slice (some ⟨gl, 0, none⟩) n cl) := fun t => HA0.out _ (bt HB2.out t.h)
              have b2 : ∀ t : NewW wc, t.v.cell? ⟨gl, k * 4 + 2, none⟩ = some (.string zx) := fun t => HA2.out _ (bt HB2.out t.h)
              go_wp2_with fail
              refine wp_region_new (by kernel_rfl) (by kernel_rfl) ?_
              repeat (go_big_quiet_step (fail))
              refine wpQuiet_nil ?_
              rintro _ ⟨w3, rfl⟩
              go_wp2_with fail
              have hC : ∃ m : NewW wc, w3.v.drew = m.v := ⟨⟨w3.v.drew, w3.h.drew⟩, rfl⟩
              refine wp_region_held_drew (S := fun w' => ∃ m : NewW wc, w' = m.v) (by kernel_rfl) hC (fun _ => ?_)
              have hB : Below wc.heap.size wc w3.v.drew := w3.h.drew
              generalize hW0 : w3.v.drew = W0 at *
              clear hW0 w3
              refine takeList (i := 1) rfl (by kernel_rfl) (by kernel_rfl) (by kernel_rfl) (fun _ _ _ _ h => h) rfl rfl hC (fun K hK => ?_)
              go_big_quiet_op
              refine hK _ ?_
              clear hK K
              refine takeList (i := 2) rfl (by kernel_rfl) (by kernel_rfl) (by kernel_rfl) (fun _ _ _ _ h => h) rfl rfl hC (fun K hK => ?_)
              go_big_quiet_op
              refine hK _ ?_
              clear hK K
              refine takeVal (i := 3) (.slice none 0 0) rfl (by kernel_rfl) (by kernel_rfl) (by kernel_rfl) (fun _ _ _ _ h => h) rfl hC (fun w' _ => by go_simp; try (intro h; omega)) ?_
              go_simp
              refine takeList (i := 5) rfl (by kernel_rfl) (by kernel_rfl) (by kernel_rfl) (fun _ _ _ _ h => h) rfl rfl hC (fun K hK => ?_)
              go_big_quiet_op
              refine hK _ ?_
              clear hK K
              refine takeNil (i := 6) rfl rfl rfl (by kernel_rfl) (by kernel_rfl) (by kernel_rfl) (fun _ _ _ _ h => h) rfl hC ?_
              go_simp
              refine takeList (i := 7) rfl (by kernel_rfl) (by kernel_rfl) (by kernel_rfl) (fun _ _ _ _ h => h) rfl rfl hC (fun K hK => ?_)
              go_big_quiet_op
              refine hK _ ?_
              clear hK K
              refine takeList (i := 8) rfl (by kernel_rfl) (by kernel_rfl) (by kernel_rfl) (fun _ _ _ _ h => h) rfl rfl hC (fun K hK => ?_)
              go_big_quiet_op
              refine hK _ ?_
              clear hK K
              refine takeList (i := 9) rfl (by kernel_rfl) (by kernel_rfl) (by kernel_rfl) (fun _ _ _ _ h => h) rfl rfl hC (fun K hK => ?_)
              go_big_quiet_op
              refine hK _ ?_
              clear hK K
              refine takeList (i := 10) rfl (by kernel_rfl) (by kernel_rfl) (by kernel_rfl) (fun _ _ _ _ h => h) rfl rfl hC (fun K hK => ?_)
              go_big_quiet_op
              refine hK _ ?_
              clear hK K
              refine takeList (i := 11) rfl (by kernel_rfl) (by kernel_rfl) (by kernel_rfl) (fun _ _ _ _ h => h) rfl rfl hC (fun K hK => ?_)
              go_big_quiet_op
              refine hK _ ?_
              clear hK K
              refine takeList (i := 12) rfl (by kernel_rfl) (by kernel_rfl) (by kernel_rfl) (fun _ _ _ _ h => h) rfl rfl hC (fun K hK => ?_)
              go_big_quiet_op
              refine hK _ ?_
              clear hK K
              refine takeList (i := 15) rfl (by kernel_rfl) (by kernel_rfl) (by kernel_rfl) (fun _ _ _ _ h => h) rfl rfl hC (fun K hK => ?_)
              go_big_quiet_op
              refine hK _ ?_
              clear hK K
              refine takeList (i := 16) rfl (by kernel_rfl) (by kernel_rfl) (by kernel_rfl) (fun _ _ _ _ h => h) rfl rfl hC (fun K hK => ?_)
              go_big_quiet_op
              refine hK _ ?_
              clear hK K
              refine takeVal (i := 17) (.slice none 0 0) rfl (by kernel_rfl) (by kernel_rfl) (by kernel_rfl) (fun _ _ _ _ h => h) rfl hC (fun w' _ => by go_simp; try (intro h; omega)) ?_
              go_simp
              clear b0 b2 hne
              refine wpAnyH_ready (rs := [0, 13]) (by kernel_rfl) (by simp) (AllReadyH.cons (at_of_drop (i := 0) rfl) (fun K hK => ?_) (AllReadyH.cons (at_of_drop (i := 13) rfl) (fun K hK => ?_) AllReadyH.nil))
              · rw [if_pos (by rfl)]
                go_simp
                have hal := below_new W0 (.cells #[] 9)
                have hr := OwnG.empty (enc := encT) W0 9 1
                obtain ⟨vr9, hvr⟩ : ∃ vr9, Value.slice (some ⟨W0.heap.size, 0, none⟩) 0 0 = vr9 := ⟨_, rfl⟩
                have hrf : ∀ b, vr9.ownBlock = some b → wc.heap.size ≤ b := fun b hb => by rw [← hvr] at hb; cases hb; exact hB.size
                rw [hvr] at hr ⊢
                replace hB := bt hB hal
                refine hK.out _ _ ⟨⟨_, hB⟩, rfl⟩ (fun hC => ?_)
                generalize World.alloc W0 (.cells #[] 9) = Wq1 at *
                clear hK K hal hvr
                refine wpAnyH_ready (rs := [4, 13]) (by kernel_rfl) (by simp) (AllReadyH.cons (at_of_drop (i := 4) rfl) (fun K hK => ?_) (AllReadyH.cons (at_of_drop (i := 13) rfl) (fun K hK => ?_) AllReadyH.nil))
                · refine stepG u_strs info_strs (by rfl) (by decide) (by decide) encT_one (ns := []) rfl _ _ rfl rfl hr hrf hB rfl (HS3.out _ hB) (by have := HM.out; have := HLL.out; simp <;> omega) ?_
                  intro vr9 Wq2 hr hrf hB hk
                  clear hk
                  refine hK.out _ _ ⟨⟨_, hB⟩, rfl⟩ (fun hC => ?_)
                  go_simp
                  clear hK K
                  refine wpAnyH_ready (rs := [13]) (by kernel_rfl) (by simp) (AllReadyH.cons (at_of_drop (i := 13) rfl) (fun K hK => ?_) AllReadyH.nil)
                  rw [if_pos (by rfl)]
                  go_simp
                  have hal := below_new Wq2 (.cells #[.string zx] 9)
                  obtain ⟨vd, hvd⟩ : ∃ vd, Wq2.heap.size = vd := ⟨_, rfl⟩
                  have hd := heap_alloc_new Wq2 (.cells #[.string zx] 9)
                  have hdn : vr9.ownBlock ≠ some vd := fun e => by have := OwnG.lt hr e; omega
                  replace hr := OwnG.below hr hal
                  rw [hvd] at hd ⊢
                  replace hB := bt hB hal
                  refine hK.out _ _ ⟨⟨_, hB⟩, rfl⟩ (fun hC => ?_)
                  generalize World.alloc Wq2 (.cells #[.string zx] 9) = Wq3 at *
                  clear hK K hal hvd
                  refine wpAnyH_ready (rs := [14]) (by kernel_rfl) (by simp) (AllReadyH.cons (at_of_drop (i := 14) rfl) (fun K hK => ?_) AllReadyH.nil)
                  refine stepG u_strs info_strs (by rfl) (by decide) (by decide) encT_one (ns := [zx.toList]) rfl _ _ rfl rfl hr hrf hB rfl (src_one (x := zx.toList) encT_len (by rw [encT_eq]; exact hd)) (by have := HM.out; have := HLL.out; simp <;> omega) ?_
                  intro vr9 Wq4 hr hrf hB hk
                  clear hk
                  refine hK.out _ _ ⟨⟨_, hB⟩, rfl⟩ (fun hC => ?_)
                  go_simp
                  clear hK K
                  refine wpAnyH_ready (rs := [18]) (by kernel_rfl) (by simp) (AllReadyH.cons (at_of_drop (i := 18) rfl) (fun K hK => ?_) AllReadyH.nil)
                  refine stepG u_strs info_strs (by rfl) (by decide) (by decide) encT_one (ns := []) rfl _ _ rfl rfl hr hrf hB rfl (HS10.out _ hB) (by have := HM.out; have := HLL.out; simp <;> omega) ?_
                  intro vr9 Wq5 hr hrf hB hk
                  clear hk
                  refine hK.out _ _ ⟨⟨_, hB⟩, rfl⟩ (fun hC => ?_)
                  go_simp
                  clear hK K
                  refine takeList (i := 19) rfl (by kernel_rfl) (by kernel_rfl) (by kernel_rfl) (fun _ _ _ _ h => h) rfl rfl hC (fun K hK => ?_)
                  go_big_quiet_op
                  refine hK _ ?_
                  clear hK K
                  refine wpAnyH_done (by kernel_rfl) ?_ _
                  go_wp2
                  go_roundw
                  case rel => exact ⟨k + 1, by go_num, by omega, by show OwnS _ _ _; rw [HINS.out]; simpa using hr, fun b hb => Nat.le_trans HBW.out.size (hrf b hb), bt HBW.out hB⟩
                  case measure => simp [intOf]; omega
                · rw [if_pos (by rfl)]
                  go_simp
                  have hal := below_new Wq1 (.cells #[.string zx] 9)
                  obtain ⟨vd, hvd⟩ : ∃ vd, Wq1.heap.size = vd := ⟨_, rfl⟩
                  have hd := heap_alloc_new Wq1 (.cells #[.string zx] 9)
                  have hdn : vr9.ownBlock ≠ some vd := fun e => by have := OwnG.lt hr e; omega
                  replace hr := OwnG.below hr hal
                  rw [hvd] at hd ⊢
                  replace hB := bt hB hal
                  refine hK.out _ _ ⟨⟨_, hB⟩, rfl⟩ (fun hC => ?_)
                  generalize World.alloc Wq1 (.cells #[.string zx] 9) = Wq2 at *
                  clear hK K hal hvd
                  refine wpAnyH_ready (rs := [4]) (by kernel_rfl) (by simp) (AllReadyH.cons (at_of_drop (i := 4) rfl) (fun K hK => ?_) AllReadyH.nil)
                  refine stepG u_strs info_strs (by rfl) (by decide) (by decide) encT_one (ns := []) rfl _ _ rfl rfl hr hrf hB rfl (HS3.out _ hB) (by have := HM.out; have := HLL.out; simp <;> omega) ?_
                  intro vr9 Wq3 hr hrf hB hk
                  replace hd := hk _ _ hd hdn
                  clear hk
                  refine hK.out _ _ ⟨⟨_, hB⟩, rfl⟩ (fun hC => ?_)
                  go_simp
                  clear hK K
                  refine wpAnyH_ready (rs := [14]) (by kernel_rfl) (by simp) (AllReadyH.cons (at_of_drop (i := 14) rfl) (fun K hK => ?_) AllReadyH.nil)
                  refine stepG u_strs info_strs (by rfl) (by decide) (by decide) encT_one (ns := [zx.toList]) rfl _ _ rfl rfl hr hrf hB rfl (src_one (x := zx.toList) encT_len (by rw [encT_eq]; exact hd)) (by have := HM.out; have := HLL.out; simp <;> omega) ?_
                  intro vr9 Wq4 hr hrf hB hk
                  clear hk
                  refine hK.out _ _ ⟨⟨_, hB⟩, rfl⟩ (fun hC => ?_)
                  go_simp
                  clear hK K
                  refine wpAnyH_ready (rs := [18]) (by kernel_rfl) (by simp) (AllReadyH.cons (at_of_drop (i := 18) rfl) (fun K hK => ?_) AllReadyH.nil)
                  refine stepG u_strs info_strs (by rfl) (by decide) (by decide) encT_one (ns := []) rfl _ _ rfl rfl hr hrf hB rfl (HS10.out _ hB) (by have := HM.out; have := HLL.out; simp <;> omega) ?_
                  intro vr9 Wq5 hr hrf hB hk
                  clear hk
                  refine hK.out _ _ ⟨⟨_, hB⟩, rfl⟩ (fun hC => ?_)
                  go_simp
                  clear hK K
                  refine takeList (i := 19) rfl (by kernel_rfl) (by kernel_rfl) (by kernel_rfl) (fun _ _ _ _ h => h) rfl rfl hC (fun K hK => ?_)
                  go_big_quiet_op
                  refine hK _ ?_
                  clear hK K
                  refine wpAnyH_done (by kernel_rfl) ?_ _
                  go_wp2
                  go_roundw
                  case rel => exact ⟨k + 1, by go_num, by omega, by show OwnS _ _ _; rw [HINS.out]; simpa using hr, fun b hb => Nat.le_trans HBW.out.size (hrf b hb), bt HBW.out hB⟩
                  case measure => simp [intOf]; omega
              · rw [if_pos (by rfl)]
                go_simp
                have hal := below_new W0 (.cells #[.string zx] 9)
                obtain ⟨vd, hvd⟩ : ∃ vd, W0.heap.size = vd := ⟨_, rfl⟩
                have hd := heap_alloc_new W0 (.cells #[.string zx] 9)
                rw [hvd] at hd ⊢
                replace hB := bt hB hal
                refine hK.out _ _ ⟨⟨_, hB⟩, rfl⟩ (fun hC => ?_)
                generalize World.alloc W0 (.cells #[.string zx] 9) = Wq1 at *
                clear hK K hal hvd
                refine wpAnyH_ready (rs := [0]) (by kernel_rfl) (by simp) (AllReadyH.cons (at_of_drop (i := 0) rfl) (fun K hK => ?_) AllReadyH.nil)
                rw [if_pos (by rfl)]
                go_simp
                have hal := below_new Wq1 (.cells #[] 9)
                have hr := OwnG.empty (enc := encT) Wq1 9 1
                obtain ⟨vr9, hvr⟩ : ∃ vr9, Value.slice (some ⟨Wq1.heap.size, 0, none⟩) 0 0 = vr9 := ⟨_, rfl⟩
                have hrf : ∀ b, vr9.ownBlock = some b → wc.heap.size ≤ b := fun b hb => by rw [← hvr] at hb; cases hb; exact hB.size
                have hdn : vr9.ownBlock ≠ some vd := fun e => by rw [← hvr] at e; cases e; exact absurd (Array.getElem?_eq_some_iff.1 hd).1 (Nat.lt_irrefl _)
                replace hd := keep_on hal hd
                rw [hvr] at hr ⊢
                replace hB := bt hB hal
                refine hK.out _ _ ⟨⟨_, hB⟩, rfl⟩ (fun hC => ?_)
                generalize World.alloc Wq1 (.cells #[] 9) = Wq2 at *
                clear hK K hal hvr
                refine wpAnyH_ready (rs := [4]) (by kernel_rfl) (by simp) (AllReadyH.cons (at_of_drop (i := 4) rfl) (fun K hK => ?_) AllReadyH.nil)
                refine stepG u_strs info_strs (by rfl) (by decide) (by decide) encT_one (ns := []) rfl _ _ rfl rfl hr hrf hB rfl (HS3.out _ hB) (by have := HM.out; have := HLL.out; simp <;> omega) ?_
                intro vr9 Wq3 hr hrf hB hk
                replace hd := hk _ _ hd hdn
                clear hk
                refine hK.out _ _ ⟨⟨_, hB⟩, rfl⟩ (fun hC => ?_)
                go_simp
                clear hK K
                refine wpAnyH_ready (rs := [14]) (by kernel_rfl) (by simp) (AllReadyH.cons (at_of_drop (i := 14) rfl) (fun K hK => ?_) AllReadyH.nil)
                refine stepG u_strs info_strs (by rfl) (by decide) (by decide) encT_one (ns := [zx.toList]) rfl _ _ rfl rfl hr hrf hB rfl (src_one (x := zx.toList) encT_len (by rw [encT_eq]; exact hd)) (by have := HM.out; have := HLL.out; simp <;> omega) ?_
                intro vr9 Wq4 hr hrf hB hk
                clear hk
                refine hK.out _ _ ⟨⟨_, hB⟩, rfl⟩ (fun hC => ?_)
                go_simp
                clear hK K
                refine wpAnyH_ready (rs := [18]) (by kernel_rfl) (by simp) (AllReadyH.cons (at_of_drop (i := 18) rfl) (fun K hK => ?_) AllReadyH.nil)
                refine stepG u_strs info_strs (by rfl) (by decide) (by decide) encT_one (ns := []) rfl _ _ rfl rfl hr hrf hB rfl (HS10.out _ hB) (by have := HM.out; have := HLL.out; simp <;> omega) ?_
                intro vr9 Wq5 hr hrf hB hk
                clear hk
                refine hK.out _ _ ⟨⟨_, hB⟩, rfl⟩ (fun hC => ?_)
                go_simp
                clear hK K
                refine takeList (i := 19) rfl (by kernel_rfl) (by kernel_rfl) (by kernel_rfl) (fun _ _ _ _ h => h) rfl rfl hC (fun K hK => ?_)
                go_big_quiet_op
                refine hK _ ?_
                clear hK K
                refine wpAnyH_done (by kernel_rfl) ?_ _
                go_wp2
                go_roundw
                case rel => exact ⟨k + 1, by go_num, by omega, by show OwnS _ _ _; rw [HINS.out]; simpa using hr, fun b hb => Nat.le_trans HBW.out.size (hrf b hb), bt HBW.out hB⟩
                case measure => simp [intOf]; omega
            · have hq0 : q1 = some ⟨g1, 0, none⟩ := by cases hv; rfl
              have hcap : m ≤ c1 := by have := cap_ofS HO.out; have := HM.out; omega
              clear hv hcn
              subst hq0
              obtain rfl : j = m := by omega
              by_cases hck : c1 = j
              · subst hck
                have hne : Nonempty (NewW wr) := ⟨NewW.start wr⟩
                go_wp2_with fail
                refine wp_region_new (by kernel_rfl) (by kernel_rfl) ?_
                repeat (go_big_quiet_step (fail))
                refine wpQuiet_nil ?_
                rintro _ ⟨w2, rfl⟩
                have HB2 : Hid (Below W3.heap.size W3 w2.v) := bt HB5.out w2.h
                obtain ⟨wc, hwc⟩ : ∃ wc, w2.v = wc := ⟨_, rfl⟩
                rw [hwc] at HB2 ⊢
                clear hwc hne w2 HB5
                have HBW : Hid (Below w.heap.size w wc) := bt HB.out HB2.out
                have hne : Nonempty (NewW wc) := ⟨NewW.start wc⟩
                have b0 : ∀ t : NewW wc, t.v.cell? ⟨g, 0, none⟩ = some (.slice (some ⟨gl, 0, none⟩) n cl) := fun t => HA0.out _ (bt HB2.out t.h)
                have b2 : ∀ t : NewW wc, t.v.cell? ⟨gl, k * 4 + 2, none⟩ = some (.string zx) := fun t => HA2.out _ (bt HB2.out t.h)
                go_wp2_with fail
                refine wp_region_new (by kernel_rfl) (by kernel_rfl) ?_
                repeat (go_big_quiet_step (fail))
                refine wpQuiet_nil ?_
                rintro _ ⟨w3, rfl⟩
                go_wp2_with fail
                have HS3 : Hid (∀ W, Below wc.heap.size wc W → SrcAt W 1 (.slice (some ⟨g1, 0, none⟩) c1 c1) L.length (rowG encT L)) := fun W hW => OwnG.src (HO.out.below (bt HB2.out hW))
                have HS10 : Hid (∀ W, Below wc.heap.size wc W → SrcAt W 1 (.slice (some ⟨g1, 0, none⟩) 0 0) ([] : List (List UInt8)).length (rowG encT [])) := fun W _ => src_zeroT W _ _
                have hC : ∃ m : NewW wc, w3.v.drew = m.v := ⟨⟨w3.v.drew, w3.h.drew⟩, rfl⟩
                refine wp_region_held_drew (S := fun w' => ∃ m : NewW wc, w' = m.v) (by kernel_rfl) hC (fun _ => ?_)
                have hB : Below wc.heap.size wc w3.v.drew := w3.h.drew
                generalize hW0 : w3.v.drew = W0 at *
                clear hW0 w3
                refine takeList (i := 1) rfl (by kernel_rfl) (by kernel_rfl) (by kernel_rfl) (fun _ _ _ _ h => h) rfl rfl hC (fun K hK => ?_)
                go_big_quiet_op
                refine hK _ ?_
                clear hK K
                refine takeList (i := 2) rfl (by kernel_rfl) (by kernel_rfl) (by kernel_rfl) (fun _ _ _ _ h => h) rfl rfl hC (fun K hK => ?_)
                go_big_quiet_op
                refine hK _ ?_
                clear hK K
                refine takeVal (i := 3) (.slice (some ⟨g1, 0, none⟩) c1 c1) rfl (by kernel_rfl) (by kernel_rfl) (by kernel_rfl) (fun _ _ _ _ h => h) rfl hC (fun w' _ => by go_simp; try (intro h; omega)) ?_
                go_simp
                refine takeList (i := 5) rfl (by kernel_rfl) (by kernel_rfl) (by kernel_rfl) (fun _ _ _ _ h => h) rfl rfl hC (fun K hK => ?_)
                go_big_quiet_op
                refine hK _ ?_
                clear hK K
                refine takeNil (i := 6) rfl rfl rfl (by kernel_rfl) (by kernel_rfl) (by kernel_rfl) (fun _ _ _ _ h => h) rfl hC ?_
                go_simp
                refine takeList (i := 7) rfl (by kernel_rfl) (by kernel_rfl) (by kernel_rfl) (fun _ _ _ _ h => h) rfl rfl hC (fun K hK => ?_)
                go_big_quiet_op
                refine hK _ ?_
                clear hK K
                refine takeList (i := 8) rfl (by kernel_rfl) (by kernel_rfl) (by kernel_rfl) (fun _ _ _ _ h => h) rfl rfl hC (fun K hK => ?_)
                go_big_quiet_op
                refine hK _ ?_
                clear hK K
                refine takeList (i := 9) rfl (by kernel_rfl) (by kernel_rfl) (by kernel_rfl) (fun _ _ _ _ h => h) rfl rfl hC (fun K hK => ?_)
                go_big_quiet_op
                refine hK _ ?_
                clear hK K
                refine takeList (i := 10) rfl (by kernel_rfl) (by kernel_rfl) (by kernel_rfl) (fun _ _ _ _ h => h) rfl rfl hC (fun K hK => ?_)
                go_big_quiet_op
                refine hK _ ?_
                clear hK K
                refine takeList (i := 11) rfl (by kernel_rfl) (by kernel_rfl) (by kernel_rfl) (fun _ _ _ _ h => h) rfl rfl hC (fun K hK => ?_)
                go_big_quiet_op
                refine hK _ ?_
                clear hK K
                refine takeList (i := 12) rfl (by kernel_rfl) (by kernel_rfl) (by kernel_rfl) (fun _ _ _ _ h => h) rfl rfl hC (fun K hK => ?_)
                go_big_quiet_op
                refine hK _ ?_
                clear hK K
                refine takeList (i := 15) rfl (by kernel_rfl) (by kernel_rfl) (by kernel_rfl) (fun _ _ _ _ h => h) rfl rfl hC (fun K hK => ?_)
                go_big_quiet_op
                refine hK _ ?_
                clear hK K
                refine takeList (i := 16) rfl (by kernel_rfl) (by kernel_rfl) (by kernel_rfl) (fun _ _ _ _ h => h) rfl rfl hC (fun K hK => ?_)
                go_big_quiet_op
                refine hK _ ?_
                clear hK K
                refine takeVal (i := 17) (.slice (some ⟨g1, 0, none⟩) 0 0) rfl (by kernel_rfl) (by kernel_rfl) (by kernel_rfl) (fun _ _ _ _ h => h) rfl hC (fun w' _ => by go_simp; try (intro h; omega)) ?_
                go_simp
                clear b0 b2 hne
                refine wpAnyH_ready (rs := [0, 13]) (by kernel_rfl) (by simp) (AllReadyH.cons (at_of_drop (i := 0) rfl) (fun K hK => ?_) (AllReadyH.cons (at_of_drop (i := 13) rfl) (fun K hK => ?_) AllReadyH.nil))
                · rw [if_pos (by rfl)]
                  go_simp
                  have hal := below_new W0 (.cells #[] 9)
                  have hr := OwnG.empty (enc := encT) W0 9 1
                  obtain ⟨vr9, hvr⟩ : ∃ vr9, Value.slice (some ⟨W0.heap.size, 0, none⟩) 0 0 = vr9 := ⟨_, rfl⟩
                  have hrf : ∀ b, vr9.ownBlock = some b → wc.heap.size ≤ b := fun b hb => by rw [← hvr] at hb; cases hb; exact hB.size
                  rw [hvr] at hr ⊢
                  replace hB := bt hB hal
                  refine hK.out _ _ ⟨⟨_, hB⟩, rfl⟩ (fun hC => ?_)
                  generalize World.alloc W0 (.cells #[] 9) = Wq1 at *
                  clear hK K hal hvr
                  refine wpAnyH_ready (rs := [4, 13]) (by kernel_rfl) (by simp) (AllReadyH.cons (at_of_drop (i := 4) rfl) (fun K hK => ?_) (AllReadyH.cons (at_of_drop (i := 13) rfl) (fun K hK => ?_) AllReadyH.nil))
                  · refine stepG u_strs info_strs (by rfl) (by decide) (by decide) encT_one (ns := L) rfl _ _ rfl rfl hr hrf hB rfl (HS3.out _ hB) (by have := HM.out; have := HLL.out; simp <;> omega) ?_
                    intro vr9 Wq2 hr hrf hB hk
                    clear hk
                    refine hK.out _ _ ⟨⟨_, hB⟩, rfl⟩ (fun hC => ?_)
                    go_simp
                    clear hK K
                    refine wpAnyH_ready (rs := [13]) (by kernel_rfl) (by simp) (AllReadyH.cons (at_of_drop (i := 13) rfl) (fun K hK => ?_) AllReadyH.nil)
                    rw [if_pos (by rfl)]
                    go_simp
                    have hal := below_new Wq2 (.cells #[.string zx] 9)
                    obtain ⟨vd, hvd⟩ : ∃ vd, Wq2.heap.size = vd := ⟨_, rfl⟩
                    have hd := heap_alloc_new Wq2 (.cells #[.string zx] 9)
                    have hdn : vr9.ownBlock ≠ some vd := fun e => by have := OwnG.lt hr e; omega
                    replace hr := OwnG.below hr hal
                    rw [hvd] at hd ⊢
                    replace hB := bt hB hal
                    refine hK.out _ _ ⟨⟨_, hB⟩, rfl⟩ (fun hC => ?_)
                    generalize World.alloc Wq2 (.cells #[.string zx] 9) = Wq3 at *
                    clear hK K hal hvd
                    refine wpAnyH_ready (rs := [14]) (by kernel_rfl) (by simp) (AllReadyH.cons (at_of_drop (i := 14) rfl) (fun K hK => ?_) AllReadyH.nil)
                    refine stepG u_strs info_strs (by rfl) (by decide) (by decide) encT_one (ns := [zx.toList]) rfl _ _ rfl rfl hr hrf hB rfl (src_one (x := zx.toList) encT_len (by rw [encT_eq]; exact hd)) (by have := HM.out; have := HLL.out; simp <;> omega) ?_
                    intro vr9 Wq4 hr hrf hB hk
                    clear hk
                    refine hK.out _ _ ⟨⟨_, hB⟩, rfl⟩ (fun hC => ?_)
                    go_simp
                    clear hK K
                    refine wpAnyH_ready (rs := [18]) (by kernel_rfl) (by simp) (AllReadyH.cons (at_of_drop (i := 18) rfl) (fun K hK => ?_) AllReadyH.nil)
                    refine stepG u_strs info_strs (by rfl) (by decide) (by decide) encT_one (ns := []) rfl _ _ rfl rfl hr hrf hB rfl (HS10.out _ hB) (by have := HM.out; have := HLL.out; simp <;> omega) ?_
                    intro vr9 Wq5 hr hrf hB hk
                    clear hk
                    refine hK.out _ _ ⟨⟨_, hB⟩, rfl⟩ (fun hC => ?_)
                    go_simp
                    clear hK K
                    refine takeList (i := 19) rfl (by kernel_rfl) (by kernel_rfl) (by kernel_rfl) (fun _ _ _ _ h => h) rfl rfl hC (fun K hK => ?_)
                    go_big_quiet_op
                    refine hK _ ?_
                    clear hK K
                    refine wpAnyH_done (by kernel_rfl) ?_ _
                    go_wp2
                    go_roundw
                    case rel => exact ⟨k + 1, by go_num, by omega, by show OwnS _ _ _; rw [HINS.out]; simpa using hr, fun b hb => Nat.le_trans HBW.out.size (hrf b hb), bt HBW.out hB⟩
                    case measure => simp [intOf]; omega
                  · rw [if_pos (by rfl)]
                    go_simp
                    have hal := below_new Wq1 (.cells #[.string zx] 9)
                    obtain ⟨vd, hvd⟩ : ∃ vd, Wq1.heap.size = vd := ⟨_, rfl⟩
                    have hd := heap_alloc_new Wq1 (.cells #[.string zx] 9)
                    have hdn : vr9.ownBlock ≠ some vd := fun e => by have := OwnG.lt hr e; omega
                    replace hr := OwnG.below hr hal
                    rw [hvd] at hd ⊢
                    replace hB := bt hB hal
                    refine hK.out _ _ ⟨⟨_, hB⟩, rfl⟩ (fun hC => ?_)
                    generalize World.alloc Wq1 (.cells #[.string zx] 9) = Wq2 at *
                    clear hK K hal hvd
                    refine wpAnyH_ready (rs := [4]) (by kernel_rfl) (by simp) (AllReadyH.cons (at_of_drop (i := 4) rfl) (fun K hK => ?_) AllReadyH.nil)
                    refine stepG u_strs info_strs (by rfl) (by decide) (by decide) encT_one (ns := L) rfl _ _ rfl rfl hr hrf hB rfl (HS3.out _ hB) (by have := HM.out; have := HLL.out; simp <;> omega) ?_
                    intro vr9 Wq3 hr hrf hB hk
                    replace hd := hk _ _ hd hdn
                    clear hk
                    refine hK.out _ _ ⟨⟨_, hB⟩, rfl⟩ (fun hC => ?_)
                    go_simp
                    clear hK K
                    refine wpAnyH_ready (rs := [14]) (by kernel_rfl) (by simp) (AllReadyH.cons (at_of_drop (i := 14) rfl) (fun K hK => ?_) AllReadyH.nil)
                    refine stepG u_strs info_strs (by rfl) (by decide) (by decide) encT_one (ns := [zx.toList]) rfl _ _ rfl rfl hr hrf hB rfl (src_one (x := zx.toList) encT_len (by rw [encT_eq]; exact hd)) (by have := HM.out; have := HLL.out; simp <;> omega) ?_
                    intro vr9 Wq4 hr hrf hB hk
                    clear hk
                    refine hK.out _ _ ⟨⟨_, hB⟩, rfl⟩ (fun hC => ?_)
                    go_simp
                    clear hK K
                    refine wpAnyH_ready (rs := [18]) (by kernel_rfl) (by simp) (AllReadyH.cons (at_of_drop (i := 18) rfl) (fun K hK => ?_) AllReadyH.nil)
                    refine stepG u_strs info_strs (by rfl) (by decide) (by decide) encT_one (ns := []) rfl _ _ rfl rfl hr hrf hB rfl (HS10.out _ hB) (by have := HM.out; have := HLL.out; simp <;> omega) ?_
                    intro vr9 Wq5 hr hrf hB hk
                    clear hk
                    refine hK.out _ _ ⟨⟨_, hB⟩, rfl⟩ (fun hC => ?_)
                    go_simp
                    clear hK K
                    refine takeList (i := 19) rfl (by kernel_rfl) (by kernel_rfl) (by kernel_rfl) (fun _ _ _ _ h => h) rfl rfl hC (fun K hK => ?_)
                    go_big_quiet_op
                    refine hK _ ?_
                    clear hK K
                    refine wpAnyH_done (by kernel_rfl) ?_ _
                    go_wp2
                    go_roundw
                    case rel => exact ⟨k + 1, by go_num, by omega, by show OwnS _ _ _; rw [HINS.out]; simpa using hr, fun b hb => Nat.le_trans HBW.out.size (hrf b hb), bt HBW.out hB⟩
                    case measure => simp [intOf]; omega
                · rw [if_pos (by rfl)]
                  go_simp
                  have hal := below_new W0 (.cells #[.string zx] 9)
                  obtain ⟨vd, hvd⟩ : ∃ vd, W0.heap.size = vd := ⟨_, rfl⟩
                  have hd := heap_alloc_new W0 (.cells #[.string zx] 9)
                  rw [hvd] at hd ⊢
                  replace hB := bt hB hal
                  refine hK.out _ _ ⟨⟨_, hB⟩, rfl⟩ (fun hC => ?_)
                  generalize World.alloc W0 (.cells #[.string zx] 9) = Wq1 at *
                  clear hK K hal hvd
                  refine wpAnyH_ready (rs := [0]) (by kernel_rfl) (by simp) (AllReadyH.cons (at_of_drop (i := 0) rfl) (fun K hK => ?_) AllReadyH.nil)
                  rw [if_pos (by rfl)]
                  go_simp
                  have hal := below_new Wq1 (.cells #[] 9)
                  have hr := OwnG.empty (enc := encT) Wq1 9 1
                  obtain ⟨vr9, hvr⟩ : ∃ vr9, Value.slice (some ⟨Wq1.heap.size, 0, none⟩) 0 0 = vr9 := ⟨_, rfl⟩
                  have hrf : ∀ b, vr9.ownBlock = some b → wc.heap.size ≤ b := fun b hb => by rw [← hvr] at hb; cases hb; exact hB.size
                  have hdn : vr9.ownBlock ≠ some vd := fun e => by rw [← hvr] at e; cases e; exact absurd (Array.getElem?_eq_some_iff.1 hd).1 (Nat.lt_irrefl _)
                  replace hd := keep_on hal hd
                  rw [hvr] at hr ⊢
                  replace hB := bt hB hal
                  refine hK.out _ _ ⟨⟨_, hB⟩, rfl⟩ (fun hC => ?_)
                  generalize World.alloc Wq1 (.cells #[] 9) = Wq2 at *
                  clear hK K hal hvr
                  refine wpAnyH_ready (rs := [4]) (by kernel_rfl) (by simp) (AllReadyH.cons (at_of_drop (i := 4) rfl) (fun K hK => ?_) AllReadyH.nil)
                  refine stepG u_strs info_strs (by rfl) (by decide) (by decide) encT_one (ns := L) rfl _ _ rfl rfl hr hrf hB rfl (HS3.out _ hB) (by have := HM.out; have := HLL.out; simp <;> omega) ?_
                  intro vr9 Wq3 hr hrf hB hk
                  replace hd := hk _ _ hd hdn
                  clear hk
                  refine hK.out _ _ ⟨⟨_, hB⟩, rfl⟩ (fun hC => ?_)
                  go_simp
                  clear hK K
                  refine wpAnyH_ready (rs := [14]) (by kernel_rfl) (by simp) (AllReadyH.cons (at_of_drop (i := 14) rfl) (fun K hK => ?_) AllReadyH.nil)
                  refine stepG u_strs info_strs (by rfl) (by decide) (by decide) encT_one (ns := [zx.toList]) rfl _ _ rfl rfl hr hrf hB rfl (src_one (x := zx.toList) encT_len (by rw [encT_eq]; exact hd)) (by have := HM.out; have := HLL.out; simp <;> omega) ?_
                  intro vr9 Wq4 hr hrf hB hk
                  clear hk
                  refine hK.out _ _ ⟨⟨_, hB⟩, rfl⟩ (fun hC => ?_)
                  go_simp
                  clear hK K
                  refine wpAnyH_ready (rs := [18]) (by kernel_rfl) (by simp) (AllReadyH.cons (at_of_drop (i := 18) rfl) (fun K hK => ?_) AllReadyH.nil)
                  refine stepG u_strs info_strs (by rfl) (by decide) (by decide) encT_one (ns := []) rfl _ _ rfl rfl hr hrf hB rfl (HS10.out _ hB) (by have := HM.out; have := HLL.out; simp <;> omega) ?_
                  intro vr9 Wq5 hr hrf hB hk
                  clear hk
                  refine hK.out _ _ ⟨⟨_, hB⟩, rfl⟩ (fun hC => ?_)
                  go_simp
                  clear hK K
                  refine takeList (i := 19) rfl (by kernel_rfl) (by kernel_rfl) (by kernel_rfl) (fun _ _ _ _ h => h) rfl rfl hC (fun K hK => ?_)
                  go_big_quiet_op
                  refine hK _ ?_
                  clear hK K
                  refine wpAnyH_done (by kernel_rfl) ?_ _
                  go_wp2
                  go_roundw
                  case rel => exact ⟨k + 1, by go_num, by omega, by show OwnS _ _ _; rw [HINS.out]; simpa using hr, fun b hb => Nat.le_trans HBW.out.size (hrf b hb), bt HBW.out hB⟩
                  case measure => simp [intOf]; omega
              · skip
                have hne : Nonempty (NewW wr) := ⟨NewW.start wr⟩
                go_wp2_with fail
                refine wp_region_new (by kernel_rfl) (by kernel_rfl) ?_
                repeat (go_big_quiet_step (fail))
                refine wpQuiet_nil ?_
                rintro _ ⟨w2, rfl⟩
                have HB2 : Hid (Below W3.heap.size W3 w2.v) := bt HB5.out w2.h
                obtain ⟨wc, hwc⟩ : ∃ wc, w2.v = wc := ⟨_, rfl⟩
                rw [hwc] at HB2 ⊢
                clear hwc hne w2 HB5
                have HBW : Hid (Below w.heap.size w wc) := bt HB.out HB2.out
                have hne : Nonempty (NewW wc) := ⟨NewW.start wc⟩
                have b0 : ∀ t : NewW wc, t.v.cell? ⟨g, 0, none⟩ = some (.slice (some ⟨gl, 0, none⟩) n cl) := fun t => HA0.out _ (bt HB2.out t.h)
                have b2 : ∀ t : NewW wc, t.v.cell? ⟨gl, k * 4 + 2, none⟩ = some (.string zx) := fun t => HA2.out _ (bt HB2.out t.h)
                go_wp2_with fail
                refine wp_region_new (by kernel_rfl) (by kernel_rfl) ?_
                repeat (go_big_quiet_step (fail))
                refine wpQuiet_nil ?_
                rintro _ ⟨w3, rfl⟩
                go_wp2_with fail
                have HS3 : Hid (∀ W, Below wc.heap.size wc W → SrcAt W 1 (.slice (some ⟨g1, 0, none⟩) j c1) L.length (rowG encT L)) := fun W hW => OwnG.src (HO.out.below (bt HB2.out hW))
                have HS10 : Hid (∀ W, Below wc.heap.size wc W → SrcAt W 1 (.slice (some ⟨g1, j, none⟩) 0 (c1 - j)) ([] : List (List UInt8)).length (rowG encT [])) := fun W _ => src_zeroT W _ _
                have hC : ∃ m : NewW wc, w3.v.drew = m.v := ⟨⟨w3.v.drew, w3.h.drew⟩, rfl⟩
                refine wp_region_held_drew (S := fun w' => ∃ m : NewW wc, w' = m.v) (by kernel_rfl) hC (fun _ => ?_)
                have hB : Below wc.heap.size wc w3.v.drew := w3.h.drew
                generalize hW0 : w3.v.drew = W0 at *
                clear hW0 w3
                refine takeList (i := 1) rfl (by kernel_rfl) (by kernel_rfl) (by kernel_rfl) (fun _ _ _ _ h => h) rfl rfl hC (fun K hK => ?_)
                go_big_quiet_op
                refine hK _ ?_
                clear hK K
                refine takeList (i := 2) rfl (by kernel_rfl) (by kernel_rfl) (by kernel_rfl) (fun _ _ _ _ h => h) rfl rfl hC (fun K hK => ?_)
                go_big_quiet_op
                refine hK _ ?_
                clear hK K
                refine takeVal (i := 3) (.slice (some ⟨g1, 0, none⟩) j c1) rfl (by kernel_rfl) (by kernel_rfl) (by kernel_rfl) (fun _ _ _ _ h => h) rfl hC (fun w' _ => by go_simp; try (intro h; omega)) ?_
                go_simp
                refine takeList (i := 5) rfl (by kernel_rfl) (by kernel_rfl) (by kernel_rfl) (fun _ _ _ _ h => h) rfl rfl hC (fun K hK => ?_)
                go_big_quiet_op
                refine hK _ ?_
                clear hK K
                refine takeNil (i := 6) rfl rfl rfl (by kernel_rfl) (by kernel_rfl) (by kernel_rfl) (fun _ _ _ _ h => h) rfl hC ?_
                go_simp
                refine takeList (i := 7) rfl (by kernel_rfl) (by kernel_rfl) (by kernel_rfl) (fun _ _ _ _ h => h) rfl rfl hC (fun K hK => ?_)
                go_big_quiet_op
                refine hK _ ?_
                clear hK K
                refine takeList (i := 8) rfl (by kernel_rfl) (by kernel_rfl) (by kernel_rfl) (fun _ _ _ _ h => h) rfl rfl hC (fun K hK => ?_)
                go_big_quiet_op
                refine hK _ ?_
                clear hK K
                refine takeList (i := 9) rfl (by kernel_rfl) (by kernel_rfl) (by kernel_rfl) (fun _ _ _ _ h => h) rfl rfl hC (fun K hK => ?_)
                go_big_quiet_op
                refine hK _ ?_
                clear hK K
                refine takeList (i := 10) rfl (by kernel_rfl) (by kernel_rfl) (by kernel_rfl) (fun _ _ _ _ h => h) rfl rfl hC (fun K hK => ?_)
                go_big_quiet_op
                refine hK _ ?_
                clear hK K
                refine takeList (i := 11) rfl (by kernel_rfl) (by kernel_rfl) (by kernel_rfl) (fun _ _ _ _ h => h) rfl rfl hC (fun K hK => ?_)
                go_big_quiet_op
                refine hK _ ?_
                clear hK K
                refine takeList (i := 12) rfl (by kernel_rfl) (by kernel_rfl) (by kernel_rfl) (fun _ _ _ _ h => h) rfl rfl hC (fun K hK => ?_)
                go_big_quiet_op
                refine hK _ ?_
                clear hK K
                refine takeList (i := 15) rfl (by kernel_rfl) (by kernel_rfl) (by kernel_rfl) (fun _ _ _ _ h => h) rfl rfl hC (fun K hK => ?_)
                go_big_quiet_op
                refine hK _ ?_
                clear hK K
                refine takeList (i := 16) rfl (by kernel_rfl) (by kernel_rfl) (by kernel_rfl) (fun _ _ _ _ h => h) rfl rfl hC (fun K hK => ?_)
                go_big_quiet_op
                refine hK _ ?_
                clear hK K
                refine takeVal (i := 17) (.slice (some ⟨g1, j, none⟩) 0 (c1 - j)) rfl (by kernel_rfl) (by kernel_rfl) (by kernel_rfl) (fun _ _ _ _ h => h) rfl hC (fun w' _ => by go_simp; try (intro h; omega)) ?_
                go_simp
                clear b0 b2 hne
                refine wpAnyH_ready (rs := [0, 13]) (by kernel_rfl) (by simp) (AllReadyH.cons (at_of_drop (i := 0) rfl) (fun K hK => ?_) (AllReadyH.cons (at_of_drop (i := 13) rfl) (fun K hK => ?_) AllReadyH.nil))
                · rw [if_pos (by rfl)]
                  go_simp
                  have hal := below_new W0 (.cells #[] 9)
                  have hr := OwnG.empty (enc := encT) W0 9 1
                  obtain ⟨vr9, hvr⟩ : ∃ vr9, Value.slice (some ⟨W0.heap.size, 0, none⟩) 0 0 = vr9 := ⟨_, rfl⟩
                  have hrf : ∀ b, vr9.ownBlock = some b → wc.heap.size ≤ b := fun b hb => by rw [← hvr] at hb; cases hb; exact hB.size
                  rw [hvr] at hr ⊢
                  replace hB := bt hB hal
                  refine hK.out _ _ ⟨⟨_, hB⟩, rfl⟩ (fun hC => ?_)
                  generalize World.alloc W0 (.cells #[] 9) = Wq1 at *
                  clear hK K hal hvr
                  refine wpAnyH_ready (rs := [4, 13]) (by kernel_rfl) (by simp) (AllReadyH.cons (at_of_drop (i := 4) rfl) (fun K hK => ?_) (AllReadyH.cons (at_of_drop (i := 13) rfl) (fun K hK => ?_) AllReadyH.nil))
                  · refine stepG u_strs info_strs (by rfl) (by decide) (by decide) encT_one (ns := L) rfl _ _ rfl rfl hr hrf hB rfl (HS3.out _ hB) (by have := HM.out; have := HLL.out; simp <;> omega) ?_
                    intro vr9 Wq2 hr hrf hB hk
                    clear hk
                    refine hK.out _ _ ⟨⟨_, hB⟩, rfl⟩ (fun hC => ?_)
                    go_simp
                    clear hK K
                    refine wpAnyH_ready (rs := [13]) (by kernel_rfl) (by simp) (AllReadyH.cons (at_of_drop (i := 13) rfl) (fun K hK => ?_) AllReadyH.nil)
                    rw [if_pos (by rfl)]
                    go_simp
                    have hal := below_new Wq2 (.cells #[.string zx] 9)
                    obtain ⟨vd, hvd⟩ : ∃ vd, Wq2.heap.size = vd := ⟨_, rfl⟩
                    have hd := heap_alloc_new Wq2 (.cells #[.string zx] 9)
                    have hdn : vr9.ownBlock ≠ some vd := fun e => by have := OwnG.lt hr e; omega
                    replace hr := OwnG.below hr hal
                    rw [hvd] at hd ⊢
                    replace hB := bt hB hal
                    refine hK.out _ _ ⟨⟨_, hB⟩, rfl⟩ (fun hC => ?_)
                    generalize World.alloc Wq2 (.cells #[.string zx] 9) = Wq3 at *
                    clear hK K hal hvd
                    refine wpAnyH_ready (rs := [14]) (by kernel_rfl) (by simp) (AllReadyH.cons (at_of_drop (i := 14) rfl) (fun K hK => ?_) AllReadyH.nil)
                    refine stepG u_strs info_strs (by rfl) (by decide) (by decide) encT_one (ns := [zx.toList]) rfl _ _ rfl rfl hr hrf hB rfl (src_one (x := zx.toList) encT_len (by rw [encT_eq]; exact hd)) (by have := HM.out; have := HLL.out; simp <;> omega) ?_
                    intro vr9 Wq4 hr hrf hB hk
                    clear hk
                    refine hK.out _ _ ⟨⟨_, hB⟩, rfl⟩ (fun hC => ?_)
                    go_simp
                    clear hK K
                    refine wpAnyH_ready (rs := [18]) (by kernel_rfl) (by simp) (AllReadyH.cons (at_of_drop (i := 18) rfl) (fun K hK => ?_) AllReadyH.nil)
                    refine stepG u_strs info_strs (by rfl) (by decide) (by decide) encT_one (ns := []) rfl _ _ rfl rfl hr hrf hB rfl (HS10.out _ hB) (by have := HM.out; have := HLL.out; simp <;> omega) ?_
                    intro vr9 Wq5 hr hrf hB hk
                    clear hk
                    refine hK.out _ _ ⟨⟨_, hB⟩, rfl⟩ (fun hC => ?_)
                    go_simp
                    clear hK K
                    refine takeList (i := 19) rfl (by kernel_rfl) (by kernel_rfl) (by kernel_rfl) (fun _ _ _ _ h => h) rfl rfl hC (fun K hK => ?_)
                    go_big_quiet_op
                    refine hK _ ?_
                    clear hK K
                    refine wpAnyH_done (by kernel_rfl) ?_ _
                    go_wp2
                    go_roundw
                    case rel => exact ⟨k + 1, by go_num, by omega, by show OwnS _ _ _; rw [HINS.out]; simpa using hr, fun b hb => Nat.le_trans HBW.out.size (hrf b hb), bt HBW.out hB⟩
                    case measure => simp [intOf]; omega
                  · rw [if_pos (by rfl)]
                    go_simp
                    have hal := below_new Wq1 (.cells #[.string zx] 9)
                    obtain ⟨vd, hvd⟩ : ∃ vd, Wq1.heap.size = vd := ⟨_, rfl⟩
                    have hd := heap_alloc_new Wq1 (.cells #[.string zx] 9)
                    have hdn : vr9.ownBlock ≠ some vd := fun e => by have := OwnG.lt hr e; omega
                    replace hr := OwnG.below hr hal
                    rw [hvd] at hd ⊢
                    replace hB := bt hB hal
                    refine hK.out _ _ ⟨⟨_, hB⟩, rfl⟩ (fun hC => ?_)
                    generalize World.alloc Wq1 (.cells #[.string zx] 9) = Wq2 at *
                    clear hK K hal hvd
                    refine wpAnyH_ready (rs := [4]) (by kernel_rfl) (by simp) (AllReadyH.cons (at_of_drop (i := 4) rfl) (fun K hK => ?_) AllReadyH.nil)
                    refine stepG u_strs info_strs (by rfl) (by decide) (by decide) encT_one (ns := L) rfl _ _ rfl rfl hr hrf hB rfl (HS3.out _ hB) (by have := HM.out; have := HLL.out; simp <;> omega) ?_
                    intro vr9 Wq3 hr hrf hB hk
                    replace hd := hk _ _ hd hdn
                    clear hk
                    refine hK.out _ _ ⟨⟨_, hB⟩, rfl⟩ (fun hC => ?_)
                    go_simp
                    clear hK K
                    refine wpAnyH_ready (rs := [14]) (by kernel_rfl) (by simp) (AllReadyH.cons (at_of_drop (i := 14) rfl) (fun K hK => ?_) AllReadyH.nil)
                    refine stepG u_strs info_strs (by rfl) (by decide) (by decide) encT_one (ns := [zx.toList]) rfl _ _ rfl rfl hr hrf hB rfl (src_one (x := zx.toList) encT_len (by rw [encT_eq]; exact hd)) (by have := HM.out; have := HLL.out; simp <;> omega) ?_
                    intro vr9 Wq4 hr hrf hB hk
                    clear hk
                    refine hK.out _ _ ⟨⟨_, hB⟩, rfl⟩ (fun hC => ?_)
                    go_simp
                    clear hK K
                    refine wpAnyH_ready (rs := [18]) (by kernel_rfl) (by simp) (AllReadyH.cons (at_of_drop (i := 18) rfl) (fun K hK => ?_) AllReadyH.nil)
                    refine stepG u_strs info_strs (by rfl) (by decide) (by decide) encT_one (ns := []) rfl _ _ rfl rfl hr hrf hB rfl (HS10.out _ hB) (by have := HM.out; have := HLL.out; simp <;> omega) ?_
                    intro vr9 Wq5 hr hrf hB hk
                    clear hk
                    refine hK.out _ _ ⟨⟨_, hB⟩, rfl⟩ (fun hC => ?_)
                    go_simp
                    clear hK K
                    refine takeList (i := 19) rfl (by kernel_rfl) (by kernel_rfl) (by kernel_rfl) (fun _ _ _ _ h => h) rfl rfl hC (fun K hK => ?_)
                    go_big_quiet_op
                    refine hK _ ?_
                    clear hK K
                    refine wpAnyH_done (by kernel_rfl) ?_ _
                    go_wp2
                    go_roundw
                    case rel => exact ⟨k + 1, by go_num, by omega, by show OwnS _ _ _; rw [HINS.out]; simpa using hr, fun b hb => Nat.le_trans HBW.out.size (hrf b hb), bt HBW.out hB⟩
                    case measure => simp [intOf]; omega
                · rw [if_pos (by rfl)]
                  go_simp
                  have hal := below_new W0 (.cells #[.string zx] 9)
                  obtain ⟨vd, hvd⟩ : ∃ vd, W0.heap.size = vd := ⟨_, rfl⟩
                  have hd := heap_alloc_new W0 (.cells #[.string zx] 9)
                  rw [hvd] at hd ⊢
                  replace hB := bt hB hal
                  refine hK.out _ _ ⟨⟨_, hB⟩, rfl⟩ (fun hC => ?_)
                  generalize World.alloc W0 (.cells #[.string zx] 9) = Wq1 at *
                  clear hK K hal hvd
                  refine wpAnyH_ready (rs := [0]) (by kernel_rfl) (by simp) (AllReadyH.cons (at_of_drop (i := 0) rfl) (fun K hK => ?_) AllReadyH.nil)
                  rw [if_pos (by rfl)]
                  go_simp
                  have hal := below_new Wq1 (.cells #[] 9)
                  have hr := OwnG.empty (enc := encT) Wq1 9 1
                  obtain ⟨vr9, hvr⟩ : ∃ vr9, Value.slice (some ⟨Wq1.heap.size, 0, none⟩) 0 0 = vr9 := ⟨_, rfl⟩
                  have hrf : ∀ b, vr9.ownBlock = some b → wc.heap.size ≤ b := fun b hb => by rw [← hvr] at hb; cases hb; exact hB.size
                  have hdn : vr9.ownBlock ≠ some vd := fun e => by rw [← hvr] at e; cases e; exact absurd (Array.getElem?_eq_some_iff.1 hd).1 (Nat.lt_irrefl _)
                  replace hd := keep_on hal hd
                  rw [hvr] at hr ⊢
                  replace hB := bt hB hal
                  refine hK.out _ _ ⟨⟨_, hB⟩, rfl⟩ (fun hC => ?_)
                  generalize World.alloc Wq1 (.cells #[] 9) = Wq2 at *
                  clear hK K hal hvr
                  refine wpAnyH_ready (rs := [4]) (by kernel_rfl) (by simp) (AllReadyH.cons (at_of_drop (i := 4) rfl) (fun K hK => ?_) AllReadyH.nil)
                  refine stepG u_strs info_strs (by rfl) (by decide) (by decide) encT_one (ns := L) rfl _ _ rfl rfl hr hrf hB rfl (HS3.out _ hB) (by have := HM.out; have := HLL.out; simp <;> omega) ?_
                  intro vr9 Wq3 hr hrf hB hk
                  replace hd := hk _ _ hd hdn
                  clear hk
                  refine hK.out _ _ ⟨⟨_, hB⟩, rfl⟩ (fun hC => ?_)
                  go_simp
                  clear hK K
                  refine wpAnyH_ready (rs := [14]) (by kernel_rfl) (by simp) (AllReadyH.cons (at_of_drop (i := 14) rfl) (fun K hK => ?_) AllReadyH.nil)
                  refine stepG u_strs info_strs (by rfl) (by decide) (by decide) encT_one (ns := [zx.toList]) rfl _ _ rfl rfl hr hrf hB rfl (src_one (x := zx.toList) encT_len (by rw [encT_eq]; exact hd)) (by have := HM.out; have := HLL.out; simp <;> omega) ?_
                  intro vr9 Wq4 hr hrf hB hk
                  clear hk
                  refine hK.out _ _ ⟨⟨_, hB⟩, rfl⟩ (fun hC => ?_)
                  go_simp
                  clear hK K
                  refine wpAnyH_ready (rs := [18]) (by kernel_rfl) (by simp) (AllReadyH.cons (at_of_drop (i := 18) rfl) (fun K hK => ?_) AllReadyH.nil)
                  refine stepG u_strs info_strs (by rfl) (by decide) (by decide) encT_one (ns := []) rfl _ _ rfl rfl hr hrf hB rfl (HS10.out _ hB) (by have := HM.out; have := HLL.out; simp <;> omega) ?_
                  intro vr9 Wq5 hr hrf hB hk
                  clear hk
                  refine hK.out _ _ ⟨⟨_, hB⟩, rfl⟩ (fun hC => ?_)
                  go_simp
                  clear hK K
                  refine takeList (i := 19) rfl (by kernel_rfl) (by kernel_rfl) (by kernel_rfl) (fun _ _ _ _ h => h) rfl rfl hC (fun K hK => ?_)
                  go_big_quiet_op
                  refine hK _ ?_
                  clear hK K
                  refine wpAnyH_done (by kernel_rfl) ?_ _
                  go_wp2
                  go_roundw
                  case rel => exact ⟨k + 1, by go_num, by omega, by show OwnS _ _ _; rw [HINS.out]; simpa using hr, fun b hb => Nat.le_trans HBW.out.size (hrf b hb), bt HBW.out hB⟩
                  case measure => simp [intOf]; omega
    · obtain rfl : k = n := by omega
      have HON : Hid (OwnS wr u3 (C.allF R.l [])) := by
        have h1 := HO.out
        rw [List.take_of_length_le (by have := HN.out; omega)] at h1
        exact h1
      clear hS
      go_wp2
      go_ret
      exact ⟨⟨_, rfl, HON.out, HF.out⟩, HB.out⟩
end Go.Proofs.Ytoglhhoniojbaaa
