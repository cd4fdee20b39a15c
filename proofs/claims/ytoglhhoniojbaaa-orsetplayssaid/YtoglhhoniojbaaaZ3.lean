/-
  Several texts in one: ODel2, ORem, OObj, OObjs.
-/
import Derived.Test.YtoglhhoniojbaaaZ2
import Derived.Test.YtoglhhoniojbaaaTArg
import Derived.Test.YtoglhhoniojbaaaZ10
namespace Go.Proofs.Ytoglhhoniojbaaa
open Go.RowKit Go.Lib
set_option linter.unusedVariables false

/-- What a remove leaves of a row. -/
def unseen (c : V7) (l : List C.Dt) : List C.Dt := l.filter fun d => !C.has c d.1 d.2
theorem unseen_all {c : V7} {l : List C.Dt} (h : ∀ j x, j < l.length → l[j]? = some x → C.has c x.1 x.2 = false) : unseen c l = l :=
  List.filter_eq_self.2 fun d hd => by
    obtain ⟨i, hi, e⟩ := List.getElem_of_mem hd
    rw [h i d hi (by rw [List.getElem?_eq_getElem hi, e])]; rfl
theorem unseen_snoc {c : V7} {l : List C.Dt} {k : Nat} {x : C.Dt} (hx : l[k]? = some x) : unseen c (l.take (k + 1)) = if C.has c x.1 x.2 = true then unseen c (l.take k) else unseen c (l.take k) ++ [x] := by
  unfold unseen
  rw [C.take_snoc hx, List.filter_append]
  cases hq : C.has c x.1 x.2 <;> simp [hq]
set_option maxRecDepth 100000 in
set_option maxHeartbeats 8000000 in
theorem delf_any (gs : Nat) (c : V7) (v : Value) (l : List C.Dt) (w : World) (h : OwnD w v l) (hs : SeenAt w gs c) (hl : l.length ≤ 1000000) :
    Calls Try.prog 32 #[v, seenF gs] w fun e w' => ∃ v', e = .returned v' ∧ OwnD w' v' (unseen c l) ∧ v'.ownBlock = v.ownBlock ∧ Turn w w' (fun b => v.ownBlock = some b) := by
  have HSN : Hid (v.ownBlock ≠ some gs) := hs.ne h
  have HI : Hid (∀ W, Below w.heap.size w W → Calls Try.prog 60 #[v, seenF gs] W fun e w' => (∃ k : Nat, k ≤ l.length ∧ (∀ j x, j < k → l[j]? = some x → C.has c x.1 x.2 = false) ∧ ((k = l.length ∧ e = .returned (.int .i64 (-1))) ∨ ∃ x, l[k]? = some x ∧ C.has c x.1 x.2 = true ∧ e = .returned (.int .i64 (k : Nat)))) ∧ Below W.heap.size W w') := fun W hW => index_any gs c v l W (h.below hW) (hs.below hW) hl
  obtain ⟨q, cp, hv⟩ := h.len
  subst hv
  obtain ⟨n, hn⟩ : ∃ n, n = l.length := ⟨_, rfl⟩
  have HN : Hid (n = l.length) := hn
  have HO : Hid (OwnD w (.slice q n cp) l) := by show OwnD _ _ _; rw [hn]; exact h
  have HS : Hid (SeenAt w gs c) := hs
  rw [← hn] at hl HI HSN ⊢
  clear h hs hn
  unfold seenF at *
  go_enter Try.func32, Try.ntmps32
  go_wp2_with fail
  refine (HI.out w (Below.refl _ _)).mono ?_
  rintro e w1 ⟨⟨k0, hk0, hp0, hk⟩, hb1⟩
  have HB1 : Hid (Below w.heap.size w w1) := hb1
  have HP0 : Hid (∀ j x, j < k0 → l[j]? = some x → C.has c x.1 x.2 = false) := hp0
  clear HI hb1 hp0
  rcases hk with ⟨rfl, rfl⟩ | ⟨x0, hx0, hz0, rfl⟩
  · have HU : Hid (unseen c l = l) := unseen_all fun j x hj hx => HP0.out j x (by have := HN.out; omega) hx
    go_wp2
    go_ret
    exact ⟨_, rfl, by rw [HU.out]; exact HO.out.below HB1.out, rfl, Turn.of_below HB1.out⟩
  · have hkn : k0 < n := by have h1 := (List.getElem?_eq_some_iff.1 hx0).1; have := HN.out; omega
    have HS0 : Hid (l.take k0 = unseen c (l.take (k0 + 1))) := by
      show _ = _
      rw [unseen_snoc hx0, if_pos hz0]
      exact (unseen_all fun j x hj hx => by
        rw [List.length_take] at hj
        rw [List.getElem?_take] at hx
        split at hx
        · exact HP0.out j x (by omega) hx
        · cases hx).symm
    obtain ⟨g, cap, hvs⟩ := HO.out.at (by have := HN.out; omega)
    rw [← HN.out] at hvs
    cases hvs
    obtain ⟨hcn, hcm⟩ : n ≤ cp ∧ cp ≤ maxLen := by
      rcases HO.out.shape with ⟨h1, _⟩ | ⟨g', cp', cur, hv, hg, hnn, hm, hs, ht⟩
      · cases h1
      · cases hv; exact ⟨by have := HN.out; omega, hm⟩
    have hcap63 : cp ≤ 9223372036854775807 := Nat.le_trans hcm (by decide)
    have HGS : Hid (g ≠ gs) := fun e => HSN.out (by rw [← e]; rfl)
    have hkm : ((k0 : Int) == -1) = false := by rw [beq_eq_false_iff_ne]; omega
    clear hx0 hz0 HP0 hcm
    go_wp2_with fail
    go_loopw [5, 6] (fun s5 s6 wr => ∃ (i j : Nat) (M : List C.Dt), s5 = .int .i64 i ∧ s6 = .int .i64 j ∧ i < j ∧ j ≤ n ∧ Hid (n = M.length) ∧ Hid (M.take i = unseen c (l.take j)) ∧ Hid (∀ t, j ≤ t → M[t]? = l[t]?) ∧ Hid (OwnD wr (.slice (some ⟨g, 0, none⟩) n cp) M) ∧ Hid (Turn w wr (fun b => b = g))) (fun _ s6 _ => n - (intOf s6).toNat)
    case atStart => exact ⟨k0, k0 + 1, l, rfl, by go_num, by omega, by omega, HN.out, HS0.out, fun t _ => rfl, HO.out.below HB1.out, Turn.of_below HB1.out⟩
    case round =>
      obtain ⟨i, j, M, rfl, rfl, hij, hjn, HML, HMT, HMR, HOM, HTM⟩ := hrel
      clear HB1 HS0
      have hSr : SeenAt wr gs c := by
        unfold SeenAt
        rw [HTM.out.block gs (Array.getElem?_eq_some_iff.1 HS.out).1 fun e => HGS.out e.symm]; exact HS.out
      have HSR : Hid (SeenAt wr gs c) := hSr
      clear hSr
      by_cases hlt : j < n
      · obtain ⟨x, hx⟩ : ∃ x, M[j]? = some x := ⟨_, List.getElem?_eq_getElem (by have := HML.out; omega)⟩
        have hlx : l[j]? = some x := by rw [← HMR.out _ (Nat.le_refl _)]; exact hx
        obtain ⟨a0, a1⟩ := HOM.out.cell j x hx
        obtain ⟨z, hz⟩ : ∃ z, C.has c x.1 x.2 = z := ⟨_, rfl⟩
        have HZ : Hid (C.has c x.1 x.2 = z) := hz
        have HSN2 : Hid (unseen c (l.take (j + 1)) = if C.has c x.1 x.2 = true then unseen c (l.take j) else unseen c (l.take j) ++ [x]) := unseen_snoc hlx
        clear hx hlx hz
        obtain ⟨d1, d2⟩ := x
        simp only at a0 a1 HSN2 HZ
        go_wp2_with fail
        obtain ⟨w2, hw2⟩ : ∃ w2, w2 = wr.alloc (.cells #[.int .i64 d1, .int .i64 d2] 31) := ⟨_, rfl⟩
        have hb2 : Below wr.heap.size wr w2 := by rw [hw2]; exact below_new _ _
        have hq2 : w2.heap[wr.heap.size]? = some (.cells #[.int .i64 d1, .int .i64 d2] 31) := by rw [hw2]; exact heap_alloc_new _ _
        have HB2 : Hid (Below wr.heap.size wr w2) := hb2
        have HQ2 : Hid (w2.heap[wr.heap.size]? = some (.cells #[.int .i64 d1, .int .i64 d2] 31)) := hq2
        rw [← hw2]
        clear hw2 hb2 hq2 a0 a1
        refine (fn_any gs c d1 d2 w2 (HSR.out.below HB2.out) z HZ.out).mono ?_
        rintro e w3 ⟨rfl, hb3⟩
        have HB3 : Hid (Below wr.heap.size wr w3) := bt HB2.out hb3
        have HQ3 : Hid (w3.heap[wr.heap.size]? = some (.cells #[.int .i64 d1, .int .i64 d2] 31)) := keep_on hb3 HQ2.out
        clear hb3
        cases z with
        | true =>
          go_wp2
          go_roundw
          case rel =>
            refine ⟨i, j + 1, M, rfl, by go_num, by omega, by omega, HML.out, ?_, fun t ht => HMR.out t (by omega), HOM.out.below HB3.out, HTM.out.trans (Turn.of_below HB3.out) fun x hx => Or.inl hx⟩
            show _ = _
            rw [HSN2.out, if_pos HZ.out, HMT.out]
          case measure => simp [intOf]; omega
        | false =>
          have HOM3 : Hid (OwnD w3 (.slice (some ⟨g, 0, none⟩) n cp) M) := HOM.out.below HB3.out
          obtain ⟨y0, y1⟩ := box2 HQ3.out
          obtain ⟨z, hz⟩ : ∃ z, M[i]? = some z := ⟨_, List.getElem?_eq_getElem (by have := HML.out; omega)⟩
          obtain ⟨e0, e1⟩ := HOM3.out.cell i z hz
          have f0 := oownD_free HOM3.out (i * 2)
          have f1 := oownD_free HOM3.out (i * 2 + 1)
          have hin : i < n := by omega
          clear hz
          go_wp2
          go_roundw
          case rel =>
            refine ⟨i + 1, j + 1, M.set i (d1, d2), by go_num, by go_num, by omega, by omega, by show _ = _; rw [List.length_set]; exact HML.out, ?_, fun t ht => ?_, OwnD.oset HOM3.out HML.out i (d1, d2), ?_⟩
            · show _ = _
              rw [HSN2.out, if_neg (by rw [HZ.out]; simp), ← HMT.out]
              have hk : (M.set i (d1, d2))[i]? = some (d1, d2) := by rw [List.getElem?_set_self (by have := HML.out; omega)]
              rw [C.take_snoc hk, List.take_set_of_le (Nat.le_refl _)]
            · rw [List.getElem?_set_ne (by omega)]; exact HMR.out t (by omega)
            · exact ((HTM.out.trans (Turn.of_below HB3.out) fun x hx => Or.inl hx).setCell (b := g) rfl _).setCell (b := g) rfl _
          case measure => simp [intOf]; omega
      · obtain rfl : j = n := by omega
        have HE : Hid (M.take i = unseen c l) := by show _ = _; rw [HMT.out, List.take_of_length_le (by have := HN.out; omega)]
        have hML := HML.out
        have hil : i ≤ j := by omega
        have hic : i ≤ cp := by omega
        have hci : ¬ (cp = i) := by omega
        rcases HOM.out.shape with ⟨h1, _⟩ | ⟨g', cp', cur, hv, hg, hnn, hm, hs, ht⟩
        · cases h1
        cases hv
        obtain ⟨X, hX⟩ : ∃ X, X = over cur (i * 2) (rowD (List.replicate (M.length - i) ((0, 0) : C.Dt))) := ⟨_, rfl⟩
        have lz : (rowD (List.replicate (M.length - i) ((0, 0) : C.Dt))).length = (M.length - i) * 2 := by rw [rowD_length, List.length_replicate]
        have hr : ∀ ty c', (Builtin.clear_ #[49] ty #[.slice (some ⟨g, i * 2, none⟩) (M.length - i) c']).run Try.prog wr = .ok (.tuple #[]) (wr.setRow g X.toArray) := fun ty c' => by
          rw [hX]
          exact run_clear_k u_dots zv_dot ty hg (by rw [zero_dots]) (rowD_one _) (by omega) (by omega)
        have hgX : (wr.setRow g X.toArray).heap[g]? = some (.cells X.toArray 31) := set_over hg
        have htk : X.take (i * 2) = rowD (M.take i) := by
          rw [hX, over, List.append_assoc, List.take_append_of_le_length (by rw [List.length_take]; omega), List.take_of_length_le (by rw [List.length_take]; omega), ← rowD_take M i (by omega), ← ht, List.take_take]
          congr 1; omega
        have lk : (M.take i).length = i := by rw [List.length_take]; omega
        have HF : Hid (OwnD (wr.setRow g X.toArray) (.slice (some ⟨g, 0, none⟩) i cp) (unseen c l)) := by
          have := OwnD.make (l := M.take i) (cap := cp) hgX (by omega) hm (by rw [hX, over_length _ _ _ (by omega)]; exact hs) (by rw [lk]; exact htk)
          rw [lk, HE.out] at this
          exact this
        have HTF : Hid (Turn w (wr.setRow g X.toArray) (fun b => b = g)) := HTM.out.trans (Turn.of_grown (row_grown wr g _) fun b hb => by cases hb; rfl) fun x hx => Or.inl hx
        have HR : Hid _ := hr
        clear hX lz hgX htk lk hg hs ht hnn hm hr HOM HMR HMT
        rw [← hML] at HR
        clear hML
        have hr := HR.out
        go_wp2
        go_ret
        exact ⟨_, rfl, HF.out, rfl, HTF.out.mono fun b hb => by rw [hb]; rfl⟩
end Go.Proofs.Ytoglhhoniojbaaa

namespace Go.Proofs.Ytoglhhoniojbaaa
open Go.RowKit Go.Lib Go.Maps
set_option linter.unusedVariables false

theorem setT_rem {w w2 w' : World} {g n n' : Nat} {L : OLay} {S : C.Os} (h : SetAt w g n L S) (hn : n ≤ n') {m : Lit → Option Value} (hr : ∀ y, m (sk y) = if S.th y = [] then none else some (L.rv y)) (x : Tx) (l' : List C.Dt) (v' : Value)
    (hm : GMap w' 9 L.bT n' (gput m (sk x) (if l' = [] then none else some v'))) (hrow : OwnD w2 v' l') (ht : Turn w w2 (fun b => (L.val S x).ownBlock = some b)) (hv : v'.ownBlock = (L.val S x).ownBlock) (hg2 : w2.grownBy w' (some L.bT)) : SetRet w g L S n' (S.addT x l') w' := by
  have hval : ∀ b, (L.val S x).ownBlock = some b → S.th x ≠ [] ∧ (L.rv x).ownBlock = some b := fun b hb => by
    unfold OLay.val at hb
    by_cases hx : S.th x = []
    · rw [if_pos hx] at hb; cases hb
    · rw [if_neg hx] at hb; exact ⟨hx, hb⟩
  refine h.setT hn x l' v' hm (fun y => ?_) (fun _ => hrow.same fun b hb' => ?_) (fun b _ hb' => Or.inl (hval b (hv.symm.trans hb'))) ?_
  · by_cases hyx : y = x
    · subst hyx; rw [gput_same, if_pos rfl]
    · rw [gput_other _ _ fun k => hyx (sk_inj k), hr y, if_neg hyx]
  · refine hg2.block b (row_lt hrow hb') fun e => ?_
    obtain ⟨h1, h2⟩ := hval b (hv.symm.trans hb')
    exact (h.row_apart h1 h2).2.2.1 (by cases e; rfl)
  · exact (ht.mono (T := fun b => b = L.bT ∨ (S.th x ≠ [] ∧ (L.rv x).ownBlock = some b)) fun b hb => Or.inr (hval b hb)).trans (Turn.of_grown (S := fun b => b = L.bT) hg2 fun b hb => by cases hb; rfl) fun b hb => Or.inl (Or.inl hb)
/-- With what a text's removes had seen. -/
def C.Os.addG (S : C.Os) (x : Tx) (c : V7) : C.Os := { S with go := fun y => if y = x then c else S.go y }
theorem setG_of {w w' : World} {g n : Nat} {L : OLay} {S : C.Os} (h : SetAt w g n L S) {m : Lit → Option Value} (hr : ∀ y, m (sk y) = if C.same (S.go y) C.z7 = true then none else some (S.go y).v) (x : Tx) (c : V7) (hc : C.same c C.z7 = false)
    (hm : GMap w' 9 L.bG (n + 1) (gput m (sk x) (some c.v))) (ht : Turn w w' (fun b => b = L.bG)) : SetRet w g L S (n + 1) (S.addG x c) w' :=
  h.setG (Nat.le_succ n) _ hm (fun y => by
    by_cases hyx : y = x
    · subst hyx; rw [gput_same]; simp [hc]
    · rw [gput_other _ _ fun k => hyx (sk_inj k), hr y]; simp [hyx]) ht
theorem mrg_zero {a b : V7} (ha : C.good a = true) (h : C.same (C.mrg a b) C.z7 = true) : a = C.z7 ∧ C.mrg a b = C.z7 := by
  have h1 := (C.same_iff _ _).1 h
  refine ⟨?_, h1⟩
  have h2 := (C.good_iff a).1 ha
  rw [C.eq_iff] at h1
  rw [C.eq_iff]
  simp only [C.mrg, C.z7] at h1 ⊢
  omega
theorem addG_same {S : C.Os} {x : Tx} {c : V7} (h : S.go x = C.z7) (hc : c = C.z7) : S.addG x c = S := by
  unfold C.Os.addG
  obtain ⟨a, t, g⟩ := S
  simp only at h ⊢
  congr 1
  funext y
  by_cases hy : y = x
  · subst hy; rw [if_pos rfl, hc, h]
  · rw [if_neg hy]
set_option maxRecDepth 100000 in
set_option maxHeartbeats 4000000 in
theorem orem_bad (w : World) (g : Nat) (x : Tx) (c : V7) (hx : x.size ≤ maxLen) (hm : 100 < x.size ∨ C.good c = false) :
    Calls Try.prog 11 #[.pointer (some ⟨g, 0, none⟩), .string x, c.v] w fun e w' => e = .returned (.int .i64 1) ∧ Below w.heap.size w w' := by
  obtain ⟨z, hz⟩ : ∃ z, decide (100 < x.size) = z := ⟨_, rfl⟩
  have HZ : Hid (decide (100 < x.size) = z) := hz
  have HX : Hid (x.size ≤ maxLen) := hx
  have HG : Hid (z = false → ∀ W, Calls Try.prog 26 #[c.v] W fun e w' => e = .returned (.bool false) ∧ Below W.heap.size W w') := fun e W => by
    rcases hm with hm | hm
    · rw [e] at hz; simp at hz; omega
    · rw [← hm]; exact good_any c W
  clear hm hz hx
  obtain ⟨x0, x1, x2, x3, x4, x5, x6⟩ := c
  simp only [V7.v] at HG ⊢
  cases z with
  | true =>
    go_enter Try.func11, Try.ntmps11
    go_wp2_with fail
    refine (long_any x _ HX.out true HZ.out).mono ?_
    rintro e w1 ⟨rfl, hw⟩
    have HB : Hid (Below w.heap.size w w1) := by show Below _ _ _; rw [hw]; exact below_new w _
    clear hw
    go_wp2
    go_ret
    exact ⟨rfl, HB.out⟩
  | false =>
    go_enter Try.func11, Try.ntmps11
    go_wp2_with fail
    refine (long_any x _ HX.out false HZ.out).mono ?_
    rintro e w1 ⟨rfl, hw⟩
    have HB : Hid (Below w.heap.size w w1) := by show Below _ _ _; rw [hw]; exact below_new w _
    have hq : w1.heap[w.heap.size]? = some (.cells #[.int .i64 x0, .int .i64 x1, .int .i64 x2, .int .i64 x3, .int .i64 x4, .int .i64 x5, .int .i64 x6] 28) := by rw [hw]; exact heap_alloc_new _ _
    obtain ⟨q0, q1, q2, q3, q4, q5, q6⟩ := box7 hq
    clear hw hq
    go_wp2_with fail
    refine (HG.out (by first | rfl | trivial) _).mono ?_
    rintro e w2 ⟨rfl, hb⟩
    have HB2 : Hid (Below w.heap.size w w2) := bt HB.out hb
    clear hb q0 q1 q2 q3 q4 q5 q6
    go_wp2
    go_ret
    exact ⟨rfl, HB2.out⟩
theorem zf7 {w : World} {b : Nat} {x0 x1 x2 x3 x4 x5 x6 : Int} {t : TypeId} (h : w.heap[b]? = some (.cells #[.int .i64 x0, .int .i64 x1, .int .i64 x2, .int .i64 x3, .int .i64 x4, .int .i64 x5, .int .i64 x6] t)) :
    (w.cell? ⟨b, 0, none⟩ = some (.int .i64 x0) ∧ w.cell? ⟨b, 1, none⟩ = some (.int .i64 x1) ∧ w.cell? ⟨b, 2, none⟩ = some (.int .i64 x2) ∧ w.cell? ⟨b, 3, none⟩ = some (.int .i64 x3) ∧ w.cell? ⟨b, 4, none⟩ = some (.int .i64 x4) ∧ w.cell? ⟨b, 5, none⟩ = some (.int .i64 x5) ∧ w.cell? ⟨b, 6, none⟩ = some (.int .i64 x6)) ∧
    (w.frozen? ⟨b, 0, none⟩ = false ∧ w.frozen? ⟨b, 1, none⟩ = false ∧ w.frozen? ⟨b, 2, none⟩ = false ∧ w.frozen? ⟨b, 3, none⟩ = false ∧ w.frozen? ⟨b, 4, none⟩ = false ∧ w.frozen? ⟨b, 5, none⟩ = false ∧ w.frozen? ⟨b, 6, none⟩ = false) := by
  refine ⟨box7 h, ?_⟩
  simp [World.frozen?, h]
set_option maxRecDepth 100000 in
set_option maxHeartbeats 0 in
theorem orem_ok (w : World) (g n : Nat) (L : OLay) (S : C.Os) (x : Tx) (c : V7) (h : SetAt w g n L S) (hn : n + 2 < maxLen) (hx : x.size ≤ 100) (hg : C.good c = true) (hgo : C.good (S.go x) = true) (hl : (S.th x).length ≤ 100000) :
    Calls Try.prog 11 #[.pointer (some ⟨g, 0, none⟩), .string x, c.v] w fun e w' => e = .returned (.int .i64 0) ∧ SetRet w g L S (n + 2) ((S.addG x (C.mrg (S.go x) c)).addT x (unseen c (S.th x))) w' := by
  have HX : Hid (x.size ≤ maxLen) := Nat.le_trans hx (by decide)
  have HXL : Hid (decide (100 < x.size) = false) := by show _ = _; simpa using hx
  have HS : Hid (SetAt w g n L S) := h
  have HNN : Hid (n + 2 < maxLen) := hn
  have HLL : Hid ((S.th x).length ≤ 100000) := hl
  have HGO : Hid (C.good (S.go x) = true) := hgo
  have HGC : Hid (∀ W, Calls Try.prog 26 #[c.v] W fun e w' => e = .returned (.bool true) ∧ Below W.heap.size W w') := fun W => by rw [← hg]; exact good_any c W
  obtain ⟨mm, hmm⟩ : ∃ mm, C.mrg (S.go x) c = mm := ⟨_, rfl⟩
  have HMM : Hid (C.mrg (S.go x) c = mm) := hmm
  obtain ⟨vg, hvg⟩ : ∃ vg, (S.go x).v = vg := ⟨_, rfl⟩
  have HMG : Hid (∀ W, Calls Try.prog 31 #[vg, c.v] W fun e w' => e = .returned mm.v ∧ Below W.heap.size W w') := fun W => by rw [← hmm, ← hvg]; exact merge_any _ _ W
  have HLG : Hid (∀ W, SetAt W g n L S → (Instr.lookup 63 (.map (some L.bG)) (.string x) false).run Try.prog W = .ok vg W) := fun W hW => by rw [← hvg]; exact hW.look_go HX.out
  obtain ⟨sm, hsm⟩ : ∃ sm, C.same mm C.z7 = sm := ⟨_, rfl⟩
  have HSM : Hid (C.same mm C.z7 = sm) := hsm
  have kE : ∀ W, (Op.equalIn 10000 28 mm.v C.z7.v).run Try.prog W = .ok sm W := fun W => eq_vec hsm W
  have HCV : Hid (∀ W gs, SeenAt W gs c → SeenAt W gs c) := fun _ _ h => h
  rw [hmm]
  clear h hn hx hg hgo hl hmm hsm hvg
  obtain ⟨cc, hcc⟩ : ∃ cc, c = cc := ⟨_, rfl⟩
  obtain ⟨x0, x1, x2, x3, x4, x5, x6⟩ := c
  obtain ⟨m0, m1, m2, m3, m4, m5, m6⟩ := mm
  simp only [V7.v, C.z7] at HGC HMG kE ⊢
  have HCC : Hid ((⟨x0, x1, x2, x3, x4, x5, x6⟩ : V7) = cc) := hcc
  clear hcc
  go_enter Try.func11, Try.ntmps11
  go_wp2_with fail
  refine (long_any x _ HX.out false HXL.out).mono ?_
  rintro e w1 ⟨rfl, hw⟩
  have HB1 : Hid (Below w.heap.size w w1) := by show Below _ _ _; rw [hw]; exact below_new w _
  have HQ1 : Hid (w1.heap[w.heap.size]? = some (.cells #[.int .i64 x0, .int .i64 x1, .int .i64 x2, .int .i64 x3, .int .i64 x4, .int .i64 x5, .int .i64 x6] 28)) := by show _ = _; rw [hw]; exact heap_alloc_new _ _
  obtain ⟨gs, hgs⟩ : ∃ gs, w.heap.size = gs := ⟨_, rfl⟩
  have HGE : Hid (w.heap.size = gs) := hgs
  rw [hgs] at HQ1 ⊢
  obtain ⟨q0, q1, q2, q3, q4, q5, q6⟩ := box7 HQ1.out
  clear hw hgs
  go_wp2_with fail
  refine (HGC.out _).mono ?_
  rintro e w2 ⟨rfl, hb⟩
  have HB2 : Hid (Below w.heap.size w w2) := bt HB1.out hb
  have HQ2 : Hid (w2.heap[gs]? = some (.cells #[.int .i64 x0, .int .i64 x1, .int .i64 x2, .int .i64 x3, .int .i64 x4, .int .i64 x5, .int .i64 x6] 28)) := keep_on hb HQ1.out
  have HS2 : Hid (SetAt w2 g n L S) := HS.out.below HB2.out
  clear hb q0 q1 q2 q3 q4 q5 q6 HQ1 HB1
  obtain ⟨a0, a1, a2, a3, a4, a5, a6⟩ := box7_all HQ2.out
  have c2 : ∀ m : NewW w2, m.v.cell? ⟨g, 2, none⟩ = some (.map (some L.bG)) := fun m => (HS2.out.below m.h).cells.2.2
  have hne : Nonempty (NewW w2) := ⟨NewW.start w2⟩
  go_wp2_with fail
  have hC : ∃ m : NewW w2, w2.drew = m.v := ⟨⟨w2.drew, (Below.refl _ w2).drew⟩, rfl⟩
  refine wp_region_held_drew (S := fun w' => ∃ m : NewW w2, w' = m.v) (by kernel_rfl) hC (fun _ => ?_)
  have hB : Below w2.heap.size w2 w2.drew := (Below.refl _ w2).drew
  generalize hW0 : w2.drew = W0 at *
  clear hW0
  refine takeList (i := 0) rfl (by kernel_rfl) (by kernel_rfl) (by kernel_rfl) (fun _ _ _ _ h => h) rfl rfl hC (fun K hK => ?_)
  go_big_quiet_op
  refine hK _ ?_
  clear hK K
  refine takeNil (i := 1) rfl rfl rfl (by kernel_rfl) (by kernel_rfl) (by kernel_rfl) (fun _ _ _ _ h => h) rfl hC ?_
  go_simp
  refine takeList (i := 2) rfl (by kernel_rfl) (by kernel_rfl) (by kernel_rfl) (fun _ _ _ _ h => h) rfl rfl hC (fun K hK => ?_)
  go_big_quiet_op
  refine hK _ ?_
  clear hK K
  refine takeList (i := 3) rfl (by kernel_rfl) (by kernel_rfl) (by kernel_rfl) (fun _ _ _ _ h => h) rfl rfl hC (fun K hK => ?_)
  go_big_quiet_op
  refine hK _ ?_
  clear hK K
  refine takeList (i := 4) rfl (by kernel_rfl) (by kernel_rfl) (by kernel_rfl) (fun _ _ _ _ h => h) rfl rfl hC (fun K hK => ?_)
  go_big_quiet_op
  refine hK _ ?_
  clear hK K
  refine takeLook (i := 5) _ _ _ _ (.map (some L.bG)) (.string x) vg rfl rfl rfl rfl (by kernel_rfl) (by kernel_rfl) (by kernel_rfl) (fun _ _ _ _ h => h) rfl hC (fun w' ⟨m, hm⟩ => by rw [hm]; exact HLG.out _ (HS2.out.below m.h)) ?_
  go_simp
  refine takeList (i := 6) rfl (by kernel_rfl) (by kernel_rfl) (by kernel_rfl) (fun _ _ _ _ h => h) rfl rfl hC (fun K hK => ?_)
  go_big_quiet_op
  refine hK _ ?_
  clear hK K
  clear a0 a1 a2 a3 a4 a5 a6 c2
  refine wpAnyH_ready (rs := [7, 8]) (by kernel_rfl) (by simp) (AllReadyH.cons (at_of_drop (i := 7) rfl) (fun K hK => ?_) (AllReadyH.cons (at_of_drop (i := 8) rfl) (fun K hK => ?_) AllReadyH.nil))
  · skip
    go_simp
    refine (HMG.out _).mono ?_
    rintro e W3 ⟨rfl, hk⟩
    replace hB := bt hB hk
    refine hK.out _ _ ⟨⟨_, hB⟩, rfl⟩ (fun hC => ?_)
    try go_simp
    clear hK K hk
    refine wpAnyH_ready (rs := [8]) (by kernel_rfl) (by simp) (AllReadyH.cons (at_of_drop (i := 8) rfl) (fun K hK => ?_) AllReadyH.nil)
    rw [if_pos (by rfl)]
    go_simp
    have hal := below_new W3 (.cells #[.int .i64 0, .int .i64 0, .int .i64 0, .int .i64 0, .int .i64 0, .int .i64 0, .int .i64 0] 28)
    have hz := heap_alloc_new W3 (.cells #[.int .i64 0, .int .i64 0, .int .i64 0, .int .i64 0, .int .i64 0, .int .i64 0, .int .i64 0] 28)
    have hgz := hB.size
    replace hB := bt hB hal
    refine hK.out _ _ ⟨⟨_, hB⟩, rfl⟩ (fun hC => ?_)
    generalize World.alloc W3 (.cells #[.int .i64 0, .int .i64 0, .int .i64 0, .int .i64 0, .int .i64 0, .int .i64 0, .int .i64 0] 28) = W4 at *
    generalize W3.heap.size = gm at *
    clear hK K hal
    clear hC
    have hC : ∃ m : NewW w2, W4 = m.v := ⟨⟨_, hB⟩, rfl⟩
    obtain ⟨⟨k0, k1, k2, k3, k4, k5, k6⟩, f0, f1, f2, f3, f4, f5, f6⟩ := zf7 hz
    refine callList (i := 9) rfl (by kernel_rfl) rfl (fun K hK => ?_)
    go_simp
    generalize hWF : World.setCell _ _ _ = WF
    have hBF : Below w2.heap.size w2 WF := by
      rw [← hWF]
      iterate 7 refine Below.setCell ?_ hgz _
      exact hB
    have hqF : WF.heap[gm]? = some (.cells #[.int .i64 m0, .int .i64 m1, .int .i64 m2, .int .i64 m3, .int .i64 m4, .int .i64 m5, .int .i64 m6] 28) := by
      rw [← hWF]
      exact (set_block (set_block (set_block (set_block (set_block (set_block (set_block hz)))))))
    clear hWF hz k0 k1 k2 k3 k4 k5 k6 f0 f1 f2 f3 f4 f5 f6
    refine hK.out _ _ ⟨⟨WF, hBF⟩, rfl⟩ ?_
    clear hK K hC hB
    refine wpAnyH_done (by kernel_rfl) ?_ _
    have HBF : Hid (Below w2.heap.size w2 WF) := hBF
    have HQF : Hid (WF.heap[gm]? = some (.cells #[.int .i64 m0, .int .i64 m1, .int .i64 m2, .int .i64 m3, .int .i64 m4, .int .i64 m5, .int .i64 m6] 28)) := hqF
    have HGM : Hid (w2.heap.size ≤ gm) := hgz
    clear hBF hqF hgz
    have HB5 : Hid (Below w.heap.size w WF) := bt HB2.out HBF.out
    have HS5 : Hid (SetAt WF g n L S) := HS2.out.below HBF.out
    have HQ5 : Hid (WF.heap[gs]? = some (.cells #[.int .i64 x0, .int .i64 x1, .int .i64 x2, .int .i64 x3, .int .i64 x4, .int .i64 x5, .int .i64 x6] 28)) := keep_on HBF.out HQ2.out
    have HGD : Hid (∀ b, L.foot g S b → b < gs) := fun b hb => by have h1 := HS.out.lt hb; have h2 := HGE.out; omega
    have HGQ : Hid (gs < w2.heap.size) := (Array.getElem?_eq_some_iff.1 HQ2.out).1
    clear hne
    cases sm with
    | true =>
      have hz := mrg_zero HGO.out (by rw [HMM.out]; exact HSM.out)
      obtain ⟨S1, hS1⟩ : ∃ S1, S1 = S.addG x ⟨m0, m1, m2, m3, m4, m5, m6⟩ := ⟨_, rfl⟩
      have HS1 : Hid (S1 = S.addG x ⟨m0, m1, m2, m3, m4, m5, m6⟩) := hS1
      have hSS : S1 = S := by rw [hS1]; exact addG_same hz.1 (by rw [← HMM.out]; exact hz.2)
      have HTH : Hid (S1.th x = S.th x) := by show _ = _; rw [hSS]
      obtain ⟨L1, hL1⟩ : ∃ L1, L1 = L := ⟨_, rfl⟩
      have HS8 : Hid (SetAt WF g (n + 1) L1 S1) := by show SetAt _ _ _ _ _; rw [hL1, hSS]; exact HS5.out.mono (Nat.le_succ _)
      have HF8 : Hid (∀ b, L1.foot g S1 b → L.foot g S b ∨ w.heap.size ≤ b) := fun b hb => by rw [hL1, hSS] at hb; exact Or.inl hb
      have HT8 : Hid (Turn w WF (L.foot g S)) := Turn.of_below HB5.out
      obtain ⟨k0, k1, k2, k3, k4, k5, k6⟩ := box7 HQF.out
      have HQ8 : Hid _ := HQ5.out
      clear hz hS1 hSS hL1
      have HSN : Hid (SeenAt WF gs cc) := by show SeenAt _ _ _; rw [← HCC.out]; exact HQ8.out
      obtain ⟨v, hv⟩ : ∃ v, L1.val S1 x = v := ⟨_, rfl⟩
      have HV : Hid (L1.val S1 x = v) := hv
      have HOV : Hid (OwnD WF v (S.th x)) := by have := HS8.out.val x; rw [hv, HTH.out] at this; exact this
      have hlk : (Instr.lookup 62 (.map (some L1.bT)) (.string x) false).run Try.prog WF = .ok v WF := by have := HS8.out.look HX.out; rw [hv] at this; exact this
      have c1 : WF.cell? ⟨g, 1, none⟩ = some (.map (some L1.bT)) := HS8.out.cells.2.1
      have hmf : ∀ (fn : Fn) (first cap : Array Value) (w : World), (Instr.makeFunc fn first cap).run Try.prog w = .ok (.func fn first cap) w := fun _ _ _ _ => rfl
      clear hv
      go_wp2_with fail
      refine (delf_any gs cc v (S.th x) WF HOV.out HSN.out (by have := HLL.out; omega)).mono ?_
      rintro e w9 ⟨v', rfl, ho9, hv9, ht9⟩
      have HVB : Hid (∀ b, v.ownBlock = some b → L1.foot g S1 b ∧ b ≠ g ∧ b ≠ L1.bT) := fun b hb => by
        have e := HV.out
        unfold OLay.val at e
        by_cases hx0 : S1.th x = []
        · rw [if_pos hx0] at e; subst e; cases hb
        · rw [if_neg hx0] at e; rw [← e] at hb
          have hr := HS8.out.row_apart hx0 hb
          exact ⟨Or.inr (Or.inr (Or.inr (Or.inr ⟨x, hx0, hb⟩))), hr.1, hr.2.2.1⟩
      obtain ⟨lu, hlu⟩ : ∃ lu, unseen cc (S.th x) = lu := ⟨_, rfl⟩
      rw [hlu] at ho9
      have HLU : Hid (unseen cc (S.th x) = lu) := hlu
      obtain ⟨q9, c9, hv'⟩ := ho9.len
      subst hv'
      obtain ⟨n9, hn9⟩ : ∃ n9, n9 = lu.length := ⟨_, rfl⟩
      have HN9 : Hid (n9 = lu.length) := hn9
      have HO9 : Hid (OwnD w9 (.slice q9 n9 c9) lu) := by show OwnD _ _ _; rw [hn9]; exact ho9
      rw [← hn9] at hv9 ⊢
      have HV9 : Hid ((Value.slice q9 n9 c9).ownBlock = v.ownBlock) := hv9
      have HT9 : Hid (Turn WF w9 (fun b => v.ownBlock = some b)) := ht9
      have HG9 : Hid (w9.heap[g]? = WF.heap[g]?) := ht9.block g (HS8.out.lt (Or.inl rfl)) fun e => (HVB.out g e).2.1 rfl
      have hn63 : (n9 : Int) ≤ 1000000 := by
        have h1 : lu.length ≤ (S.th x).length := by rw [← hlu]; exact List.length_filter_le _ _
        have h2 := HLL.out
        omega
      have hc9 : w9.cell? ⟨g, 1, none⟩ = some (.map (some L1.bT)) := (World.cell?_of_block (a := ⟨g, 1, none⟩) HG9.out).trans HS8.out.cells.2.1
      obtain ⟨mT, hmT, hrT⟩ := HS8.out.mT
      have HMT : Hid (GMap w9 9 L1.bT (n + 1) mT) := hmT.same (ht9.block _ hmT.lt fun e => (HVB.out _ e).2.2 rfl)
      have HRT : Hid (∀ y, mT (sk y) = if S1.th y = [] then none else some (L1.rv y)) := hrT
      have HFIN : Hid (∀ w', GMap w' 9 L1.bT (n + 2) (gput mT (sk x) (if lu = [] then none else some (.slice q9 n9 c9))) → w9.grownBy w' (some L1.bT) → SetRet w g L S (n + 2) (S1.addT x lu) w') := fun w' h1 h2 =>
        SetRet.step HF8.out HT8.out (setT_rem HS8.out (Nat.le_succ _) HRT.out x lu _ h1 HO9.out (by rw [HV.out]; exact HT9.out) (by rw [HV.out]; exact HV9.out) h2)
      clear ho9 hv9 ht9 hlu hn9 hmT hrT hlk c1
      by_cases hnil : lu = []
      · have h0 : n9 = 0 := by rw [HN9.out, hnil]; rfl
        subst h0
        have HNIL : Hid (lu = []) := hnil
        clear hnil
        have hmt := HMT.out
        go_wp2_with (at_delete; go_must (refine wpList_drop_gmap rfl _ _ _ rfl Try.underlying62 str_keys hmt (str_key HX.out) rfl rfl ?_); intro w10 hm10 hg10)
        have HR10 : Hid (SetRet w g L S (n + 2) (S1.addT x lu) w10) := HFIN.out w10 (by rw [if_pos HNIL.out]; exact hm10.mono (Nat.le_succ _)) hg10
        clear hm10 hg10 hmt hc9
        go_wp2
        go_ret
        refine ⟨rfl, ?_⟩
        rw [HCC.out, HLU.out, ← HS1.out]
        exact HR10.out
      · have hpos : (0 : Int) < (n9 : Int) := by
          have h1 : 0 < lu.length := List.length_pos_iff.2 hnil
          have h2 := HN9.out
          omega
        have HNIL : Hid (¬ lu = []) := hnil
        clear hnil
        have hmt := HMT.out
        have hnn : n + 1 < maxLen := by have := HNN.out; omega
        go_wp2_with (at_mapUpdate; go_must (refine wpList_store_gmap rfl _ _ _ _ rfl Try.underlying62 str_keys hmt hnn (key := .string x) (c := .slice q9 n9 c9) (str_key HX.out) rfl rfl rfl ?_); intro w11 hm11 hg11)
        have HR11 : Hid (SetRet w g L S (n + 2) (S1.addT x lu) w11) := HFIN.out w11 (by rw [if_neg HNIL.out]; exact hm11) hg11
        clear hm11 hg11 hmt hc9
        go_wp2
        go_ret
        refine ⟨rfl, ?_⟩
        rw [HCC.out, HLU.out, ← HS1.out]
        exact HR11.out
    | false =>
      have hnb : Nonempty (TurnB WF (fun b => b = L.bG)) := ⟨⟨WF, Turn.refl _ _⟩⟩
      have hbg : L.bG < gs := HGD.out L.bG (Or.inr (Or.inr (Or.inr (Or.inl rfl))))
      have c2 : ∀ m : TurnB WF (fun b => b = L.bG), m.W.cell? ⟨g, 2, none⟩ = some (.map (some L.bG)) := fun m => by
        have e := m.h.block g (HS5.out.lt (Or.inl rfl)) HS5.out.apart.2.2
        exact (World.cell?_of_block (a := ⟨g, 2, none⟩) e).trans HS5.out.cells.2.2
      have hqm : ∀ m : TurnB WF (fun b => b = L.bG), m.W.heap[gm]? = some (.cells #[.int .i64 m0, .int .i64 m1, .int .i64 m2, .int .i64 m3, .int .i64 m4, .int .i64 m5, .int .i64 m6] 28) := fun m => by
        rw [m.h.block gm (Array.getElem?_eq_some_iff.1 HQF.out).1 fun e => by have h1 := HGM.out; have h2 := HGQ.out; omega]; exact HQF.out
      have u0 : ∀ m : TurnB WF (fun b => b = L.bG), m.W.cell? ⟨gm, 0, none⟩ = some (.int .i64 m0) := fun m => (box7 (hqm m)).1
      have u1 : ∀ m : TurnB WF (fun b => b = L.bG), m.W.cell? ⟨gm, 1, none⟩ = some (.int .i64 m1) := fun m => (box7 (hqm m)).2.1
      have u2 : ∀ m : TurnB WF (fun b => b = L.bG), m.W.cell? ⟨gm, 2, none⟩ = some (.int .i64 m2) := fun m => (box7 (hqm m)).2.2.1
      have u3 : ∀ m : TurnB WF (fun b => b = L.bG), m.W.cell? ⟨gm, 3, none⟩ = some (.int .i64 m3) := fun m => (box7 (hqm m)).2.2.2.1
      have u4 : ∀ m : TurnB WF (fun b => b = L.bG), m.W.cell? ⟨gm, 4, none⟩ = some (.int .i64 m4) := fun m => (box7 (hqm m)).2.2.2.2.1
      have u5 : ∀ m : TurnB WF (fun b => b = L.bG), m.W.cell? ⟨gm, 5, none⟩ = some (.int .i64 m5) := fun m => (box7 (hqm m)).2.2.2.2.2.1
      have u6 : ∀ m : TurnB WF (fun b => b = L.bG), m.W.cell? ⟨gm, 6, none⟩ = some (.int .i64 m6) := fun m => (box7 (hqm m)).2.2.2.2.2.2
      obtain ⟨k0, k1, k2, k3, k4, k5, k6⟩ := box7 HQF.out
      go_wp2_with fail
      clear k0 k1 k2 k3 k4 k5 k6
      have hC : ∃ m : TurnB WF (fun b => b = L.bG), WF.drew = m.W := ⟨⟨WF.drew, (Turn.refl _ _).drew⟩, rfl⟩
      refine wp_region_held_drew (S := fun w' => ∃ m : TurnB WF (fun b => b = L.bG), w' = m.W) (by kernel_rfl) hC (fun _ => ?_)
      have hS0 : SetAt WF.drew g n L S := HS5.out.below ((Below.refl _ WF).drew)
      have hT0 : Turn WF WF.drew (fun b => b = L.bG) := (Turn.refl _ _).drew
      have hB0 : Below WF.heap.size WF WF.drew := (Below.refl _ WF).drew
      generalize hW0 : WF.drew = W6 at *
      clear hW0
      refine takeList (i := 0) rfl (by kernel_rfl) (by kernel_rfl) (by kernel_rfl) (fun _ _ _ _ h => h) rfl rfl hC (fun K hK => ?_)
      go_big_quiet_op
      refine hK _ ?_
      clear hK K
      refine takeNil (i := 1) rfl rfl rfl (by kernel_rfl) (by kernel_rfl) (by kernel_rfl) (fun _ _ _ _ h => h) rfl hC ?_
      go_simp
      refine takeList (i := 2) rfl (by kernel_rfl) (by kernel_rfl) (by kernel_rfl) (fun _ _ _ _ h => h) rfl rfl hC (fun K hK => ?_)
      go_big_quiet_op
      refine hK _ ?_
      clear hK K
      refine takeList (i := 3) rfl (by kernel_rfl) (by kernel_rfl) (by kernel_rfl) (fun _ _ _ _ h => h) rfl rfl hC (fun K hK => ?_)
      go_big_quiet_op
      refine hK _ ?_
      clear hK K
      refine takeList (i := 4) rfl (by kernel_rfl) (by kernel_rfl) (by kernel_rfl) (fun _ _ _ _ h => h) rfl rfl hC (fun K hK => ?_)
      go_big_quiet_op
      refine hK _ ?_
      clear hK K
      refine takeList (i := 5) rfl (by kernel_rfl) (by kernel_rfl) (by kernel_rfl) (fun _ _ _ _ h => h) rfl rfl hC (fun K hK => ?_)
      go_big_quiet_op
      refine hK _ ?_
      clear hK K
      clear c2 hqm u0 u1 u2 u3 u4 u5 u6 hnb
      obtain ⟨mG, hmG, hrG⟩ := hS0.mG
      refine callList (i := 6) rfl (by kernel_rfl) rfl (fun K hK => ?_)
      refine op_store _ _ _ _ rfl Try.underlying63 str_keys hmG (by have := HNN.out; omega) (key := .string x) (c := .agg #[.int .i64 m0, .int .i64 m1, .int .i64 m2, .int .i64 m3, .int .i64 m4, .int .i64 m5, .int .i64 m6]) (str_key HX.out) rfl rfl rfl ?_
      intro W8 hm8 hg8
      have HT8' : Hid (Turn WF W8 (fun b => b = L.bG)) := hT0.trans (Turn.of_grown (S := fun b => b = L.bG) hg8 fun b hb => by cases hb; rfl) fun b hb => Or.inl hb
      have hR8 : SetRet W6 g L S (n + 1) (S.addG x ⟨m0, m1, m2, m3, m4, m5, m6⟩) W8 := setG_of hS0 hrG x ⟨m0, m1, m2, m3, m4, m5, m6⟩ HSM.out hm8 (Turn.of_grown (S := fun b => b = L.bG) hg8 fun b hb => by cases hb; rfl)
      refine hK.out _ _ ⟨⟨_, HT8'.out⟩, rfl⟩ ?_
      try go_simp
      clear hK K hC hm8 hg8 hmG hrG
      refine wpAnyH_done (by kernel_rfl) ?_ _
      have HB6 : Hid (Below w.heap.size w W6) := bt HB5.out hB0
      obtain ⟨S1, hS1⟩ : ∃ S1, S1 = S.addG x ⟨m0, m1, m2, m3, m4, m5, m6⟩ := ⟨_, rfl⟩
      have HS1 : Hid (S1 = S.addG x ⟨m0, m1, m2, m3, m4, m5, m6⟩) := hS1
      have HTH : Hid (S1.th x = S.th x) := by show _ = _; rw [hS1]; rfl
      rw [← hS1] at hR8
      obtain ⟨⟨L1, hS8, hF8⟩, hT8⟩ := hR8
      have HS8 : Hid (SetAt W8 g (n + 1) L1 S1) := hS8
      have HF8 : Hid (∀ b, L1.foot g S1 b → L.foot g S b ∨ w.heap.size ≤ b) := fun b hb => (hF8 b hb).imp id fun h => Nat.le_trans HB6.out.size h
      have HT8 : Hid (Turn w W8 (L.foot g S)) := (Turn.of_below HB6.out).trans hT8 fun b hb => Or.inl hb
      have HQ8 : Hid (W8.heap[gs]? = some (.cells #[.int .i64 x0, .int .i64 x1, .int .i64 x2, .int .i64 x3, .int .i64 x4, .int .i64 x5, .int .i64 x6] 28)) := by
        show _ = _
        rw [HT8'.out.block gs (Array.getElem?_eq_some_iff.1 HQ5.out).1 (by omega)]; exact HQ5.out
      clear hS8 hF8 hT8 hS1 hS0 hT0 hB0 hbg
      have HSN : Hid (SeenAt W8 gs cc) := by show SeenAt _ _ _; rw [← HCC.out]; exact HQ8.out
      obtain ⟨v, hv⟩ : ∃ v, L1.val S1 x = v := ⟨_, rfl⟩
      have HV : Hid (L1.val S1 x = v) := hv
      have HOV : Hid (OwnD W8 v (S.th x)) := by have := HS8.out.val x; rw [hv, HTH.out] at this; exact this
      have hlk : (Instr.lookup 62 (.map (some L1.bT)) (.string x) false).run Try.prog W8 = .ok v W8 := by have := HS8.out.look HX.out; rw [hv] at this; exact this
      have c1 : W8.cell? ⟨g, 1, none⟩ = some (.map (some L1.bT)) := HS8.out.cells.2.1
      have hmf : ∀ (fn : Fn) (first cap : Array Value) (w : World), (Instr.makeFunc fn first cap).run Try.prog w = .ok (.func fn first cap) w := fun _ _ _ _ => rfl
      clear hv
      go_wp2_with fail
      refine (delf_any gs cc v (S.th x) W8 HOV.out HSN.out (by have := HLL.out; omega)).mono ?_
      rintro e w9 ⟨v', rfl, ho9, hv9, ht9⟩
      have HVB : Hid (∀ b, v.ownBlock = some b → L1.foot g S1 b ∧ b ≠ g ∧ b ≠ L1.bT) := fun b hb => by
        have e := HV.out
        unfold OLay.val at e
        by_cases hx0 : S1.th x = []
        · rw [if_pos hx0] at e; subst e; cases hb
        · rw [if_neg hx0] at e; rw [← e] at hb
          have hr := HS8.out.row_apart hx0 hb
          exact ⟨Or.inr (Or.inr (Or.inr (Or.inr ⟨x, hx0, hb⟩))), hr.1, hr.2.2.1⟩
      obtain ⟨lu, hlu⟩ : ∃ lu, unseen cc (S.th x) = lu := ⟨_, rfl⟩
      rw [hlu] at ho9
      have HLU : Hid (unseen cc (S.th x) = lu) := hlu
      obtain ⟨q9, c9, hv'⟩ := ho9.len
      subst hv'
      obtain ⟨n9, hn9⟩ : ∃ n9, n9 = lu.length := ⟨_, rfl⟩
      have HN9 : Hid (n9 = lu.length) := hn9
      have HO9 : Hid (OwnD w9 (.slice q9 n9 c9) lu) := by show OwnD _ _ _; rw [hn9]; exact ho9
      rw [← hn9] at hv9 ⊢
      have HV9 : Hid ((Value.slice q9 n9 c9).ownBlock = v.ownBlock) := hv9
      have HT9 : Hid (Turn W8 w9 (fun b => v.ownBlock = some b)) := ht9
      have HG9 : Hid (w9.heap[g]? = W8.heap[g]?) := ht9.block g (HS8.out.lt (Or.inl rfl)) fun e => (HVB.out g e).2.1 rfl
      have hn63 : (n9 : Int) ≤ 1000000 := by
        have h1 : lu.length ≤ (S.th x).length := by rw [← hlu]; exact List.length_filter_le _ _
        have h2 := HLL.out
        omega
      have hc9 : w9.cell? ⟨g, 1, none⟩ = some (.map (some L1.bT)) := (World.cell?_of_block (a := ⟨g, 1, none⟩) HG9.out).trans HS8.out.cells.2.1
      obtain ⟨mT, hmT, hrT⟩ := HS8.out.mT
      have HMT : Hid (GMap w9 9 L1.bT (n + 1) mT) := hmT.same (ht9.block _ hmT.lt fun e => (HVB.out _ e).2.2 rfl)
      have HRT : Hid (∀ y, mT (sk y) = if S1.th y = [] then none else some (L1.rv y)) := hrT
      have HFIN : Hid (∀ w', GMap w' 9 L1.bT (n + 2) (gput mT (sk x) (if lu = [] then none else some (.slice q9 n9 c9))) → w9.grownBy w' (some L1.bT) → SetRet w g L S (n + 2) (S1.addT x lu) w') := fun w' h1 h2 =>
        SetRet.step HF8.out HT8.out (setT_rem HS8.out (Nat.le_succ _) HRT.out x lu _ h1 HO9.out (by rw [HV.out]; exact HT9.out) (by rw [HV.out]; exact HV9.out) h2)
      clear ho9 hv9 ht9 hlu hn9 hmT hrT hlk c1
      by_cases hnil : lu = []
      · have h0 : n9 = 0 := by rw [HN9.out, hnil]; rfl
        subst h0
        have HNIL : Hid (lu = []) := hnil
        clear hnil
        have hmt := HMT.out
        go_wp2_with (at_delete; go_must (refine wpList_drop_gmap rfl _ _ _ rfl Try.underlying62 str_keys hmt (str_key HX.out) rfl rfl ?_); intro w10 hm10 hg10)
        have HR10 : Hid (SetRet w g L S (n + 2) (S1.addT x lu) w10) := HFIN.out w10 (by rw [if_pos HNIL.out]; exact hm10.mono (Nat.le_succ _)) hg10
        clear hm10 hg10 hmt hc9
        go_wp2
        go_ret
        refine ⟨rfl, ?_⟩
        rw [HCC.out, HLU.out, ← HS1.out]
        exact HR10.out
      · have hpos : (0 : Int) < (n9 : Int) := by
          have h1 : 0 < lu.length := List.length_pos_iff.2 hnil
          have h2 := HN9.out
          omega
        have HNIL : Hid (¬ lu = []) := hnil
        clear hnil
        have hmt := HMT.out
        have hnn : n + 1 < maxLen := by have := HNN.out; omega
        go_wp2_with (at_mapUpdate; go_must (refine wpList_store_gmap rfl _ _ _ _ rfl Try.underlying62 str_keys hmt hnn (key := .string x) (c := .slice q9 n9 c9) (str_key HX.out) rfl rfl rfl ?_); intro w11 hm11 hg11)
        have HR11 : Hid (SetRet w g L S (n + 2) (S1.addT x lu) w11) := HFIN.out w11 (by rw [if_neg HNIL.out]; exact hm11) hg11
        clear hm11 hg11 hmt hc9
        go_wp2
        go_ret
        refine ⟨rfl, ?_⟩
        rw [HCC.out, HLU.out, ← HS1.out]
        exact HR11.out
  · skip
    rw [if_pos (by rfl)]
    go_simp
    have hal := below_new W0 (.cells #[.int .i64 0, .int .i64 0, .int .i64 0, .int .i64 0, .int .i64 0, .int .i64 0, .int .i64 0] 28)
    have hz := heap_alloc_new W0 (.cells #[.int .i64 0, .int .i64 0, .int .i64 0, .int .i64 0, .int .i64 0, .int .i64 0, .int .i64 0] 28)
    have hgz := hB.size
    replace hB := bt hB hal
    refine hK.out _ _ ⟨⟨_, hB⟩, rfl⟩ (fun hC => ?_)
    generalize World.alloc W0 (.cells #[.int .i64 0, .int .i64 0, .int .i64 0, .int .i64 0, .int .i64 0, .int .i64 0, .int .i64 0] 28) = W3 at *
    generalize W0.heap.size = gm at *
    clear hK K hal
    refine wpAnyH_ready (rs := [7]) (by kernel_rfl) (by simp) (AllReadyH.cons (at_of_drop (i := 7) rfl) (fun K hK => ?_) AllReadyH.nil)
    go_simp
    refine (HMG.out _).mono ?_
    rintro e W4 ⟨rfl, hk⟩
    replace hz := keep_on hk hz
    replace hB := bt hB hk
    refine hK.out _ _ ⟨⟨_, hB⟩, rfl⟩ (fun hC => ?_)
    try go_simp
    clear hK K hk
    clear hC
    have hC : ∃ m : NewW w2, W4 = m.v := ⟨⟨_, hB⟩, rfl⟩
    obtain ⟨⟨k0, k1, k2, k3, k4, k5, k6⟩, f0, f1, f2, f3, f4, f5, f6⟩ := zf7 hz
    refine callList (i := 9) rfl (by kernel_rfl) rfl (fun K hK => ?_)
    go_simp
    generalize hWF : World.setCell _ _ _ = WF
    have hBF : Below w2.heap.size w2 WF := by
      rw [← hWF]
      iterate 7 refine Below.setCell ?_ hgz _
      exact hB
    have hqF : WF.heap[gm]? = some (.cells #[.int .i64 m0, .int .i64 m1, .int .i64 m2, .int .i64 m3, .int .i64 m4, .int .i64 m5, .int .i64 m6] 28) := by
      rw [← hWF]
      exact (set_block (set_block (set_block (set_block (set_block (set_block (set_block hz)))))))
    clear hWF hz k0 k1 k2 k3 k4 k5 k6 f0 f1 f2 f3 f4 f5 f6
    refine hK.out _ _ ⟨⟨WF, hBF⟩, rfl⟩ ?_
    clear hK K hC hB
    refine wpAnyH_done (by kernel_rfl) ?_ _
    have HBF : Hid (Below w2.heap.size w2 WF) := hBF
    have HQF : Hid (WF.heap[gm]? = some (.cells #[.int .i64 m0, .int .i64 m1, .int .i64 m2, .int .i64 m3, .int .i64 m4, .int .i64 m5, .int .i64 m6] 28)) := hqF
    have HGM : Hid (w2.heap.size ≤ gm) := hgz
    clear hBF hqF hgz
    have HB5 : Hid (Below w.heap.size w WF) := bt HB2.out HBF.out
    have HS5 : Hid (SetAt WF g n L S) := HS2.out.below HBF.out
    have HQ5 : Hid (WF.heap[gs]? = some (.cells #[.int .i64 x0, .int .i64 x1, .int .i64 x2, .int .i64 x3, .int .i64 x4, .int .i64 x5, .int .i64 x6] 28)) := keep_on HBF.out HQ2.out
    have HGD : Hid (∀ b, L.foot g S b → b < gs) := fun b hb => by have h1 := HS.out.lt hb; have h2 := HGE.out; omega
    have HGQ : Hid (gs < w2.heap.size) := (Array.getElem?_eq_some_iff.1 HQ2.out).1
    clear hne
    cases sm with
    | true =>
      have hz := mrg_zero HGO.out (by rw [HMM.out]; exact HSM.out)
      obtain ⟨S1, hS1⟩ : ∃ S1, S1 = S.addG x ⟨m0, m1, m2, m3, m4, m5, m6⟩ := ⟨_, rfl⟩
      have HS1 : Hid (S1 = S.addG x ⟨m0, m1, m2, m3, m4, m5, m6⟩) := hS1
      have hSS : S1 = S := by rw [hS1]; exact addG_same hz.1 (by rw [← HMM.out]; exact hz.2)
      have HTH : Hid (S1.th x = S.th x) := by show _ = _; rw [hSS]
      obtain ⟨L1, hL1⟩ : ∃ L1, L1 = L := ⟨_, rfl⟩
      have HS8 : Hid (SetAt WF g (n + 1) L1 S1) := by show SetAt _ _ _ _ _; rw [hL1, hSS]; exact HS5.out.mono (Nat.le_succ _)
      have HF8 : Hid (∀ b, L1.foot g S1 b → L.foot g S b ∨ w.heap.size ≤ b) := fun b hb => by rw [hL1, hSS] at hb; exact Or.inl hb
      have HT8 : Hid (Turn w WF (L.foot g S)) := Turn.of_below HB5.out
      obtain ⟨k0, k1, k2, k3, k4, k5, k6⟩ := box7 HQF.out
      have HQ8 : Hid _ := HQ5.out
      clear hz hS1 hSS hL1
      have HSN : Hid (SeenAt WF gs cc) := by show SeenAt _ _ _; rw [← HCC.out]; exact HQ8.out
      obtain ⟨v, hv⟩ : ∃ v, L1.val S1 x = v := ⟨_, rfl⟩
      have HV : Hid (L1.val S1 x = v) := hv
      have HOV : Hid (OwnD WF v (S.th x)) := by have := HS8.out.val x; rw [hv, HTH.out] at this; exact this
      have hlk : (Instr.lookup 62 (.map (some L1.bT)) (.string x) false).run Try.prog WF = .ok v WF := by have := HS8.out.look HX.out; rw [hv] at this; exact this
      have c1 : WF.cell? ⟨g, 1, none⟩ = some (.map (some L1.bT)) := HS8.out.cells.2.1
      have hmf : ∀ (fn : Fn) (first cap : Array Value) (w : World), (Instr.makeFunc fn first cap).run Try.prog w = .ok (.func fn first cap) w := fun _ _ _ _ => rfl
      clear hv
      go_wp2_with fail
      refine (delf_any gs cc v (S.th x) WF HOV.out HSN.out (by have := HLL.out; omega)).mono ?_
      rintro e w9 ⟨v', rfl, ho9, hv9, ht9⟩
      have HVB : Hid (∀ b, v.ownBlock = some b → L1.foot g S1 b ∧ b ≠ g ∧ b ≠ L1.bT) := fun b hb => by
        have e := HV.out
        unfold OLay.val at e
        by_cases hx0 : S1.th x = []
        · rw [if_pos hx0] at e; subst e; cases hb
        · rw [if_neg hx0] at e; rw [← e] at hb
          have hr := HS8.out.row_apart hx0 hb
          exact ⟨Or.inr (Or.inr (Or.inr (Or.inr ⟨x, hx0, hb⟩))), hr.1, hr.2.2.1⟩
      obtain ⟨lu, hlu⟩ : ∃ lu, unseen cc (S.th x) = lu := ⟨_, rfl⟩
      rw [hlu] at ho9
      have HLU : Hid (unseen cc (S.th x) = lu) := hlu
      obtain ⟨q9, c9, hv'⟩ := ho9.len
      subst hv'
      obtain ⟨n9, hn9⟩ : ∃ n9, n9 = lu.length := ⟨_, rfl⟩
      have HN9 : Hid (n9 = lu.length) := hn9
      have HO9 : Hid (OwnD w9 (.slice q9 n9 c9) lu) := by show OwnD _ _ _; rw [hn9]; exact ho9
      rw [← hn9] at hv9 ⊢
      have HV9 : Hid ((Value.slice q9 n9 c9).ownBlock = v.ownBlock) := hv9
      have HT9 : Hid (Turn WF w9 (fun b => v.ownBlock = some b)) := ht9
      have HG9 : Hid (w9.heap[g]? = WF.heap[g]?) := ht9.block g (HS8.out.lt (Or.inl rfl)) fun e => (HVB.out g e).2.1 rfl
      have hn63 : (n9 : Int) ≤ 1000000 := by
        have h1 : lu.length ≤ (S.th x).length := by rw [← hlu]; exact List.length_filter_le _ _
        have h2 := HLL.out
        omega
      have hc9 : w9.cell? ⟨g, 1, none⟩ = some (.map (some L1.bT)) := (World.cell?_of_block (a := ⟨g, 1, none⟩) HG9.out).trans HS8.out.cells.2.1
      obtain ⟨mT, hmT, hrT⟩ := HS8.out.mT
      have HMT : Hid (GMap w9 9 L1.bT (n + 1) mT) := hmT.same (ht9.block _ hmT.lt fun e => (HVB.out _ e).2.2 rfl)
      have HRT : Hid (∀ y, mT (sk y) = if S1.th y = [] then none else some (L1.rv y)) := hrT
      have HFIN : Hid (∀ w', GMap w' 9 L1.bT (n + 2) (gput mT (sk x) (if lu = [] then none else some (.slice q9 n9 c9))) → w9.grownBy w' (some L1.bT) → SetRet w g L S (n + 2) (S1.addT x lu) w') := fun w' h1 h2 =>
        SetRet.step HF8.out HT8.out (setT_rem HS8.out (Nat.le_succ _) HRT.out x lu _ h1 HO9.out (by rw [HV.out]; exact HT9.out) (by rw [HV.out]; exact HV9.out) h2)
      clear ho9 hv9 ht9 hlu hn9 hmT hrT hlk c1
      by_cases hnil : lu = []
      · have h0 : n9 = 0 := by rw [HN9.out, hnil]; rfl
        subst h0
        have HNIL : Hid (lu = []) := hnil
        clear hnil
        have hmt := HMT.out
        go_wp2_with (at_delete; go_must (refine wpList_drop_gmap rfl _ _ _ rfl Try.underlying62 str_keys hmt (str_key HX.out) rfl rfl ?_); intro w10 hm10 hg10)
        have HR10 : Hid (SetRet w g L S (n + 2) (S1.addT x lu) w10) := HFIN.out w10 (by rw [if_pos HNIL.out]; exact hm10.mono (Nat.le_succ _)) hg10
        clear hm10 hg10 hmt hc9
        go_wp2
        go_ret
        refine ⟨rfl, ?_⟩
        rw [HCC.out, HLU.out, ← HS1.out]
        exact HR10.out
      · have hpos : (0 : Int) < (n9 : Int) := by
          have h1 : 0 < lu.length := List.length_pos_iff.2 hnil
          have h2 := HN9.out
          omega
        have HNIL : Hid (¬ lu = []) := hnil
        clear hnil
        have hmt := HMT.out
        have hnn : n + 1 < maxLen := by have := HNN.out; omega
        go_wp2_with (at_mapUpdate; go_must (refine wpList_store_gmap rfl _ _ _ _ rfl Try.underlying62 str_keys hmt hnn (key := .string x) (c := .slice q9 n9 c9) (str_key HX.out) rfl rfl rfl ?_); intro w11 hm11 hg11)
        have HR11 : Hid (SetRet w g L S (n + 2) (S1.addT x lu) w11) := HFIN.out w11 (by rw [if_neg HNIL.out]; exact hm11) hg11
        clear hm11 hg11 hmt hc9
        go_wp2
        go_ret
        refine ⟨rfl, ?_⟩
        rw [HCC.out, HLU.out, ← HS1.out]
        exact HR11.out
    | false =>
      have hnb : Nonempty (TurnB WF (fun b => b = L.bG)) := ⟨⟨WF, Turn.refl _ _⟩⟩
      have hbg : L.bG < gs := HGD.out L.bG (Or.inr (Or.inr (Or.inr (Or.inl rfl))))
      have c2 : ∀ m : TurnB WF (fun b => b = L.bG), m.W.cell? ⟨g, 2, none⟩ = some (.map (some L.bG)) := fun m => by
        have e := m.h.block g (HS5.out.lt (Or.inl rfl)) HS5.out.apart.2.2
        exact (World.cell?_of_block (a := ⟨g, 2, none⟩) e).trans HS5.out.cells.2.2
      have hqm : ∀ m : TurnB WF (fun b => b = L.bG), m.W.heap[gm]? = some (.cells #[.int .i64 m0, .int .i64 m1, .int .i64 m2, .int .i64 m3, .int .i64 m4, .int .i64 m5, .int .i64 m6] 28) := fun m => by
        rw [m.h.block gm (Array.getElem?_eq_some_iff.1 HQF.out).1 fun e => by have h1 := HGM.out; have h2 := HGQ.out; omega]; exact HQF.out
      have u0 : ∀ m : TurnB WF (fun b => b = L.bG), m.W.cell? ⟨gm, 0, none⟩ = some (.int .i64 m0) := fun m => (box7 (hqm m)).1
      have u1 : ∀ m : TurnB WF (fun b => b = L.bG), m.W.cell? ⟨gm, 1, none⟩ = some (.int .i64 m1) := fun m => (box7 (hqm m)).2.1
      have u2 : ∀ m : TurnB WF (fun b => b = L.bG), m.W.cell? ⟨gm, 2, none⟩ = some (.int .i64 m2) := fun m => (box7 (hqm m)).2.2.1
      have u3 : ∀ m : TurnB WF (fun b => b = L.bG), m.W.cell? ⟨gm, 3, none⟩ = some (.int .i64 m3) := fun m => (box7 (hqm m)).2.2.2.1
      have u4 : ∀ m : TurnB WF (fun b => b = L.bG), m.W.cell? ⟨gm, 4, none⟩ = some (.int .i64 m4) := fun m => (box7 (hqm m)).2.2.2.2.1
      have u5 : ∀ m : TurnB WF (fun b => b = L.bG), m.W.cell? ⟨gm, 5, none⟩ = some (.int .i64 m5) := fun m => (box7 (hqm m)).2.2.2.2.2.1
      have u6 : ∀ m : TurnB WF (fun b => b = L.bG), m.W.cell? ⟨gm, 6, none⟩ = some (.int .i64 m6) := fun m => (box7 (hqm m)).2.2.2.2.2.2
      obtain ⟨k0, k1, k2, k3, k4, k5, k6⟩ := box7 HQF.out
      go_wp2_with fail
      clear k0 k1 k2 k3 k4 k5 k6
      have hC : ∃ m : TurnB WF (fun b => b = L.bG), WF.drew = m.W := ⟨⟨WF.drew, (Turn.refl _ _).drew⟩, rfl⟩
      refine wp_region_held_drew (S := fun w' => ∃ m : TurnB WF (fun b => b = L.bG), w' = m.W) (by kernel_rfl) hC (fun _ => ?_)
      have hS0 : SetAt WF.drew g n L S := HS5.out.below ((Below.refl _ WF).drew)
      have hT0 : Turn WF WF.drew (fun b => b = L.bG) := (Turn.refl _ _).drew
      have hB0 : Below WF.heap.size WF WF.drew := (Below.refl _ WF).drew
      generalize hW0 : WF.drew = W6 at *
      clear hW0
      refine takeList (i := 0) rfl (by kernel_rfl) (by kernel_rfl) (by kernel_rfl) (fun _ _ _ _ h => h) rfl rfl hC (fun K hK => ?_)
      go_big_quiet_op
      refine hK _ ?_
      clear hK K
      refine takeNil (i := 1) rfl rfl rfl (by kernel_rfl) (by kernel_rfl) (by kernel_rfl) (fun _ _ _ _ h => h) rfl hC ?_
      go_simp
      refine takeList (i := 2) rfl (by kernel_rfl) (by kernel_rfl) (by kernel_rfl) (fun _ _ _ _ h => h) rfl rfl hC (fun K hK => ?_)
      go_big_quiet_op
      refine hK _ ?_
      clear hK K
      refine takeList (i := 3) rfl (by kernel_rfl) (by kernel_rfl) (by kernel_rfl) (fun _ _ _ _ h => h) rfl rfl hC (fun K hK => ?_)
      go_big_quiet_op
      refine hK _ ?_
      clear hK K
      refine takeList (i := 4) rfl (by kernel_rfl) (by kernel_rfl) (by kernel_rfl) (fun _ _ _ _ h => h) rfl rfl hC (fun K hK => ?_)
      go_big_quiet_op
      refine hK _ ?_
      clear hK K
      refine takeList (i := 5) rfl (by kernel_rfl) (by kernel_rfl) (by kernel_rfl) (fun _ _ _ _ h => h) rfl rfl hC (fun K hK => ?_)
      go_big_quiet_op
      refine hK _ ?_
      clear hK K
      clear c2 hqm u0 u1 u2 u3 u4 u5 u6 hnb
      obtain ⟨mG, hmG, hrG⟩ := hS0.mG
      refine callList (i := 6) rfl (by kernel_rfl) rfl (fun K hK => ?_)
      refine op_store _ _ _ _ rfl Try.underlying63 str_keys hmG (by have := HNN.out; omega) (key := .string x) (c := .agg #[.int .i64 m0, .int .i64 m1, .int .i64 m2, .int .i64 m3, .int .i64 m4, .int .i64 m5, .int .i64 m6]) (str_key HX.out) rfl rfl rfl ?_
      intro W8 hm8 hg8
      have HT8' : Hid (Turn WF W8 (fun b => b = L.bG)) := hT0.trans (Turn.of_grown (S := fun b => b = L.bG) hg8 fun b hb => by cases hb; rfl) fun b hb => Or.inl hb
      have hR8 : SetRet W6 g L S (n + 1) (S.addG x ⟨m0, m1, m2, m3, m4, m5, m6⟩) W8 := setG_of hS0 hrG x ⟨m0, m1, m2, m3, m4, m5, m6⟩ HSM.out hm8 (Turn.of_grown (S := fun b => b = L.bG) hg8 fun b hb => by cases hb; rfl)
      refine hK.out _ _ ⟨⟨_, HT8'.out⟩, rfl⟩ ?_
      try go_simp
      clear hK K hC hm8 hg8 hmG hrG
      refine wpAnyH_done (by kernel_rfl) ?_ _
      have HB6 : Hid (Below w.heap.size w W6) := bt HB5.out hB0
      obtain ⟨S1, hS1⟩ : ∃ S1, S1 = S.addG x ⟨m0, m1, m2, m3, m4, m5, m6⟩ := ⟨_, rfl⟩
      have HS1 : Hid (S1 = S.addG x ⟨m0, m1, m2, m3, m4, m5, m6⟩) := hS1
      have HTH : Hid (S1.th x = S.th x) := by show _ = _; rw [hS1]; rfl
      rw [← hS1] at hR8
      obtain ⟨⟨L1, hS8, hF8⟩, hT8⟩ := hR8
      have HS8 : Hid (SetAt W8 g (n + 1) L1 S1) := hS8
      have HF8 : Hid (∀ b, L1.foot g S1 b → L.foot g S b ∨ w.heap.size ≤ b) := fun b hb => (hF8 b hb).imp id fun h => Nat.le_trans HB6.out.size h
      have HT8 : Hid (Turn w W8 (L.foot g S)) := (Turn.of_below HB6.out).trans hT8 fun b hb => Or.inl hb
      have HQ8 : Hid (W8.heap[gs]? = some (.cells #[.int .i64 x0, .int .i64 x1, .int .i64 x2, .int .i64 x3, .int .i64 x4, .int .i64 x5, .int .i64 x6] 28)) := by
        show _ = _
        rw [HT8'.out.block gs (Array.getElem?_eq_some_iff.1 HQ5.out).1 (by omega)]; exact HQ5.out
      clear hS8 hF8 hT8 hS1 hS0 hT0 hB0 hbg
      have HSN : Hid (SeenAt W8 gs cc) := by show SeenAt _ _ _; rw [← HCC.out]; exact HQ8.out
      obtain ⟨v, hv⟩ : ∃ v, L1.val S1 x = v := ⟨_, rfl⟩
      have HV : Hid (L1.val S1 x = v) := hv
      have HOV : Hid (OwnD W8 v (S.th x)) := by have := HS8.out.val x; rw [hv, HTH.out] at this; exact this
      have hlk : (Instr.lookup 62 (.map (some L1.bT)) (.string x) false).run Try.prog W8 = .ok v W8 := by have := HS8.out.look HX.out; rw [hv] at this; exact this
      have c1 : W8.cell? ⟨g, 1, none⟩ = some (.map (some L1.bT)) := HS8.out.cells.2.1
      have hmf : ∀ (fn : Fn) (first cap : Array Value) (w : World), (Instr.makeFunc fn first cap).run Try.prog w = .ok (.func fn first cap) w := fun _ _ _ _ => rfl
      clear hv
      go_wp2_with fail
      refine (delf_any gs cc v (S.th x) W8 HOV.out HSN.out (by have := HLL.out; omega)).mono ?_
      rintro e w9 ⟨v', rfl, ho9, hv9, ht9⟩
      have HVB : Hid (∀ b, v.ownBlock = some b → L1.foot g S1 b ∧ b ≠ g ∧ b ≠ L1.bT) := fun b hb => by
        have e := HV.out
        unfold OLay.val at e
        by_cases hx0 : S1.th x = []
        · rw [if_pos hx0] at e; subst e; cases hb
        · rw [if_neg hx0] at e; rw [← e] at hb
          have hr := HS8.out.row_apart hx0 hb
          exact ⟨Or.inr (Or.inr (Or.inr (Or.inr ⟨x, hx0, hb⟩))), hr.1, hr.2.2.1⟩
      obtain ⟨lu, hlu⟩ : ∃ lu, unseen cc (S.th x) = lu := ⟨_, rfl⟩
      rw [hlu] at ho9
      have HLU : Hid (unseen cc (S.th x) = lu) := hlu
      obtain ⟨q9, c9, hv'⟩ := ho9.len
      subst hv'
      obtain ⟨n9, hn9⟩ : ∃ n9, n9 = lu.length := ⟨_, rfl⟩
      have HN9 : Hid (n9 = lu.length) := hn9
      have HO9 : Hid (OwnD w9 (.slice q9 n9 c9) lu) := by show OwnD _ _ _; rw [hn9]; exact ho9
      rw [← hn9] at hv9 ⊢
      have HV9 : Hid ((Value.slice q9 n9 c9).ownBlock = v.ownBlock) := hv9
      have HT9 : Hid (Turn W8 w9 (fun b => v.ownBlock = some b)) := ht9
      have HG9 : Hid (w9.heap[g]? = W8.heap[g]?) := ht9.block g (HS8.out.lt (Or.inl rfl)) fun e => (HVB.out g e).2.1 rfl
      have hn63 : (n9 : Int) ≤ 1000000 := by
        have h1 : lu.length ≤ (S.th x).length := by rw [← hlu]; exact List.length_filter_le _ _
        have h2 := HLL.out
        omega
      have hc9 : w9.cell? ⟨g, 1, none⟩ = some (.map (some L1.bT)) := (World.cell?_of_block (a := ⟨g, 1, none⟩) HG9.out).trans HS8.out.cells.2.1
      obtain ⟨mT, hmT, hrT⟩ := HS8.out.mT
      have HMT : Hid (GMap w9 9 L1.bT (n + 1) mT) := hmT.same (ht9.block _ hmT.lt fun e => (HVB.out _ e).2.2 rfl)
      have HRT : Hid (∀ y, mT (sk y) = if S1.th y = [] then none else some (L1.rv y)) := hrT
      have HFIN : Hid (∀ w', GMap w' 9 L1.bT (n + 2) (gput mT (sk x) (if lu = [] then none else some (.slice q9 n9 c9))) → w9.grownBy w' (some L1.bT) → SetRet w g L S (n + 2) (S1.addT x lu) w') := fun w' h1 h2 =>
        SetRet.step HF8.out HT8.out (setT_rem HS8.out (Nat.le_succ _) HRT.out x lu _ h1 HO9.out (by rw [HV.out]; exact HT9.out) (by rw [HV.out]; exact HV9.out) h2)
      clear ho9 hv9 ht9 hlu hn9 hmT hrT hlk c1
      by_cases hnil : lu = []
      · have h0 : n9 = 0 := by rw [HN9.out, hnil]; rfl
        subst h0
        have HNIL : Hid (lu = []) := hnil
        clear hnil
        have hmt := HMT.out
        go_wp2_with (at_delete; go_must (refine wpList_drop_gmap rfl _ _ _ rfl Try.underlying62 str_keys hmt (str_key HX.out) rfl rfl ?_); intro w10 hm10 hg10)
        have HR10 : Hid (SetRet w g L S (n + 2) (S1.addT x lu) w10) := HFIN.out w10 (by rw [if_pos HNIL.out]; exact hm10.mono (Nat.le_succ _)) hg10
        clear hm10 hg10 hmt hc9
        go_wp2
        go_ret
        refine ⟨rfl, ?_⟩
        rw [HCC.out, HLU.out, ← HS1.out]
        exact HR10.out
      · have hpos : (0 : Int) < (n9 : Int) := by
          have h1 : 0 < lu.length := List.length_pos_iff.2 hnil
          have h2 := HN9.out
          omega
        have HNIL : Hid (¬ lu = []) := hnil
        clear hnil
        have hmt := HMT.out
        have hnn : n + 1 < maxLen := by have := HNN.out; omega
        go_wp2_with (at_mapUpdate; go_must (refine wpList_store_gmap rfl _ _ _ _ rfl Try.underlying62 str_keys hmt hnn (key := .string x) (c := .slice q9 n9 c9) (str_key HX.out) rfl rfl rfl ?_); intro w11 hm11 hg11)
        have HR11 : Hid (SetRet w g L S (n + 2) (S1.addT x lu) w11) := HFIN.out w11 (by rw [if_neg HNIL.out]; exact hm11) hg11
        clear hm11 hg11 hmt hc9
        go_wp2
        go_ret
        refine ⟨rfl, ?_⟩
        rw [HCC.out, HLU.out, ← HS1.out]
        exact HR11.out
end Go.Proofs.Ytoglhhoniojbaaa

namespace Go.Proofs.Ytoglhhoniojbaaa
open Go.RowKit Go.Lib Go.Maps
set_option linter.unusedVariables false

namespace C
structure Os.Ok (S : Os) : Prop where
  up : ∀ x, Up (S.th x)
  mem : ∀ x d, d ∈ S.th x ↔ S.ad d = some x ∧ hasd (S.go x) d = false
  may : ∀ d x, S.ad d = some x → may d = true
  good : ∀ x, good (S.go x) = true
theorem zero_okO : Os.zero.Ok := ⟨fun x => Up.nil, fun x d => by simp [Os.zero], (fun d x h => by cases h), (fun x => by show good z7 = true; decide)⟩
def tooLong (x : Tx) : Bool := decide (100 < x.size)
/-- What an Add makes. -/
def addO (S : Os) (d : Dt) (x : Tx) : Os :=
  if may d = true ∧ tooLong x = false ∧ S.ad d = none then (if has (S.go x) d.1 d.2 = true then S.addA d x else (S.addA d x).addT x (insL d (S.th x))) else S
def errO (S : Os) (d : Dt) (x : Tx) : Int := if may d = true ∧ tooLong x = false then (match S.ad d with | none => 0 | some y => if y = x then 0 else 5) else 1
/-- What a Remove makes. -/
def remO (S : Os) (x : Tx) (c : V7) : Os := if tooLong x = false ∧ good c = true then (S.addG x (mrg (S.go x) c)).addT x (unseen c (S.th x)) else S
def errR (x : Tx) (c : V7) : Int := if tooLong x = false ∧ good c = true then 0 else 1
theorem unseen_mem (c : V7) (l : List Dt) (d : Dt) : d ∈ unseen c l ↔ d ∈ l ∧ hasd c d = false := by
  unfold unseen
  rw [List.mem_filter]
  show d ∈ l ∧ (!hasd c d) = true ↔ _
  simp
theorem addO_ok {S : Os} (h : S.Ok) (d : Dt) (x : Tx) : (addO S d x).Ok := by
  unfold addO
  split
  · rename_i hc
    obtain ⟨hm, hl, hn⟩ := hc
    have hmay : ∀ e y, (if e = d then some x else S.ad e) = some y → may e = true := fun e y he => by
      by_cases hed : e = d
      · rw [hed]; exact hm
      · rw [if_neg hed] at he; exact h.may e y he
    split
    · rename_i hh
      refine ⟨h.up, fun y e => ?_, hmay, h.good⟩
      show e ∈ S.th y ↔ (if e = d then some x else S.ad e) = some y ∧ hasd (S.go y) e = false
      by_cases hed : e = d
      · rw [if_pos hed, hed, h.mem y d, hn]
        constructor
        · rintro ⟨h1, _⟩; cases h1
        · rintro ⟨h1, h2⟩
          cases h1
          have : hasd (S.go x) d = true := hh
          rw [this] at h2; cases h2
      · rw [if_neg hed]; exact h.mem y e
    · rename_i hh
      refine ⟨fun y => ?_, fun y e => ?_, hmay, h.good⟩
      · show Up (if y = x then insL d (S.th x) else S.th y)
        by_cases hy : y = x
        · rw [if_pos hy]; exact ins_up d _ (h.up x)
        · rw [if_neg hy]; exact h.up y
      · show e ∈ (if y = x then insL d (S.th x) else S.th y) ↔ (if e = d then some x else S.ad e) = some y ∧ hasd (S.go y) e = false
        have hd : hasd (S.go x) d = false := by
          cases hq : hasd (S.go x) d
          · rfl
          · exact absurd hq hh
        by_cases hy : y = x
        · subst hy
          rw [if_pos rfl, ins_mem]
          by_cases hed : e = d
          · subst hed; rw [if_pos rfl]; simp [hd]
          · rw [if_neg hed, h.mem y e]; simp [hed]
        · rw [if_neg hy]
          by_cases hed : e = d
          · rw [if_pos hed, hed, h.mem y d, hn]
            constructor
            · rintro ⟨h1, _⟩; cases h1
            · rintro ⟨h1, _⟩; cases h1; exact absurd rfl hy
          · rw [if_neg hed]; exact h.mem y e
  · exact h
theorem remO_ok {S : Os} (h : S.Ok) (x : Tx) (c : V7) : (remO S x c).Ok := by
  unfold remO
  split
  · rename_i hc
    refine ⟨fun y => ?_, fun y e => ?_, h.may, fun y => ?_⟩
    · show Up (if y = x then unseen c (S.th x) else S.th y)
      by_cases hy : y = x
      · rw [if_pos hy]; exact List.Pairwise.filter _ (h.up x)
      · rw [if_neg hy]; exact h.up y
    · show e ∈ (if y = x then unseen c (S.th x) else S.th y) ↔ S.ad e = some y ∧ hasd (if y = x then mrg (S.go x) c else S.go y) e = false
      by_cases hy : y = x
      · subst hy
        rw [if_pos rfl, if_pos rfl, unseen_mem, h.mem y e, and_assoc]
        have := hasd_mrg (S.go y) c e
        constructor
        · rintro ⟨h1, h2, h3⟩
          refine ⟨h1, ?_⟩
          cases hq : hasd (mrg (S.go y) c) e
          · rfl
          · rcases this.1 hq with hq | hq
            · rw [hq] at h2; cases h2
            · rw [hq] at h3; cases h3
        · rintro ⟨h1, h2⟩
          refine ⟨h1, ?_, ?_⟩
          · cases hq : hasd (S.go y) e
            · rfl
            · rw [this.2 (Or.inl hq)] at h2; cases h2
          · cases hq : hasd c e
            · rfl
            · rw [this.2 (Or.inr hq)] at h2; cases h2
      · rw [if_neg hy, if_neg hy]; exact h.mem y e
    · show good (if y = x then mrg (S.go x) c else S.go y) = true
      by_cases hy : y = x
      · rw [if_pos hy]; exact good_mrg (h.good x) hc.2
      · rw [if_neg hy]; exact h.good y
  · exact h
/-- No text has more than n dots. -/
def Few (S : Os) (n : Nat) : Prop := ∀ x, (S.th x).length ≤ n
theorem addO_few {S : Os} {n : Nat} (h : Few S n) (d : Dt) (x : Tx) : Few (addO S d x) (n + 1) := fun y => by
  unfold addO
  split
  · split
    · exact Nat.le_succ_of_le (h y)
    · show (if y = x then insL d (S.th x) else S.th y).length ≤ _
      by_cases hy : y = x
      · rw [if_pos hy]
        have h1 := (ins_len d (S.th x)).2
        have h2 := h x
        omega
      · rw [if_neg hy]; exact Nat.le_succ_of_le (h y)
  · exact Nat.le_succ_of_le (h y)
theorem remO_few {S : Os} {n : Nat} (h : Few S n) (x : Tx) (c : V7) : Few (remO S x c) n := fun y => by
  unfold remO
  split
  · show (if y = x then unseen c (S.th x) else S.th y).length ≤ _
    by_cases hy : y = x
    · rw [if_pos hy]; exact Nat.le_trans (List.length_filter_le _ _) (h x)
    · rw [if_neg hy]; exact h y
  · exact h y
end C
theorem oadd_any (w : World) (g n : Nat) (L : OLay) (S : C.Os) (x : Tx) (d : C.Dt) (h : SetAt w g n L S) (hok : S.Ok) (hn : n + 2 < maxLen) (hx : x.size ≤ maxLen) (hl : (S.th x).length ≤ 100000) :
    Calls Try.prog 12 #[.pointer (some ⟨g, 0, none⟩), .agg #[.int .i64 d.1, .int .i64 d.2], .string x] w fun e w' => e = .returned (.int .i64 (C.errO S d x)) ∧ SetRet w g L S (n + 2) (C.addO S d x) w' := by
  obtain ⟨d1, d2⟩ := d
  unfold C.errO C.addO
  by_cases hc : C.may (d1, d2) = true ∧ C.tooLong x = false
  · obtain ⟨hm, hlg⟩ := hc
    have hx1 : x.size ≤ 100 := by have := of_decide_eq_false hlg; omega
    cases had : S.ad (d1, d2) with
    | none =>
      simp only [hm, hlg, and_self, if_true]
      exact oadd_new w g n L S x d1 d2 h hn hm hx1 had (hok.up x) (fun hi => by have := ((hok.mem x _).1 hi).1; rw [had] at this; cases this) hl
    | some y =>
      simp only [hm, hlg, and_self, if_true]
      refine (oadd_there w g n L S x y d1 d2 h hm hx1 had _ rfl).mono ?_
      rintro e w' ⟨rfl, hb⟩
      exact ⟨rfl, by simpa using SetRet.same h (Nat.le_add_right n 2) hb⟩
  · rw [if_neg hc]
    have hc2 : ¬ (C.may (d1, d2) = true ∧ C.tooLong x = false ∧ S.ad (d1, d2) = none) := fun k => hc ⟨k.1, k.2.1⟩
    rw [if_neg hc2]
    refine (oadd_bad w g x d1 d2 hx ?_).mono ?_
    · cases hm : C.may (d1, d2) with
      | false => exact Or.inl rfl
      | true =>
        right
        cases hq : C.tooLong x with
        | false => exact absurd ⟨hm, hq⟩ hc
        | true => exact of_decide_eq_true hq
    · rintro e w' ⟨rfl, hb⟩
      exact ⟨rfl, SetRet.same h (Nat.le_add_right n 2) hb⟩
theorem orem_any (w : World) (g n : Nat) (L : OLay) (S : C.Os) (x : Tx) (c : V7) (h : SetAt w g n L S) (hok : S.Ok) (hn : n + 2 < maxLen) (hx : x.size ≤ maxLen) (hl : (S.th x).length ≤ 100000) :
    Calls Try.prog 11 #[.pointer (some ⟨g, 0, none⟩), .string x, c.v] w fun e w' => e = .returned (.int .i64 (C.errR x c)) ∧ SetRet w g L S (n + 2) (C.remO S x c) w' := by
  unfold C.errR C.remO
  by_cases hc : C.tooLong x = false ∧ C.good c = true
  · rw [if_pos hc, if_pos hc]
    have hx1 : x.size ≤ 100 := by have := of_decide_eq_false hc.1; omega
    exact orem_ok w g n L S x c h hn hx1 hc.2 (hok.good x) hl
  · rw [if_neg hc, if_neg hc]
    refine (orem_bad w g x c hx ?_).mono ?_
    · cases hq : C.tooLong x with
      | true => exact Or.inl (of_decide_eq_true hq)
      | false =>
        right
        cases hg : C.good c with
        | false => rfl
        | true => exact absurd ⟨hq, hg⟩ hc
    · rintro e w' ⟨rfl, hb⟩
      exact ⟨rfl, SetRet.same h (Nat.le_add_right n 2) hb⟩
end Go.Proofs.Ytoglhhoniojbaaa

namespace Go.Proofs.Ytoglhhoniojbaaa
open Go.RowKit Go.Lib Go.Maps
set_option linter.unusedVariables false

structure OObj where
  g : Nat
  n : Nat
  L : OLay
  S : C.Os
structure OObjs (w0 w : World) (Q : List OObj) : Prop where
  at_ : ∀ o ∈ Q, SetAt w o.g o.n o.L o.S ∧ o.S.Ok ∧ ∀ b, o.L.foot o.g o.S b → w0.heap.size ≤ b
  apart : Q.Pairwise fun o p => ∀ b, o.L.foot o.g o.S b → ¬ p.L.foot p.g p.S b
  bel : Below w0.heap.size w0 w
theorem OObjs.nil {w0 w : World} (h : Below w0.heap.size w0 w) : OObjs w0 w [] := ⟨fun o h => (by cases h), List.Pairwise.nil, h⟩
theorem OObjs.below {w0 w w' : World} {Q : List OObj} (h : OObjs w0 w Q) (hb : Below w.heap.size w w') : OObjs w0 w' Q :=
  ⟨fun o ho => ⟨(h.at_ o ho).1.below hb, (h.at_ o ho).2⟩, h.apart, bt h.bel hb⟩
theorem OObjs.get {w0 w : World} {Q1 Q2 : List OObj} {o : OObj} (h : OObjs w0 w (Q1 ++ o :: Q2)) : SetAt w o.g o.n o.L o.S ∧ o.S.Ok := ⟨(h.at_ o (by simp)).1, (h.at_ o (by simp)).2.1⟩
theorem OObjs.step {w0 w w' : World} {Q1 Q2 : List OObj} {g n n' : Nat} {L : OLay} {S S' : C.Os} (h : OObjs w0 w (Q1 ++ ⟨g, n, L, S⟩ :: Q2)) (hs : S'.Ok) (hr : SetRet w g L S n' S' w') : ∃ L', OObjs w0 w' (Q1 ++ ⟨g, n', L', S'⟩ :: Q2) := by
  obtain ⟨⟨L', h1, hge⟩, ht⟩ := hr
  have hx := h.at_ ⟨g, n, L, S⟩ (by simp)
  obtain ⟨p1, p2, p3⟩ := List.pairwise_append.1 h.apart
  obtain ⟨p4, p5⟩ := List.pairwise_cons.1 p2
  have hwb := h.bel.size
  have old : ∀ o ∈ Q1 ++ Q2, SetAt w o.g o.n o.L o.S ∧ o.S.Ok ∧ (∀ b, o.L.foot o.g o.S b → w0.heap.size ≤ b) ∧ ∀ b, o.L.foot o.g o.S b → ¬ L.foot g S b := fun o ho => by
    rcases List.mem_append.1 ho with ho | ho
    · have := h.at_ o (by simp [ho])
      exact ⟨this.1, this.2.1, this.2.2, fun b hb => p3 o ho ⟨g, n, L, S⟩ (by simp) b hb⟩
    · have := h.at_ o (by simp [ho])
      exact ⟨this.1, this.2.1, this.2.2, fun b hb hb' => p4 o ho b hb' hb⟩
  have new : ∀ o ∈ Q1 ++ Q2, ∀ b, o.L.foot o.g o.S b → ¬ L'.foot g S' b := fun o ho b hb hb' => by
    obtain ⟨a1, _, _, a4⟩ := old o ho
    rcases hge b hb' with k | k
    · exact a4 b hb k
    · have := a1.lt hb; omega
  refine ⟨L', fun o ho => ?_, ?_, ?_⟩
  · have : o = ⟨g, n', L', S'⟩ ∨ o ∈ Q1 ++ Q2 := by
      simp only [List.mem_append, List.mem_cons] at ho ⊢
      rcases ho with ho | ho | ho
      · exact Or.inr (Or.inl ho)
      · exact Or.inl ho
      · exact Or.inr (Or.inr ho)
    rcases this with rfl | ho'
    · refine ⟨h1, hs, fun b hb => ?_⟩
      rcases hge b hb with k | k
      · exact hx.2.2 b k
      · omega
    · obtain ⟨a1, a2, a3, a4⟩ := old o ho'
      exact ⟨a1.same fun b hb => ht.block b (a1.lt hb) (a4 b hb), a2, a3⟩
  · refine List.pairwise_append.2 ⟨p1, List.pairwise_cons.2 ⟨fun o ho b hb hb' => new o (by simp [ho]) b hb' hb, p5⟩, fun o ho p hp b hb hb' => ?_⟩
    rcases List.mem_cons.1 hp with rfl | hp
    · exact new o (by simp [ho]) b hb hb'
    · exact p3 o ho p (by simp [hp]) b hb hb'
  · exact h.bel.trans (ht.below hwb hx.2.2)
theorem OObjs.more {w0 w w' : World} {Q : List OObj} {o : OObj} (h : OObjs w0 w Q) (hb : Below w.heap.size w w') (ho : SetAt w' o.g o.n o.L o.S) (hok : o.S.Ok) (hf : ∀ b, o.L.foot o.g o.S b → w.heap.size ≤ b) : OObjs w0 w' (Q ++ [o]) := by
  have h' := h.below hb
  have hsz := h.bel.size
  refine ⟨fun p hp => ?_, List.pairwise_append.2 ⟨h.apart, List.pairwise_singleton _ _, fun p hp q hq b hbp hbq => ?_⟩, h'.bel⟩
  · rcases List.mem_append.1 hp with hp | hp
    · exact h'.at_ p hp
    · obtain rfl : p = o := by simpa using hp
      exact ⟨ho, hok, fun b hb => by have := hf b hb; omega⟩
  · obtain rfl : q = o := by simpa using hq
    have := hf b hbq
    have := (h.at_ p hp).1.lt hbp
    omega
def lay0 (b : Nat) : OLay := ⟨b, b + 1, b + 2, fun _ => .slice none 0 0⟩
set_option maxRecDepth 100000 in
set_option maxHeartbeats 2000000 in
theorem snew_any (w : World) : Calls Try.prog 10 #[] w fun e w' => e = .returned (.pointer (some ⟨w.heap.size + 3, 0, none⟩)) ∧ SetAt w' (w.heap.size + 3) 0 (lay0 w.heap.size) C.Os.zero ∧ Below w.heap.size w w' := by
  have h1 := GMap.made w 31
  have h2 := GMap.made (w.alloc (.map #[] 0)) 9
  have h3 := GMap.made ((w.alloc (.map #[] 0)).alloc (.map #[] 0)) 9
  have hb1 := below_new w (.map #[] 0)
  have hb2 := below_new (w.alloc (.map #[] 0)) (.map #[] 0)
  have hb3 := below_new ((w.alloc (.map #[] 0)).alloc (.map #[] 0)) (.map #[] 0)
  have hb4 := below_new (((w.alloc (.map #[] 0)).alloc (.map #[] 0)).alloc (.map #[] 0)) (.cells #[.map (some w.heap.size), .map (some (w.heap.size + 1)), .map (some (w.heap.size + 1 + 1))] 65)
  have hq := heap_alloc_new (((w.alloc (.map #[] 0)).alloc (.map #[] 0)).alloc (.map #[] 0)) (.cells #[.map (some w.heap.size), .map (some (w.heap.size + 1)), .map (some (w.heap.size + 1 + 1))] 65)
  simp only [World.size_alloc] at h2 h3 hq
  have H1 : Hid _ := ((h1.below hb2).below hb3).below hb4
  have H2 : Hid _ := (h2.below hb3).below hb4
  have H3 : Hid _ := h3.below hb4
  have HB : Hid _ := bt hb1 (bt hb2 (bt hb3 hb4))
  have HQ : Hid _ := hq
  clear h1 h2 h3 hb1 hb2 hb3 hb4 hq
  go_enter Try.func10, Try.ntmps10
  have hmm := @run_makeMap Try.prog
  go_wp2
  go_ret
  exact ⟨rfl, ⟨HQ.out, ⟨_, H1.out, fun d _ => rfl⟩, ⟨_, H2.out, fun x => rfl⟩, ⟨_, H3.out, fun x => (if_pos (show C.same C.z7 C.z7 = true from by decide)).symm⟩, fun x hx => absurd rfl hx, fun x y b hx => absurd rfl hx, by refine ⟨?_, ?_, ?_⟩ <;> simp [lay0], ⟨_, H1.out, fun kl v e => by cases e⟩⟩, HB.out⟩
theorem s_new {w0 w : World} {Q : List OObj} (h : OObjs w0 w Q) : Calls Try.prog 10 #[] w fun e w' => ∃ g L, e = .returned (.pointer (some ⟨g, 0, none⟩)) ∧ OObjs w0 w' (Q ++ [⟨g, 0, L, C.Os.zero⟩]) ∧ Below w.heap.size w w' :=
  (snew_any w).mono fun e w' ⟨he, hs, hb⟩ => ⟨_, lay0 w.heap.size, he, h.more (o := ⟨_, 0, lay0 w.heap.size, C.Os.zero⟩) hb hs C.zero_okO (fun b hf => by
    rcases hf with rfl | rfl | rfl | rfl | ⟨x, hx, _⟩
    · exact Nat.le_add_right _ _
    · exact Nat.le_refl _
    · exact Nat.le_add_right _ _
    · exact Nat.le_add_right _ _
    · exact absurd rfl hx), hb⟩
theorem s_add (Q1 Q2 : List OObj) {w0 w : World} (g n : Nat) (L : OLay) (S S' : C.Os) (x : Tx) (d1 d2 er : Int) (h : OObjs w0 w (Q1 ++ ⟨g, n, L, S⟩ :: Q2)) (hn : n + 2 < maxLen) (hx : x.size ≤ maxLen) (hl : C.Few S 100000) (he : C.errO S (d1, d2) x = er) (hs : C.addO S (d1, d2) x = S') :
    Calls Try.prog 12 #[.pointer (some ⟨g, 0, none⟩), .agg #[.int .i64 d1, .int .i64 d2], .string x] w fun e w' => e = .returned (.int .i64 er) ∧ ∃ L', OObjs w0 w' (Q1 ++ ⟨g, n + 2, L', S'⟩ :: Q2) := by
  subst he hs
  obtain ⟨h1, h2⟩ := h.get
  refine (oadd_any w g n L S x (d1, d2) h1 h2 hn hx (hl x)).mono ?_
  rintro e w' ⟨rfl, hr⟩
  exact ⟨rfl, h.step (C.addO_ok h2 _ _) hr⟩
theorem s_rem (Q1 Q2 : List OObj) {w0 w : World} (g n : Nat) (L : OLay) (S S' : C.Os) (x : Tx) (c : V7) (er : Int) (h : OObjs w0 w (Q1 ++ ⟨g, n, L, S⟩ :: Q2)) (hn : n + 2 < maxLen) (hx : x.size ≤ maxLen) (hl : C.Few S 100000) (he : C.errR x c = er) (hs : C.remO S x c = S') :
    Calls Try.prog 11 #[.pointer (some ⟨g, 0, none⟩), .string x, c.v] w fun e w' => e = .returned (.int .i64 er) ∧ ∃ L', OObjs w0 w' (Q1 ++ ⟨g, n + 2, L', S'⟩ :: Q2) := by
  subst he hs
  obtain ⟨h1, h2⟩ := h.get
  refine (orem_any w g n L S x c h1 h2 hn hx (hl x)).mono ?_
  rintro e w' ⟨rfl, hr⟩
  exact ⟨rfl, h.step (C.remO_ok h2 _ _) hr⟩
theorem s_has (Q1 Q2 : List OObj) {w0 w : World} (g n : Nat) (L : OLay) (S : C.Os) (x : Tx) (z : Bool) (h : OObjs w0 w (Q1 ++ ⟨g, n, L, S⟩ :: Q2)) (hx : x.size ≤ maxLen) (hl : C.Few S 100000) (hz : decide (0 < (S.th x).length) = z) :
    Calls Try.prog 13 #[.pointer (some ⟨g, 0, none⟩), .string x] w fun e w' => e = .returned (.bool z) ∧ w' = w :=
  has_of w g n L S x h.get.1 hx (by have := hl x; omega) z hz
theorem s_dots (Q1 Q2 : List OObj) {w0 w : World} (g n : Nat) (L : OLay) (S : C.Os) (x : Tx) (h : OObjs w0 w (Q1 ++ ⟨g, n, L, S⟩ :: Q2)) (hx : x.size ≤ maxLen) (hl : C.Few S 100000) :
    Calls Try.prog 22 #[.pointer (some ⟨g, 0, none⟩), .string x] w fun e w' => (∃ v', e = .returned v' ∧ OwnD w' v' (S.th x) ∧ ∀ b, v'.ownBlock = some b → w.heap.size ≤ b) ∧ Below w.heap.size w w' :=
  dots_of w g n L S x h.get.1 hx (by have := hl x; omega)
end Go.Proofs.Ytoglhhoniojbaaa
