/-
  slices.Compact at dots: the walk.
-/
import Derived.Test.YtadafllhionhhaaTComp
namespace Go.Proofs.Ytadafllhionhhaa
open Go.RowKit Go.Lib
set_option linter.unusedVariables false

theorem cell_eq {w : World} {g a b : Nat} {v : Value} (h : w.cell? ⟨g, a, none⟩ = some v) (e : b = a) : w.cell? ⟨g, b, none⟩ = some v := by rw [e]; exact h
theorem ownD_free {w : World} {g n cap : Nat} {l : List C.Dt} (h : OwnD w (.slice (some ⟨g, 0, none⟩) n cap) l) (k : Nat) : w.frozen? ⟨g, k, none⟩ = false := by
  obtain ⟨cur, hc⟩ := row_type h rfl
  simp [World.frozen?, hc]
theorem turn_own {w w' : World} {g n cap : Nat} (h : Below w.heap.size w w') : Turn w w' (fun b => b = g) := Turn.of_below h
set_option maxRecDepth 100000 in
set_option maxHeartbeats 8000000 in
theorem compact_some (g cap : Nat) (l : List C.Dt) (w : World) (h : OwnD w (.slice (some ⟨g, 0, none⟩) l.length cap) l) (hl : l.length ≤ 1000000) (h2 : 2 ≤ l.length) :
    Calls Try.prog 53 #[.slice (some ⟨g, 0, none⟩) l.length cap] w fun e w' => ∃ m, e = .returned (.slice (some ⟨g, 0, none⟩) m cap) ∧ m = (C.dd l).length ∧ OwnD w' (.slice (some ⟨g, 0, none⟩) m cap) (C.dd l) ∧ Turn w w' (fun b => b = g) := by
  obtain ⟨n, hn⟩ : ∃ n, n = l.length := ⟨_, rfl⟩
  have HN : Hid (n = l.length) := hn
  have HO : Hid (OwnD w (.slice (some ⟨g, 0, none⟩) n cap) l) := by show OwnD _ _ _; rw [hn]; exact h
  obtain ⟨hcn, hcm⟩ : n ≤ cap ∧ cap ≤ maxLen := by
    rcases h.shape with ⟨h1, _⟩ | ⟨g', cap', cur, hv, hg, hnn, hm, hs, ht⟩
    · cases h1
    · cases hv; exact ⟨by omega, hm⟩
  have hcap63 : cap ≤ 9223372036854775807 := Nat.le_trans hcm (by decide)
  have HCM : Hid (cap ≤ maxLen) := hcm
  rw [← hn] at hl h2 ⊢
  clear h hn hcm
  go_enter Try.func53, Try.ntmps53
  go_wp2_with fail
  go_loopw [3] (fun s3 wr => ∃ j : Nat, s3 = .int .i64 ((j : Int) + 1) ∧ j + 1 ≤ n ∧ Hid (C.dd (l.take (j + 1)) = l.take (j + 1)) ∧ Hid (Below w.heap.size w wr)) (fun s3 _ => n - (intOf s3).toNat)
  case atStart => exact ⟨0, rfl, by omega, C.dd_one _ (by simp; omega), Below.refl _ _⟩
  case round =>
    obtain ⟨j, rfl, hjn, HK, HB⟩ := hrel
    by_cases hlt : j + 1 < n
    · obtain ⟨x, hx⟩ : ∃ x, l[j + 1]? = some x := ⟨_, List.getElem?_eq_getElem (by have := HN.out; omega)⟩
      obtain ⟨y, hy⟩ : ∃ y, l[j]? = some y := ⟨_, List.getElem?_eq_getElem (by have := HN.out; omega)⟩
      have hne : Nonempty (NewW wr) := ⟨NewW.start wr⟩
      have a0 : ∀ m : NewW wr, m.v.cell? ⟨g, (j + 1) * 2, none⟩ = some (.int .i64 x.1) := fun m => ((HO.out.below (bt HB.out m.h)).cell (j + 1) x hx).1
      have a1 : ∀ m : NewW wr, m.v.cell? ⟨g, (j + 1) * 2 + 1, none⟩ = some (.int .i64 x.2) := fun m => ((HO.out.below (bt HB.out m.h)).cell (j + 1) x hx).2
      have b0 : ∀ m : NewW wr, m.v.cell? ⟨g, j * 2, none⟩ = some (.int .i64 y.1) := fun m => ((HO.out.below (bt HB.out m.h)).cell j y hy).1
      have b1 : ∀ m : NewW wr, m.v.cell? ⟨g, j * 2 + 1, none⟩ = some (.int .i64 y.2) := fun m => ((HO.out.below (bt HB.out m.h)).cell j y hy).2
      obtain ⟨qb, hqb⟩ : ∃ qb, qb = (x.1 == y.1 && x.2 == y.2) := ⟨_, rfl⟩
      have kq : ∀ W, (Op.equalIn 10000 29 (.agg #[.int .i64 x.1, .int .i64 x.2]) (.agg #[.int .i64 y.1, .int .i64 y.2])).run Try.prog W = .ok qb W := fun W => by rw [hqb]; exact eq2_dot x.1 x.2 y.1 y.2 W
      have HQ : Hid (qb = true ↔ x = y) := by
        show _ ↔ _
        rw [hqb]; simp [Prod.ext_iff]
      have HT : Hid (C.dd (l.take (j + 1 + 1)) = if x = y then C.dd (l.take (j + 1)) else C.dd (l.take (j + 1)) ++ [x]) := C.dd_take hx (by omega) hy
      have HX : Hid (l[j + 1]? = some x) := hx
      clear hqb hx hy
      cases qb with
      | false =>
        go_wp2_with fail
        refine wp_region_new (by kernel_rfl) (by kernel_rfl) ?_
        repeat (go_big_quiet_step (fail))
        refine wpQuiet_nil ?_
        rintro _ ⟨w2, rfl⟩
        go_wp2
        go_roundw
        case rel =>
          refine ⟨j + 1, by go_num, by omega, ?_, bt HB.out w2.h⟩
          show _ = _
          rw [HT.out, if_neg (fun e => by have := HQ.out.2 e; cases this), HK.out, ← C.take_snoc HX.out]
        case measure => simp [intOf]; omega
      | true =>
        have hc1 : ¬ (cap = j + 1) := by omega
        have hjl : j + 1 ≤ n := by omega
        have hjc : j + 1 ≤ cap := by omega
        go_wp2_with fail
        refine wp_region_new (by kernel_rfl) (by kernel_rfl) ?_
        repeat (go_big_quiet_step (fail))
        refine wpQuiet_nil ?_
        rintro _ ⟨w2, rfl⟩
        have HB2 : Hid (Below w.heap.size w w2.v) := bt HB.out w2.h
        have HT2 : Hid (C.dd (l.take (j + 1 + 1)) = l.take (j + 1)) := by show _ = _; rw [HT.out, if_pos (HQ.out.1 (by trivial)), HK.out]
        clear a0 a1 b0 b1 kq HT HX hne
        go_wp2_with fail
        go_loopw [3, 5] (fun s3 s5 wr => ∃ (k i : Nat) (M : List C.Dt), s3 = .int .i64 k ∧ s5 = .int .i64 ((i : Int) + 1) ∧ j + 1 + i + 1 ≤ n ∧ k ≤ j + 1 + i ∧ Hid (n = M.length) ∧ Hid (M.take k = C.dd (l.take (j + 1 + i + 1))) ∧ Hid (∀ t, j + 1 + i ≤ t → M[t]? = l[t]?) ∧ Hid (OwnD wr (.slice (some ⟨g, 0, none⟩) n cap) M) ∧ Hid (Turn w wr (fun b => b = g))) (fun _ s5 _ => n - (intOf s5).toNat)
        case atStart => exact ⟨j + 1, 0, l, by go_num, rfl, by omega, by omega, HN.out, by show _ = _; rw [HT2.out], fun t _ => rfl, HO.out.below HB2.out, Turn.of_below HB2.out⟩
        case round =>
          obtain ⟨k, i, M, rfl, rfl, hin, hki, HML, HMT, HMR, HOM, HTM⟩ := hrel
          clear HB2 HT2 HK
          have hkl : k ≤ n := by omega
          have hkc : k ≤ cap := by omega
          have hck : ¬ (cap = k) := by omega
          by_cases hlt2 : i + 1 < n - (j + 1)
          · obtain ⟨x', hx⟩ : ∃ x, M[j + 1 + (i + 1)]? = some x := ⟨_, List.getElem?_eq_getElem (by have := HML.out; omega)⟩
            obtain ⟨y', hy⟩ : ∃ y, M[j + 1 + i]? = some y := ⟨_, List.getElem?_eq_getElem (by have := HML.out; omega)⟩
            have hlx : l[j + 1 + i + 1]? = some x' := by rw [← HMR.out _ (by omega)]; exact hx
            have hly : l[j + 1 + i + 1 - 1]? = some y' := by rw [show j + 1 + i + 1 - 1 = j + 1 + i by omega, ← HMR.out _ (by omega)]; exact hy
            have HT3 : Hid (C.dd (l.take (j + 1 + i + 1 + 1)) = if x' = y' then C.dd (l.take (j + 1 + i + 1)) else C.dd (l.take (j + 1 + i + 1)) ++ [x']) := C.dd_take hlx (by omega) hly
            have hne : Nonempty (NewW wr) := ⟨NewW.start wr⟩
            have a0 : ∀ m : NewW wr, m.v.cell? ⟨g, (j + 1) * 2 + (i + 1) * 2, none⟩ = some (.int .i64 x'.1) := fun m => cell_eq ((HOM.out.below m.h).cell (j + 1 + (i + 1)) x' hx).1 (by omega)
            have a1 : ∀ m : NewW wr, m.v.cell? ⟨g, (j + 1) * 2 + (i + 1) * 2 + 1, none⟩ = some (.int .i64 x'.2) := fun m => cell_eq ((HOM.out.below m.h).cell (j + 1 + (i + 1)) x' hx).2 (by omega)
            have b0 : ∀ m : NewW wr, m.v.cell? ⟨g, (j + 1) * 2 + i * 2, none⟩ = some (.int .i64 y'.1) := fun m => cell_eq ((HOM.out.below m.h).cell (j + 1 + i) y' hy).1 (by omega)
            have b1 : ∀ m : NewW wr, m.v.cell? ⟨g, (j + 1) * 2 + i * 2 + 1, none⟩ = some (.int .i64 y'.2) := fun m => cell_eq ((HOM.out.below m.h).cell (j + 1 + i) y' hy).2 (by omega)
            obtain ⟨qb, hqb⟩ : ∃ qb, qb = (x'.1 == y'.1 && x'.2 == y'.2) := ⟨_, rfl⟩
            have kq : ∀ W, (Op.equalIn 10000 29 (.agg #[.int .i64 x'.1, .int .i64 x'.2]) (.agg #[.int .i64 y'.1, .int .i64 y'.2])).run Try.prog W = .ok qb W := fun W => by rw [hqb]; exact eq2_dot x'.1 x'.2 y'.1 y'.2 W
            have HQ3 : Hid (qb = true ↔ x' = y') := by
              show _ ↔ _
              rw [hqb]; simp [Prod.ext_iff]
            have HX3 : Hid (M[j + 1 + (i + 1)]? = some x') := hx
            clear hqb hx hy hlx hly
            cases qb with
            | true =>
              go_wp2_with fail
              refine wp_region_new (by kernel_rfl) (by kernel_rfl) ?_
              repeat (go_big_quiet_step (fail))
              refine wpQuiet_nil ?_
              rintro _ ⟨w3, rfl⟩
              go_wp2
              go_roundw
              case rel =>
                refine ⟨k, i + 1, M, rfl, by go_num, by omega, by omega, HML.out, ?_, fun t ht => HMR.out t (by omega), HOM.out.below w3.h, HTM.out.trans (Turn.of_below w3.h) fun x hx => Or.inl hx⟩
                show _ = _
                rw [HMT.out, show j + 1 + (i + 1) + 1 = j + 1 + i + 1 + 1 by omega, HT3.out, if_pos (HQ3.out.1 (by trivial))]
              case measure => simp [intOf]; omega
            | false =>
              go_wp2_with fail
              refine wp_region_new (by kernel_rfl) (by kernel_rfl) ?_
              repeat (go_big_quiet_step (fail))
              refine wpQuiet_nil ?_
              rintro _ ⟨w3, rfl⟩
              have d0 := a0 w3
              have d1 := a1 w3
              have HOM3 : Hid (OwnD w3.v (.slice (some ⟨g, 0, none⟩) n cap) M) := HOM.out.below w3.h
              obtain ⟨z, hz⟩ : ∃ z, M[k]? = some z := ⟨_, List.getElem?_eq_getElem (by have := HML.out; omega)⟩
              obtain ⟨e0, e1⟩ := HOM3.out.cell k z hz
              have f0 := ownD_free HOM3.out (k * 2)
              have f1 := ownD_free HOM3.out (k * 2 + 1)
              clear a0 a1 b0 b1 kq hne hz
              go_wp2
              go_roundw
              case rel =>
                refine ⟨k + 1, i + 1, M.set k x', by go_num, by go_num, by omega, by omega, by show _ = _; rw [List.length_set]; exact HML.out, ?_, fun t ht => ?_, OwnD.set HOM3.out HML.out k x', ?_⟩
                · show _ = _
                  rw [show j + 1 + (i + 1) + 1 = j + 1 + i + 1 + 1 by omega, HT3.out, if_neg (fun e => by have := HQ3.out.2 e; cases this), ← HMT.out]
                  have hk : (M.set k x')[k]? = some x' := by rw [List.getElem?_set_self (by have := HML.out; omega)]
                  rw [C.take_snoc hk, List.take_set_of_le (Nat.le_refl _)]
                · rw [List.getElem?_set_ne (by omega)]; exact HMR.out t (by omega)
                · exact ((HTM.out.trans (Turn.of_below w3.h) fun x hx => Or.inl hx).setCell rfl _).setCell rfl _
              case measure => simp [intOf]; omega
          · have hie : j + 1 + i + 1 = n := by omega
            have HE : Hid (M.take k = C.dd l) := by show _ = _; rw [HMT.out, List.take_of_length_le (by have := HN.out; omega)]
            have hkn : k < n := by omega
            have hML := HML.out
            rcases HOM.out.shape with ⟨h1, _⟩ | ⟨g', cap', cur, hv, hg, hnn, hm, hs, ht⟩
            · cases h1
            cases hv
            obtain ⟨X, hX⟩ : ∃ X, X = over cur (k * 2) (rowD (List.replicate (M.length - k) ((0, 0) : C.Dt))) := ⟨_, rfl⟩
            have lz : (rowD (List.replicate (M.length - k) ((0, 0) : C.Dt))).length = (M.length - k) * 2 := by rw [rowD_length, List.length_replicate]
            have hr : ∀ ty c', (Builtin.clear_ #[37] ty #[.slice (some ⟨g, k * 2, none⟩) (M.length - k) c']).run Try.prog wr = .ok (.tuple #[]) (wr.setRow g X.toArray) := fun ty c' => by
              rw [hX]
              exact run_clear_k u_dots zv_dot ty hg (by rw [zero_dots]) (rowD_one _) (by omega) (by omega)
            have hgX : (wr.setRow g X.toArray).heap[g]? = some (.cells X.toArray 29) := set_over hg
            have htk : X.take (k * 2) = rowD (M.take k) := by
              rw [hX, over, List.append_assoc, List.take_append_of_le_length (by rw [List.length_take]; omega), List.take_of_length_le (by rw [List.length_take]; omega), ← rowD_take M k (by omega), ← ht, List.take_take]
              congr 1; omega
            have lk : (M.take k).length = k := by rw [List.length_take]; omega
            have HF : Hid (OwnD (wr.setRow g X.toArray) (.slice (some ⟨g, 0, none⟩) k cap) (C.dd l)) := by
              have := OwnD.make (l := M.take k) (cap := cap) hgX (by omega) hm (by rw [hX, over_length _ _ _ (by omega)]; exact hs) (by rw [lk]; exact htk)
              rw [lk, HE.out] at this
              exact this
            have HLK : Hid (k = (C.dd l).length) := by show k = _; rw [← HE.out]; exact lk.symm
            have HTF : Hid (Turn w (wr.setRow g X.toArray) (fun b => b = g)) := HTM.out.trans (Turn.of_grown (row_grown wr g _) fun b hb => by cases hb; rfl) fun x hx => Or.inl hx
            have HR : Hid _ := hr
            clear hX lz hgX htk lk hg hs ht hnn hm hr HOM HMR HMT
            generalize M.length = nn at *
            have hr := HR.out
            go_wp2
            go_ret
            exact ⟨k, rfl, HLK.out, HF.out, HTF.out⟩
    · obtain rfl : n = j + 1 := by omega
      have hE : C.dd l = l := by
        have := HK.out
        rwa [List.take_of_length_le (by have := HN.out; omega)] at this
      have HE : Hid (C.dd l = l) := hE
      clear hE
      go_wp2
      go_ret
      exact ⟨_, rfl, by rw [HE.out]; exact HN.out, by rw [HE.out]; exact HO.out.below HB.out, Turn.of_below HB.out⟩
end Go.Proofs.Ytadafllhionhhaa
