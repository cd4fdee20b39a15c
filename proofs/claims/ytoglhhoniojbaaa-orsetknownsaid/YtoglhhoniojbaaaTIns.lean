/-
  slices.Insert of one dot.
-/
import Derived.Test.YtoglhhoniojbaaaTDel
import Derived.Lib.Overlaps
import Derived.Laws.Externs
namespace Go.Proofs.Ytoglhhoniojbaaa
open Go.RowKit Go.Lib
set_option linter.unusedVariables false

theorem two_src {w : World} {vb : Nat} {d1 d2 : Int} {t : TypeId} {mk : Nat × Nat} {c : Nat} (h : w.heap[vb]? = some (.cells #[.int .i64 d1, .int .i64 d2] t mk)) : SrcAt w 2 (.slice (some ⟨vb, 0, none⟩) 1 c) 1 (rowD [(d1, d2)]) :=
  ⟨some ⟨vb, 0, none⟩, c, rfl, rfl, (fun e => by cases e), fun a ha j u hj => by
    cases ha
    rw [WideShapes.add_plain]
    have hj2 : j < 2 := (List.getElem?_eq_some_iff.1 hj).1
    have : j = 0 ∨ j = 1 := by omega
    rcases this with rfl | rfl <;> simpa [World.cell?, h, rowD, encD] using hj⟩
theorem two_mem {d1 d2 : Int} : ∀ u ∈ rowD [(d1, d2)], u.oneCell' = true := rowD_one _
/-- At the end. -/
theorem insert_end (v : Value) (l : List C.Dt) (d1 d2 : Int) (vb : Nat) (w : World) (h : OwnD w v l) (hvb : w.heap[vb]? = some (.cells #[.int .i64 d1, .int .i64 d2] 31)) (hl : l.length ≤ 1000000) :
    Calls Try.prog 38 #[v, .int .i64 (l.length : Nat), .slice (some ⟨vb, 0, none⟩) 1 1] w fun e w' => ∃ v', e = .returned v' ∧ OwnD w' v' (l ++ [(d1, d2)]) ∧ w.grownBy w' v.ownBlock ∧ (v'.ownBlock = v.ownBlock ∨ v'.ownBlock = some w.heap.size) := by
  have HS : Hid _ := two_src (c := 1) hvb
  have HO : Hid (OwnD w v l) := h
  rcases h.shape with ⟨rfl, rfl⟩ | ⟨g, cap, cur, rfl, _, hn, hm, _⟩
  · clear h hvb
    go_enter Try.func38, Try.ntmps38
    go_wp2_with (at_builtin; go_must (refine wpList_append_src u_dots info_dot rfl (by decide) rfl _ _ rfl rfl HO.out rfl HS.out two_mem (by simp only [List.length_nil]; unfold maxLen; omega) (by simp only [List.length_nil]; omega) ?_); intro v2 w2 ho2 hg2 hb2)
    go_ret
    exact ⟨v2, rfl, by simpa [OwnD, rowD, encD] using ho2, hg2, hb2⟩
  · clear h hvb
    have hcap63 : cap ≤ 9223372036854775807 := Nat.le_trans hm (by decide)
    generalize hN : l.length = n at *
    have HN : Hid (l.length = n) := hN
    clear hN hm
    by_cases hcn : cap = n
    · subst hcn
      go_enter Try.func38, Try.ntmps38
      go_wp2_with (at_builtin; go_must (refine wpList_append_src u_dots info_dot rfl (by decide) rfl _ _ rfl rfl HO.out rfl HS.out two_mem (by rw [HN.out]; unfold maxLen; omega) (by rw [HN.out]; omega) ?_); intro v2 w2 ho2 hg2 hb2)
      go_ret
      exact ⟨v2, rfl, by unfold OwnD; rw [← rowD_append]; simpa using ho2, hg2, hb2⟩
    · go_enter Try.func38, Try.ntmps38
      go_wp2_with (at_builtin; go_must (refine wpList_append_src u_dots info_dot rfl (by decide) rfl _ _ rfl rfl HO.out rfl HS.out two_mem (by rw [HN.out]; unfold maxLen; omega) (by rw [HN.out]; omega) ?_); intro v2 w2 ho2 hg2 hb2)
      go_ret
      exact ⟨v2, rfl, by unfold OwnD; rw [← rowD_append]; simpa using ho2, hg2, hb2⟩
theorem overlaps_no (w : World) (vb g o la ca lb cb : Nat) (d1 d2 : Int) (cur : List Value) (hne : vb ≠ g) (hvb : w.heap[vb]? = some (.cells #[.int .i64 d1, .int .i64 d2] 31)) (hg : w.heap[g]? = some (.cells cur.toArray 31)) (hc : 0 < cur.length) :
    (callFunc 66 #[.slice (some ⟨vb, 0, none⟩) la ca, .slice (some ⟨g, o, none⟩) lb cb]).run Try.prog w = .ok (.value (.bool false)) w := by
  rw [run_callFunc_extern Try.func66 (by kernel_rfl) (by kernel_rfl) (by kernel_rfl) (e := Extern.SlicesOverlaps.overlaps #[49, 49] #[4]) (by kernel_rfl),
    Lib.run_overlaps_apart w 49 4 31 u_dots 2 Try.sizeOf31 ⟨vb, 0, none⟩ ⟨g, o, none⟩ la ca lb cb hne 31 31 2 cur.length (by simp [World.shape?, hvb]) (by simp [World.shape?, hg]) (by omega) (by simp [World.frozen?, hvb]) (by simp [World.frozen?, hvb])]
  rfl
end Go.Proofs.Ytoglhhoniojbaaa
