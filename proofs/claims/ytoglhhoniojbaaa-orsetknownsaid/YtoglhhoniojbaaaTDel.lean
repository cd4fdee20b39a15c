/-
  slices.Delete, slices.Insert at dots.
-/
import Derived.Test.YtoglhhoniojbaaaTRead
namespace Go.Proofs.Ytoglhhoniojbaaa
open Go.RowKit Go.Lib
set_option linter.unusedVariables false

theorem zero_dots (n : Nat) : (Builtin.zeroCells (Value.agg #[.int .i64 0, .int .i64 0]).cells n).toList = rowD (List.replicate n ((0, 0) : C.Dt)) := by
  have e : (Value.agg #[.int .i64 0, .int .i64 0]).cells = #[.int .i64 0, .int .i64 0] := rfl
  rw [e]
  unfold Builtin.zeroCells
  apply List.ext_getElem?
  intro j
  by_cases hj : j < n * 2
  · have hd : j / 2 < n := by omega
    have h1 := rowD_get (List.replicate n ((0, 0) : C.Dt)) (j / 2) (0, 0) (j % 2) (by simp [hd]) (by omega)
    rw [show j / 2 * 2 + j % 2 = j by omega] at h1
    rw [h1]
    have h2 : j % 2 = 0 ∨ j % 2 = 1 := by omega
    rcases h2 with h2 | h2 <;> simp [encD, h2, hj]
  · have h1 : (rowD (List.replicate n ((0, 0) : C.Dt))).length ≤ j := by rw [rowD_length, List.length_replicate]; omega
    rw [List.getElem?_eq_none h1, List.getElem?_eq_none (by simp; omega)]
theorem zv_dot (w : World) : (zeroValue 31).run Try.prog w = .ok (.agg #[.int .i64 0, .int .i64 0]) w := by kernel_rfl
theorem drew_grown {w w' : World} {o : Option Nat} (h : w.drew.grownBy w' o) : w.grownBy w' o := ⟨h.os, h.tape, h.output, h.size, h.block⟩
set_option maxRecDepth 100000 in
set_option maxHeartbeats 4000000 in
theorem delete_any (g cap i j : Nat) (l : List C.Dt) (w : World) (h : OwnD w (.slice (some ⟨g, 0, none⟩) l.length cap) l) (hij : i ≤ j) (hj : j ≤ l.length) (hl : l.length ≤ 1000000) :
    Calls Try.prog 87 #[.slice (some ⟨g, 0, none⟩) l.length cap, .int .i64 (i : Nat), .int .i64 (j : Nat)] w fun e w' =>
      e = .returned (.slice (some ⟨g, 0, none⟩) (l.take i ++ l.drop j).length cap) ∧ OwnD w' (.slice (some ⟨g, 0, none⟩) (l.take i ++ l.drop j).length cap) (l.take i ++ l.drop j) ∧ w.grownBy w' (some g) := by
  rcases h.shape with ⟨h1, _⟩ | ⟨g', cap', cur, hv, hg, hn, hm, hs, ht⟩
  · cases h1
  cases hv
  have hlen : (l.take i ++ l.drop j).length = i + (l.length - j) := by simp; omega
  rw [hlen]
  by_cases heq : i = j
  · subst heq
    have e1 : l.take i ++ l.drop i = l := List.take_append_drop i l
    have HO : Hid (OwnD w (.slice (some ⟨g, 0, none⟩) l.length cap) l) := h
    rw [e1, show i + (l.length - i) = l.length by omega]
    have hcap63 : cap ≤ 9223372036854775807 := Nat.le_trans hm (by decide)
    clear h hg ht hs hm hlen e1
    generalize hN : l.length = n at *
    have HNN : Hid (l.length = n) := hN
    clear hN
    by_cases hni : n = i
    · subst hni
      go_enter Try.func87, Try.ntmps87
      go_wp2
      all_goals
        go_ret
        exact ⟨rfl, HO.out, ⟨rfl, rfl, rfl, Nat.le_refl _, fun _ _ _ => rfl⟩⟩
    · go_enter Try.func87, Try.ntmps87
      go_wp2
      all_goals
        go_ret
        exact ⟨rfl, HO.out, ⟨rfl, rfl, rfl, Nat.le_refl _, fun _ _ _ => rfl⟩⟩
  · have hlt : i < j := by omega
    have hcap63 : cap ≤ 9223372036854775807 := Nat.le_trans hm (by decide)
    obtain ⟨X1, hX1⟩ : ∃ X1, X1 = over cur (i * 2) (rowD (l.drop j)) := ⟨_, rfl⟩
    obtain ⟨X2, hX2⟩ : ∃ X2, X2 = over X1 ((i + (l.length - j)) * 2) (rowD (List.replicate (j - i) ((0, 0) : C.Dt))) := ⟨_, rfl⟩
    have lr1 : (rowD (l.drop j)).length = (l.length - j) * 2 := by rw [rowD_length, List.length_drop]
    have lr2 : (rowD (List.replicate (j - i) ((0, 0) : C.Dt))).length = (j - i) * 2 := by rw [rowD_length, List.length_replicate]
    have lx1 : X1.length = cap * 2 := by rw [hX1, over_length _ _ _ (by omega)]; exact hs
    have lx2 : X2.length = cap * 2 := by rw [hX2, over_length _ _ _ (by omega)]; exact lx1
    have hg1 : (w.drew.setRow g X1.toArray).heap[g]? = some (.cells X1.toArray 31) := set_over (w := w.drew) hg
    have hg2 : ((w.drew.setRow g X1.toArray).setRow g X2.toArray).heap[g]? = some (.cells X2.toArray 31) := set_over hg1
    have hdrop : cur.drop (j * 2) = rowD (l.drop j) ++ cur.drop (l.length * 2) := by
      have e : cur = rowD l ++ cur.drop (l.length * 2) := by rw [← ht, List.take_append_drop]
      conv => lhs; rw [e]
      rw [List.drop_append_of_le_length (by rw [rowD_length]; omega), rowD_drop l j hj]
    have hsrc : ∀ c', SrcAt w.drew 2 (.slice (some ⟨g, j * 2, none⟩) (l.length - j) c') (l.length - j) (rowD (l.drop j)) := fun c' =>
      seg_src (w := w.drew) (cur := cur) hg _ lr1 fun k u hk => by
        have hkl := (List.getElem?_eq_some_iff.1 hk).1
        rw [← List.getElem?_drop, hdrop, List.getElem?_append_left hkl]; exact hk
    have hr1 : ∀ ty c', (Builtin.append_ #[49, 49] ty #[.slice (some ⟨g, 0, none⟩) i cap, .slice (if cap = j then some ⟨g, 0, none⟩ else some ⟨g, j * 2, none⟩) (l.length - j) c']).run Try.prog w.drew = .ok (.slice (some ⟨g, 0, none⟩) (i + (l.length - j)) cap) (w.drew.setRow g X1.toArray) := fun ty c' => by
      rw [hX1]
      refine run_room_k u_dots size_dot ty (w := w.drew) hg (size := 2) ?_ (rowD_one _) (by omega) (by omega)
      by_cases hcj : cap = j
      · have e1 : l.drop j = [] := List.drop_eq_nil_of_le (by omega)
        have e2 : l.length - j = 0 := by omega
        rw [e1, e2]; exact no_src _ _ _ _
      · rw [if_neg hcj]; exact hsrc c'
    have hr2 : ∀ ty c', (Builtin.clear_ #[49] ty #[.slice (some ⟨g, (i + (l.length - j)) * 2, none⟩) (l.length - (i + (l.length - j))) c']).run Try.prog (w.drew.setRow g X1.toArray) = .ok (.tuple #[]) ((w.drew.setRow g X1.toArray).setRow g X2.toArray) := fun ty c' => by
      rw [hX2]
      exact run_clear_k u_dots zv_dot ty hg1 (by rw [zero_dots]; congr 2; omega) (rowD_one _) (by omega) (by omega)
    have htake : X2.take ((i + (l.length - j)) * 2) = rowD (l.take i ++ l.drop j) := by
      rw [hX2, over, List.append_assoc, List.take_append_of_le_length (by rw [List.length_take]; omega), List.take_of_length_le (by rw [List.length_take]; omega), hX1, over]
      have e1 : cur.take (i * 2) = rowD (l.take i) := by
        rw [← rowD_take l i (by omega), ← ht, List.take_take]; congr 1; omega
      rw [e1, List.take_append_of_le_length (by rw [List.length_append, rowD_length, lr1, List.length_take]; omega), List.take_of_length_le (by rw [List.length_append, rowD_length, lr1, List.length_take]; omega), rowD_append]
    have HO : Hid (OwnD ((w.drew.setRow g X1.toArray).setRow g X2.toArray) (.slice (some ⟨g, 0, none⟩) (i + (l.length - j)) cap) (l.take i ++ l.drop j)) := by
      have := OwnD.make (l := l.take i ++ l.drop j) (cap := cap) hg2 (by rw [hlen]; omega) hm lx2 (by rw [hlen]; exact htake)
      rw [hlen] at this; exact this
    have HG : Hid (w.grownBy ((w.drew.setRow g X1.toArray).setRow g X2.toArray) (some g)) := (drew_grown (row_grown w.drew g _)).trans (row_grown _ g _)
    have HR1 : Hid _ := hr1
    have HR2 : Hid _ := hr2
    have hic : i ≤ cap := by omega
    have hjc : j ≤ cap := by omega
    clear hX1 hX2 lr1 lr2 lx1 lx2 hg1 hg2 hdrop hsrc hr1 hr2 htake h hg ht hs hm hlen
    generalize hN : l.length = n at *
    have HNN : Hid (l.length = n) := hN
    clear hN
    go_enter Try.func87, Try.ntmps87
    go_wp2_with fail
    go_region_law (refine step_append_eq rfl _ _ 49 49 rfl (.slice (some ⟨g, 0, none⟩) i cap) (.slice (if cap = j then some ⟨g, 0, none⟩ else some ⟨g, j * 2, none⟩) (n - j) (cap - j)) (by simp [Act.eval, Act.put]) (by simp [Act.eval, Act.put]) (HR1.out _ _) ?_)
    have hr2 := HR2.out
    go_wp2
    all_goals
      go_ret
      first
        | exact ⟨rfl, HO.out, HG.out⟩
        | (have hcj : cap = j := by assumption
           subst hcj
           exact ⟨rfl, HO.out, HG.out⟩)
end Go.Proofs.Ytoglhhoniojbaaa
