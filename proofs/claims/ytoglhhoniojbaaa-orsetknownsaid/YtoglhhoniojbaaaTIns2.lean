/-
  slices.Insert of one dot: ahead of another, in place or in a new row.
-/
import Derived.Test.YtoglhhoniojbaaaTIns
namespace Go.Proofs.Ytoglhhoniojbaaa
open Go.RowKit Go.Lib
set_option linter.unusedVariables false

/-- A piece laid behind the first k, the rest behind it. -/
theorem ins_take {cur X1 X2 : List Value} {l : List C.Dt} {i : Nat} {d : C.Dt} {N : Nat} (hi : i ≤ l.length) (ht : cur.take (i * 2) = rowD (l.take i)) (hlen : (l.length + 1) * 2 ≤ cur.length) (h1 : X1 = over cur ((i + 1) * 2) (rowD (l.drop i))) (h2 : X2 = over X1 (i * 2) (rowD [d])) :
    X2.take ((l.length + 1) * 2) = rowD (l.take i ++ d :: l.drop i) ∧ X2.length = cur.length ∧ X1.length = cur.length := by
  have lr : (rowD (l.drop i)).length = (l.length - i) * 2 := by rw [rowD_length, List.length_drop]
  have lt : (cur.take (i * 2)).length = i * 2 := by rw [List.length_take]; omega
  have l2 : (rowD [d]).length = 2 := rfl
  have lx1 : X1.length = cur.length := by rw [h1, over_length _ _ _ (by omega)]
  have lx2 : X2.length = cur.length := by rw [h2, over_length _ _ _ (by omega), lx1]
  refine ⟨?_, lx2, lx1⟩
  have e1 : X1.take (i * 2) = cur.take (i * 2) := by
    rw [h1, over, List.append_assoc, List.take_append_of_le_length (by rw [List.length_take]; omega), List.take_take]
    congr 1; omega
  have e2 : X1.drop (i * 2 + 2) = rowD (l.drop i) ++ cur.drop ((i + 1) * 2 + (l.length - i) * 2) := by
    have l3 : (cur.take ((i + 1) * 2)).length = i * 2 + 2 := by rw [List.length_take]; omega
    rw [h1, over, List.append_assoc, List.drop_append_of_le_length (by omega), List.drop_eq_nil_of_le (by omega), lr]
    rfl
  have e3 : X2 = rowD (l.take i) ++ (rowD [d] ++ (rowD (l.drop i) ++ cur.drop ((i + 1) * 2 + (l.length - i) * 2))) := by
    rw [h2, over, l2, e1, e2, ht, List.append_assoc]
  rw [e3, ← List.append_assoc, ← List.append_assoc, rowD_append, rowD_append]
  have l4 : (rowD (l.take i ++ [d] ++ l.drop i)).length = (l.length + 1) * 2 := by
    rw [rowD_length]; simp; omega
  rw [List.take_append_of_le_length (by omega), List.take_of_length_le (by omega)]
  simp
set_option maxRecDepth 100000 in
set_option maxHeartbeats 4000000 in
theorem insert_room (g cap i : Nat) (l : List C.Dt) (d1 d2 : Int) (vb : Nat) (w : World) (h : OwnD w (.slice (some ⟨g, 0, none⟩) l.length cap) l) (hvb : w.heap[vb]? = some (.cells #[.int .i64 d1, .int .i64 d2] 31)) (hne : vb ≠ g) (hi : i < l.length) (hr : l.length < cap) (hl : l.length ≤ 1000000) :
    Calls Try.prog 38 #[.slice (some ⟨g, 0, none⟩) l.length cap, .int .i64 (i : Nat), .slice (some ⟨vb, 0, none⟩) 1 1] w fun e w' => e = .returned (.slice (some ⟨g, 0, none⟩) (l.length + 1) cap) ∧ OwnD w' (.slice (some ⟨g, 0, none⟩) (l.length + 1) cap) (l.take i ++ (d1, d2) :: l.drop i) ∧ w.grownBy w' (some g) := by
  rcases h.shape with ⟨h1, _⟩ | ⟨g', cap', cur, hv, hg, hn, hm, hs, ht⟩
  · cases h1
  cases hv
  obtain ⟨X1, hX1⟩ : ∃ X1, X1 = over cur ((i + 1) * 2) (rowD (l.drop i)) := ⟨_, rfl⟩
  obtain ⟨X2, hX2⟩ : ∃ X2, X2 = over X1 (i * 2) (rowD [(d1, d2)]) := ⟨_, rfl⟩
  have hti : cur.take (i * 2) = rowD (l.take i) := by rw [← rowD_take l i (by omega), ← ht, List.take_take]; congr 1; omega
  obtain ⟨htk, lx2, lx1⟩ := ins_take (N := 0) (by omega) hti (by omega) hX1 hX2
  have lr : (rowD (l.drop i)).length = (l.length - i) * 2 := by rw [rowD_length, List.length_drop]
  have hg1 : (w.drew.setRow g X1.toArray).heap[g]? = some (.cells X1.toArray 31) := set_over (w := w.drew) hg
  have hg2 : ((w.drew.setRow g X1.toArray).setRow g X2.toArray).heap[g]? = some (.cells X2.toArray 31) := set_over hg1
  have hv1 : (w.drew.setRow g X1.toArray).heap[vb]? = some (.cells #[.int .i64 d1, .int .i64 d2] 31) := by rw [setRow_other w.drew g vb _ (fun e => hne e)]; exact hvb
  have hdrop : cur.drop (i * 2) = rowD (l.drop i) ++ cur.drop (l.length * 2) := by
    have e : cur = rowD l ++ cur.drop (l.length * 2) := by rw [← ht, List.take_append_drop]
    conv => lhs; rw [e]
    rw [List.drop_append_of_le_length (by rw [rowD_length]; omega), rowD_drop l i (by omega)]
  have hsrc : ∀ c', SrcAt w.drew 2 (.slice (some ⟨g, i * 2, none⟩) (l.length - i) c') (l.length - i) (rowD (l.drop i)) := fun c' =>
    seg_src (w := w.drew) (cur := cur) hg _ lr fun k u hk => by
      have hkl := (List.getElem?_eq_some_iff.1 hk).1
      rw [← List.getElem?_drop, hdrop, List.getElem?_append_left hkl]; exact hk
  have hr1 : ∀ ty dc c', (Builtin.copy_ #[49, 49] ty #[.slice (some ⟨g, (i + 1) * 2, none⟩) (l.length - i) dc, .slice (some ⟨g, i * 2, none⟩) (l.length + 1 - i) c']).run Try.prog w.drew = .ok (goInt (l.length - i : Nat)) (w.drew.setRow g X1.toArray) := fun ty dc c' => by
    rw [hX1]
    exact run_copy_k u_dots size_dot ty (w := w.drew) hg (hsrc c') (rowD_one _) (by simp only [Nat.min_def]; split <;> omega) (by omega)
  have hr2 : ∀ ty dc, (Builtin.copy_ #[49, 49] ty #[.slice (some ⟨g, i * 2, none⟩) (l.length + 1 - i) dc, .slice (some ⟨vb, 0, none⟩) 1 1]).run Try.prog (w.drew.setRow g X1.toArray) = .ok (goInt (1 : Nat)) ((w.drew.setRow g X1.toArray).setRow g X2.toArray) := fun ty dc => by
    rw [hX2]
    exact run_copy_k u_dots size_dot ty hg1 (two_src hv1) two_mem (by simp only [Nat.min_def]; split <;> omega) (by have : (rowD [(d1, d2)]).length = 2 := rfl; omega)
  have hov : ∀ lb cb, _ := fun lb cb => overlaps_no w vb g ((i + 1) * 2) 1 1 lb cb d1 d2 cur hne hvb hg (by omega)
  have HO : Hid (OwnD ((w.drew.setRow g X1.toArray).setRow g X2.toArray) (.slice (some ⟨g, 0, none⟩) (l.length + 1) cap) (l.take i ++ (d1, d2) :: l.drop i)) := by
    have e : (l.take i ++ (d1, d2) :: l.drop i).length = l.length + 1 := by simp; omega
    have := OwnD.make (l := l.take i ++ (d1, d2) :: l.drop i) (cap := cap) hg2 (by rw [e]; omega) hm (by omega) (by rw [e]; exact htk)
    rw [e] at this; exact this
  have HG : Hid (w.grownBy ((w.drew.setRow g X1.toArray).setRow g X2.toArray) (some g)) := (drew_grown (row_grown w.drew g _)).trans (row_grown _ g _)
  have HR1 : Hid _ := hr1
  have HR2 : Hid _ := hr2
  have hcap63 : cap ≤ 9223372036854775807 := Nat.le_trans hm (by decide)
  clear hX1 hX2 hti htk lx1 lx2 lr hg1 hg2 hv1 hdrop hsrc hr1 hr2 h hg ht hs hm hvb
  generalize hN : l.length = n at *
  have HNN : Hid (l.length = n) := hN
  clear hN
  have hz2 : ¬ ((i : Int) = (n : Int)) := by omega
  have hw1 : IntKind.i64.wrap ((i : Int) + 1) = (i : Int) + 1 := by rw [IntKind.wrap_i64]; omega
  have hb1 : (0 : Int) ≤ (i : Int) + 1 := by omega
  have hb3 : (i : Int) ≤ (n : Int) + 1 := by omega
  have hin : i ≤ n := by omega
  have hic : i ≤ cap := by omega
  have hb2 : ¬ (cap = i + 1) := by omega
  have hb4 : ¬ (cap = i) := by omega
  go_enter Try.func38, Try.ntmps38
  go_wp2_with (simp only [hov])
  go_region_law (refine step_copy_eq rfl _ _ 49 49 rfl (.slice (some ⟨g, (i + 1) * 2, none⟩) (n - i) (cap - (i + 1))) (.slice (some ⟨g, i * 2, none⟩) (n + 1 - i) (cap - i)) (by simp [Act.eval, Act.put]) (by simp [Act.eval, Act.put]) (HR1.out _ _ _) ?_)
  have hr2 := HR2.out
  go_wp2
  go_ret
  exact ⟨rfl, HO.out, HG.out⟩
set_option maxRecDepth 100000 in
set_option maxHeartbeats 4000000 in
theorem insert_grow (g i : Nat) (l : List C.Dt) (d1 d2 : Int) (vb : Nat) (w : World) (h : OwnD w (.slice (some ⟨g, 0, none⟩) l.length l.length) l) (hvb : w.heap[vb]? = some (.cells #[.int .i64 d1, .int .i64 d2] 31)) (hi : i < l.length) (hl : l.length ≤ 1000000) :
    Calls Try.prog 38 #[.slice (some ⟨g, 0, none⟩) l.length l.length, .int .i64 (i : Nat), .slice (some ⟨vb, 0, none⟩) 1 1] w fun e w' => (∃ cap, e = .returned (.slice (some ⟨w.heap.size, 0, none⟩) (l.length + 1) cap) ∧ OwnD w' (.slice (some ⟨w.heap.size, 0, none⟩) (l.length + 1) cap) (l.take i ++ (d1, d2) :: l.drop i)) ∧ Below w.heap.size w w' := by
  rcases h.shape with ⟨h1, _⟩ | ⟨g', cap', cur, hv, hg, hn, hm, hs, ht⟩
  · cases h1
  cases hv
  obtain ⟨i0, hi0, hz0, hz1, hz2⟩ := info_parts info_dot
  obtain ⟨G, hG⟩ : ∃ G, G = grownCap w (l.length + 1) l.length 31 := ⟨_, rfl⟩
  have hGn : l.length + 1 ≤ G := by rw [hG]; exact grownCap_ge w _ _ _
  have hGm : G ≤ maxLen := by rw [hG]; exact grownCap_le_maxLen w _ _ _ (by unfold maxLen; omega)
  obtain ⟨R0, hR0⟩ : ∃ R0 : List Value, R0 = rowD (l.take i) ++ (Builtin.zeroCells (Value.agg #[.int .i64 0, .int .i64 0]).cells (l.length + 1 - i)).toList ++ (Builtin.zeroCells (Value.agg #[.int .i64 0, .int .i64 0]).cells (G - (l.length + 1))).toList := ⟨_, rfl⟩
  have hR0l : R0.length = G * 2 := by
    rw [hR0, zero_dots, zero_dots]
    simp only [List.length_append, rowD_length, List.length_replicate, List.length_take]
    omega
  have hR0t : R0.take (i * 2) = rowD (l.take i) := by
    rw [hR0, List.append_assoc, List.take_append_of_le_length (by rw [rowD_length, List.length_take]; omega), List.take_of_length_le (by rw [rowD_length, List.length_take]; omega)]
  have hold : (Builtin.firstCells i0.size i (.slice (some ⟨g, 0, none⟩) i l.length)).run Try.prog w.drew = .ok (rowD (l.take i)).toArray w.drew := by
    rw [hz1]
    refine run_load_src (P := Try.prog) (w := w.drew) (p := some ⟨g, 0, none⟩) (m := i) (c := l.length) (news := rowD (l.take i)) (seg_src (w := w.drew) (cur := cur) hg _ (by rw [rowD_length, List.length_take]; omega) fun k u hk => ?_) i _ ?_ (Nat.le_refl _)
    · have hkl := (List.getElem?_eq_some_iff.1 hk).1
      rw [rowD_length, List.length_take] at hkl
      rw [Nat.zero_add, ← hk, ← rowD_take l i (by omega), ← ht, List.take_take, List.getElem?_take, if_pos (by omega)]
    · exact (List.take_of_length_le (by rw [rowD_length, List.length_take]; omega)).symm
  obtain ⟨W1, hW1⟩ : ∃ W1, W1 = w.drew.alloc (.cells R0.toArray 31) := ⟨_, rfl⟩
  have hrz : ∀ ty, (Builtin.append_ #[49, 3] ty #[.slice (some ⟨g, 0, none⟩) i l.length, .int .i64 ((l.length : Int) + 1 - (i : Int))]).run Try.prog w = .ok (.slice (some ⟨w.heap.size, 0, none⟩) (l.length + 1) G) W1 := fun ty => by
    have hh := Lib.run_append_grow_zeros w 49 3 ty 31 i0 _ .i64 .i64 u_dots Try.underlying3 hi0 hz0 (some ⟨g, 0, none⟩) i l.length (rowD (l.take i)) hold (l.length + 1 - i) (by omega) (by omega) (by omega) (by omega) (by rw [hz2]; omega) (by
      rw [hz2, show i + (l.length + 1 - i) = l.length + 1 by omega]; exact growslice_fits (by omega) (by omega))
    rw [show i + (l.length + 1 - i) = l.length + 1 by omega, ← hG] at hh
    have e1 : (((l.length + 1 - i : Nat) : Int)) = (l.length : Int) + 1 - (i : Int) := by omega
    rw [e1] at hh
    rw [hh, hW1, hR0]
    congr 3
    simp
  have q1 : W1.heap[w.heap.size]? = some (.cells R0.toArray 31) := by rw [hW1]; exact heap_alloc_new w.drew _
  have hb1 : Below w.heap.size w W1 := by rw [hW1]; exact (Below.refl _ w).drew.alloc (by simp) _
  have hgs : g < w.heap.size := (Array.getElem?_eq_some_iff.1 hg).1
  have hvs : vb < w.heap.size := (Array.getElem?_eq_some_iff.1 hvb).1
  obtain ⟨X2, hX2⟩ : ∃ X2, X2 = over R0 (i * 2) (rowD [(d1, d2)]) := ⟨_, rfl⟩
  obtain ⟨X1, hX1⟩ : ∃ X1, X1 = over X2 ((i + 1) * 2) (rowD (l.drop i)) := ⟨_, rfl⟩
  have l2 : (rowD [(d1, d2)]).length = 2 := rfl
  have lr : (rowD (l.drop i)).length = (l.length - i) * 2 := by rw [rowD_length, List.length_drop]
  have lx2 : X2.length = G * 2 := by rw [hX2, over_length _ _ _ (by omega)]; exact hR0l
  have lx1 : X1.length = G * 2 := by rw [hX1, over_length _ _ _ (by omega)]; exact lx2
  have htk : X1.take ((l.length + 1) * 2) = rowD (l.take i ++ (d1, d2) :: l.drop i) := by
    have e1 : X2.take ((i + 1) * 2) = rowD (l.take i ++ [(d1, d2)]) := by
      have l4 : (rowD (l.take i ++ [(d1, d2)])).length = (i + 1) * 2 := by rw [rowD_length]; simp; omega
      rw [hX2, over, hR0t, rowD_append, List.take_append_of_le_length (by omega), List.take_of_length_le (by omega)]
    have e2 : (l.take i ++ (d1, d2) :: l.drop i) = (l.take i ++ [(d1, d2)]) ++ l.drop i := by simp
    have l5 : (rowD (l.take i ++ [(d1, d2)] ++ l.drop i)).length = (l.length + 1) * 2 := by rw [rowD_length]; simp; omega
    rw [hX1, over, e1, rowD_append, e2, List.take_append_of_le_length (by omega), List.take_of_length_le (by omega)]
  have hdrop : cur.drop (i * 2) = rowD (l.drop i) ++ cur.drop (l.length * 2) := by
    have e : cur = rowD l ++ cur.drop (l.length * 2) := by rw [← ht, List.take_append_drop]
    conv => lhs; rw [e]
    rw [List.drop_append_of_le_length (by rw [rowD_length]; omega), rowD_drop l i (by omega)]
  have hrA : ∀ (W : World), W.heap = W1.heap → ∀ ty dc, (Builtin.copy_ #[49, 49] ty #[.slice (some ⟨w.heap.size, i * 2, none⟩) (l.length + 1 - i) dc, .slice (some ⟨vb, 0, none⟩) 1 1]).run Try.prog W = .ok (goInt (1 : Nat)) (W.setRow w.heap.size X2.toArray) := fun W hW ty dc => by
    rw [hX2]
    exact run_copy_k u_dots size_dot ty (by rw [hW]; exact q1) (two_src (w := W) (by rw [hW, hb1.block vb hvs]; exact hvb)) two_mem (by simp only [Nat.min_def]; split <;> omega) (by omega)
  have hrB : ∀ (W : World), W.heap = (W1.setRow w.heap.size X2.toArray).heap → ∀ ty dc sc, (Builtin.copy_ #[49, 49] ty #[.slice (some ⟨w.heap.size, (i + 1) * 2, none⟩) (l.length - i) dc, .slice (some ⟨g, i * 2, none⟩) (l.length - i) sc]).run Try.prog W = .ok (goInt (l.length - i : Nat)) (W.setRow w.heap.size X1.toArray) := fun W hW ty dc sc => by
    rw [hX1]
    have q2 : W.heap[w.heap.size]? = some (.cells X2.toArray 31) := by rw [hW]; exact set_over q1
    have q3 : W.heap[g]? = some (.cells cur.toArray 31) := by rw [hW, setRow_other W1 w.heap.size g _ (by omega), hb1.block g hgs]; exact hg
    refine run_copy_k u_dots size_dot ty q2 (seg_src (cur := cur) q3 _ lr fun k u hk => ?_) (rowD_one _) (by simp only [Nat.min_def]; split <;> omega) (by omega)
    have hkl := (List.getElem?_eq_some_iff.1 hk).1
    rw [← List.getElem?_drop, hdrop, List.getElem?_append_left hkl]; exact hk
  have HF : Hid (∀ W : World, W.heap = ((W1.setRow w.heap.size X2.toArray).setRow w.heap.size X1.toArray).heap → OwnD W (.slice (some ⟨w.heap.size, 0, none⟩) (l.length + 1) G) (l.take i ++ (d1, d2) :: l.drop i)) := fun W hW => by
    have e : (l.take i ++ (d1, d2) :: l.drop i).length = l.length + 1 := by simp; omega
    have q2 : W.heap[w.heap.size]? = some (.cells X1.toArray 31) := by rw [hW]; exact set_over (set_over q1)
    have := OwnD.make (l := l.take i ++ (d1, d2) :: l.drop i) (cap := G) q2 (by rw [e]; exact hGn) hGm lx1 (by rw [e]; exact htk)
    rw [e] at this; exact this
  have HBW : Hid (Below w.heap.size w ((W1.setRow w.heap.size X2.toArray).setRow w.heap.size X1.toArray)) := by
    refine ⟨hb1.os, hb1.tape, hb1.output, ?_, fun k hk => ?_⟩
    · have := hb1.size; simpa [World.setRow] using this
    · rw [setRow_other _ w.heap.size k _ (by omega), setRow_other _ w.heap.size k _ (by omega)]; exact hb1.block k hk
  have HZ : Hid _ := hrz
  have HA : Hid _ := hrA
  have HB : Hid _ := hrB
  have hG63 : G ≤ 9223372036854775807 := Nat.le_trans hGm (by decide)
  clear hG hGm hR0 hR0l hR0t hold hW1 hrz q1 hb1 hgs hvs hX1 hX2 l2 lr lx1 lx2 htk hdrop hrA hrB h hg ht hs hm hn hvb hi0 hz0 hz1 hz2
  generalize hN : l.length = n at *
  have HNN : Hid (l.length = n) := hN
  clear hN
  have hz2 : ¬ ((i : Int) = (n : Int)) := by omega
  have hw1 : IntKind.i64.wrap ((i : Int) + 1) = (i : Int) + 1 := by rw [IntKind.wrap_i64]; omega
  have hc1 : (0 : Int) ≤ (i : Int) + 1 := by omega
  have hc3 : (i : Int) ≤ (n : Int) + 1 := by omega
  have hin : i ≤ n := by omega
  have hGi : ¬ (G = i + 1) := by omega
  have hGj : ¬ (G = i) := by omega
  have hni : ¬ (n = i) := by omega
  go_enter Try.func38, Try.ntmps38
  have hrA := HA.out W1 rfl
  go_wp2_with (at_builtin; go_must (refine Lib.wpList_append_run _ rfl _ _ _ _ rfl _ _ rfl rfl _ _ (HZ.out _) ?_))
  go_region_law (refine step_copy_eq rfl _ _ 49 49 rfl (.slice (some ⟨w.heap.size, (i + 1) * 2, none⟩) (n - i) (G - (i + 1))) (.slice (some ⟨g, i * 2, none⟩) (n - i) (n - i)) (by simp [Act.eval, Act.put]) (by simp [Act.eval, Act.put]) (HB.out (W1.setRow w.heap.size X2.toArray).drew rfl _ _ _) ?_)
  go_wp2
  go_ret
  exact ⟨⟨G, rfl, HF.out _ rfl⟩, bel_alike HBW.out rfl rfl rfl rfl⟩
theorem bel_grow {w w' : World} (h : Below w.heap.size w w') (o : Option Nat) : w.grownBy w' o := ⟨h.os, h.tape, h.output, h.size, fun k hk _ => h.block k hk⟩
/-- slices.Insert of one dot. -/
theorem insert_any (v : Value) (l : List C.Dt) (i : Nat) (d1 d2 : Int) (vb : Nat) (w : World) (h : OwnD w v l) (hvb : w.heap[vb]? = some (.cells #[.int .i64 d1, .int .i64 d2] 31)) (hne : v.ownBlock ≠ some vb) (hi : i ≤ l.length) (hl : l.length ≤ 1000000) :
    Calls Try.prog 38 #[v, .int .i64 (i : Nat), .slice (some ⟨vb, 0, none⟩) 1 1] w fun e w' => ∃ v', e = .returned v' ∧ OwnD w' v' (l.take i ++ (d1, d2) :: l.drop i) ∧ w.grownBy w' v.ownBlock ∧ (v'.ownBlock = v.ownBlock ∨ v'.ownBlock = some w.heap.size) := by
  rcases Nat.lt_or_ge i l.length with hlt | hge
  · rcases h.shape with ⟨_, rfl⟩ | ⟨g, cap, cur, rfl, _, hn, _⟩
    · simp at hlt
    · by_cases hr : l.length < cap
      · refine (insert_room g cap i l d1 d2 vb w h hvb (fun e => hne (by subst e; rfl)) hlt hr hl).mono ?_
        rintro e w' ⟨rfl, h1, h2⟩
        exact ⟨_, rfl, h1, h2, Or.inl rfl⟩
      · obtain rfl : cap = l.length := by omega
        refine (insert_grow g i l d1 d2 vb w h hvb hlt hl).mono ?_
        rintro e w' ⟨⟨c, rfl, h1⟩, h2⟩
        exact ⟨_, rfl, h1, bel_grow h2 _, Or.inr rfl⟩
  · obtain rfl : i = l.length := by omega
    rw [List.take_of_length_le (Nat.le_refl _), List.drop_eq_nil_of_le (Nat.le_refl _)]
    exact insert_end v l d1 d2 vb w h hvb hl
end Go.Proofs.Ytoglhhoniojbaaa
