/-
  name.Split.
-/
import Derived.Test.YtdkndjenmnojhaaDoorWCut
import Derived.WalkSmall
namespace Go.Proofs.YtdkndjenmnojhaaDoor
open Go.RowKit Go.Lib
set_option linter.unusedVariables false

theorem info_str : (Tryd.prog.info? 9).map (fun i => (i.zero, i.size, i.bytes)) = some (some (.string ⟨#[]⟩), 1, 16) := by kernel_rfl
def strV (l : List UInt8) : Value := .string ⟨l.toArray⟩
def strVs (ps : List (List UInt8)) : List Value := ps.map strV
theorem strVs_length (ps : List (List UInt8)) : (strVs ps).length = ps.length := by simp [strVs]
theorem strV_of {t : ByteArray} {l : List UInt8} (h : t.data.toList = l) : Value.string t = strV l := by
  cases t with | mk d => simp only at h; rw [strV, ← h]
/-- A row that is owned is owned still where the old blocks stand. -/
theorem ownsRow_keep {base e size n : Nat} {v : Value} {xs : List Value} {w w' : World} (h : w.ownsRow base e size v n xs) (hk : ∀ k, k < w.heap.size → w'.heap[k]? = w.heap[k]?) : w'.ownsRow base e size v n xs := by
  obtain ⟨h1, h2⟩ := h
  refine ⟨h1, ?_⟩
  rcases h2 with h2 | ⟨g, cap, cur, a, b, c, d⟩
  · exact Or.inl h2
  · exact Or.inr ⟨g, cap, cur, a, b, by rw [hk g (Array.getElem?_eq_some_iff.1 c).1]; exact c, d⟩
theorem middle_list (s : ByteArray) (i j : Nat) (hij : i ≤ j) (h : j ≤ s.size) : (s.extract i j).data.toList = (s.data.toList.drop i).take (j - i) := by
  rw [ByteArray.data_extract, Array.toList_extract]

theorem cell_one_new (w : World) (a : Value) (t : TypeId) : ∀ j u, [a][j]? = some u → (w.alloc (.cells #[a] t)).cell? ((⟨w.heap.size, 0, none⟩ : Addr).add j) = some u := by
  intro j u h
  match j, h with
  | 0, h => simp at h; subst h; simp [Addr.add]
theorem one_str (s : ByteArray) : ∀ u ∈ [Value.string s], u.oneCell' = true := by
  intro u hu; simp at hu; subst hu; rfl

theorem ownsRow_weak {W : World} {base base' e size n : Nat} {v : Value} {xs : List Value} (hb : base' ≤ base) (h : W.ownsRow base e size v n xs) : W.ownsRow base' e size v n xs := by
  obtain ⟨h1, h2⟩ := h
  refine ⟨h1, ?_⟩
  rcases h2 with h2 | ⟨g, cap, cur, a, b, c⟩
  · exact Or.inl h2
  · exact Or.inr ⟨g, cap, cur, a, by omega, c⟩
theorem row_ge {W : World} {base e size n : Nat} {v : Value} {xs : List Value} (h : W.ownsRow base e size v n xs) : ∀ k, v.ownBlock = some k → base ≤ k := by
  intro k hk
  rcases h.2 with ⟨rfl, _⟩ | ⟨g, cap, cur, rfl, hg, _⟩
  · cases hk
  · cases hk; exact hg
/-- Behind a copy and an append: the iterator stands, and so does what was there before the call. -/
theorem split_step {B e n p : Nat} {w wi w1 w2 : World} {v : Value} {xs : List Value} {s : ByteArray} {o : Obj} (hB : B < wi.heap.size) (hbw : Below B w wi) (hit : wi.heap[B]? = some (.stringIter s p))
    (hb1 : Below wi.heap.size wi w1) (hown : wi.ownsRow (B + 1) e 1 v n xs) (hg : (w1.alloc o).grownBy w2 v.ownBlock) : w2.heap[B]? = some (.stringIter s p) ∧ Below B w w2 := by
  have hs1 := hb1.size
  have h3 : Below (B + 1) (w1.alloc o) w2 := (Below.refl _ _).grown hg (by simp; omega) (row_ge hown)
  refine ⟨?_, ?_⟩
  · rw [h3.block B (by omega), Below.heap_alloc w1 o B (by omega), hb1.block B hB]; exact hit
  · exact (hbw.trans (hb1.mono (by omega))).trans (((Below.refl B w1).alloc (by omega) o).trans (h3.mono (by omega)))
/-- The part that stands open. -/
def cur (s : ByteArray) (bh : Bool) (fr pos : Nat) : List UInt8 := if bh then [] else (s.data.toList.drop fr).take (pos - fr)
theorem cur_start (s : ByteArray) (bh : Bool) (fr pos : Nat) : cur s bh fr pos = (s.data.toList.drop (if bh then pos else fr)).take (pos - (if bh then pos else fr)) := by
  cases bh <;> simp [cur]
theorem cur_grow (s : ByteArray) (fr pos w : Nat) (h : fr ≤ pos) : (s.data.toList.drop fr).take (pos - fr) ++ (s.data.toList.drop pos).take w = (s.data.toList.drop fr).take (pos + w - fr) := by
  rw [show pos + w - fr = (pos - fr) + w by omega, List.take_add, List.drop_drop]
  rw [show fr + (pos - fr) = pos by omega]

set_option maxHeartbeats 4000000 in
theorem split_any (s : ByteArray) (c : Int) (w : World) (hs : s.size ≤ 1048576) :
    Calls Tryd.prog 10 #[.string s, .int .i32 c] w fun e w' => (∃ v, e = .returned v ∧ w'.ownsRow w.heap.size 9 1 v (M.split s.data.toList c).length (strVs (M.split s.data.toList c))) ∧ Below w.heap.size w w' := by
  obtain ⟨i0, hi, hz0, hz1, hz2⟩ := info_parts info_str
  go_enter Tryd.func10, Tryd.ntmps10
  go_wp2
  go_loopw [5, 6, 7] (fun v f b wr => ∃ (pos fr : Nat) (ps : List (List UInt8)) (bh : Bool), wr.heap[w.heap.size]? = some (.stringIter s pos) ∧ Below w.heap.size w wr ∧ f = .int .i64 fr ∧ b = .bool bh ∧ fr ≤ pos ∧ pos ≤ s.size ∧ ps.length ≤ pos ∧ wr.ownsRow (w.heap.size + 1) 9 1 v ps.length (strVs ps) ∧ ps ++ M.splitGo c (cur s bh fr pos) (M.toks (s.data.toList.drop pos)) = M.split s.data.toList c) (fun _ _ _ wr => s.size - wr.iterPos w.heap.size)
  case atStart =>
    refine ⟨0, 0, [], false, ?_, (Below.refl _ w).alloc (Nat.le_refl _) _, rfl, rfl, Nat.le_refl _, Nat.zero_le _, Nat.zero_le _, World.ownsRow_nil _ _ _ _, by simp [M.split, cur]⟩
    have := World.iter_heap w s 0
    simpa using this
  case round =>
    obtain ⟨pos, fr, ps, bh, hit, hbw, rfl, rfl, hfp, hps, hpl, hown, hsp⟩ := hrel
    have hsz : w.heap.size < wr.heap.size := (Array.getElem?_eq_some_iff.1 hit).1
    by_cases hp : pos < s.size
    · have hnx : ∀ ty, (Instr.next (.pointer (some ⟨w.heap.size, 0, none⟩)) true ty).run Tryd.prog wr = _ := fun ty => Lib.run_next_any_at wr w.heap.size s pos ty hit hp
      have hwd := width_at hp
      have ht := toks_at hp
      have hit2 := Lib.iterAt_heap wr w.heap.size s pos (pos + (Utf8.decode s pos).2) hit
      have hbw2 := Lib.below_iterAt hbw (k := w.heap.size) (Nat.le_refl _) s (pos + (Utf8.decode s pos).2)
      have hown2 := ownsRow_iterAt hown (k := w.heap.size) (by omega) s (pos + (Utf8.decode s pos).2)
      have hwz : w.heap.size < (wr.iterAt w.heap.size s (pos + (Utf8.decode s pos).2)).heap.size := by rw [Lib.iterAt_size]; exact hsz
      rw [ht] at hsp
      have HSP : Hid _ := hsp
      clear hsp ht
      by_cases heq : ((Utf8.decode s pos).1 : Int) = c
      · cases bh with
        | true =>
          go_wp2_with (first
            | (go_at_call 23; go_must (refine (clone_any ByteArray.empty _ (by decide)).mono ?_); rintro e w1 ⟨rfl, hb1⟩)
            | (at_builtin; go_must (refine wpList_append_own _ rfl _ _ 23 rfl (w.heap.size + 1) 9 i0 (.string ⟨#[]⟩) 1 16 Tryd.underlying23 hi hz0 hz1 hz2 rfl (by decide) _ _ _ rfl ((ownsRow_keep hown2 hb1.block).alloc _) ⟨w1.heap.size, 0, none⟩ 1 1 [.string ByteArray.empty] rfl rfl (cell_one_new _ _ _) (one_str _) (by unfold maxLen; omega) (by omega) (by have := hb1.size; simp; omega) ?_); intro v' w2 hown3 hgrow _))
          have hst := split_step hwz hbw2 hit2 hb1 hown2 hgrow
          go_wp2
          go_roundw
          case rel =>
            refine ⟨pos + (Utf8.decode s pos).2, pos, ps ++ [[]], true, hst.1, hst.2, rfl, rfl, by omega, hwd.2, by simp; omega, ?_, ?_⟩
            · rw [strV_of (t := ByteArray.empty) (l := []) rfl] at hown3
              simpa [strVs] using hown3
            · rw [← HSP.out]; simp [M.splitGo, cur, heq]
          case measure =>
            simp only [World.iterPos, hst.1, hit]
            omega
        | false =>
          have hml := middle_list s fr pos hfp hps
          go_wp2_with (first
            | (go_at_call 23; go_must (refine (clone_any _ _ (by simp only [ByteArray.size_extract]; omega)).mono ?_); rintro e w1 ⟨rfl, hb1⟩)
            | (at_builtin; go_must (refine wpList_append_own _ rfl _ _ 23 rfl (w.heap.size + 1) 9 i0 (.string ⟨#[]⟩) 1 16 Tryd.underlying23 hi hz0 hz1 hz2 rfl (by decide) _ _ _ rfl ((ownsRow_keep hown2 hb1.block).alloc _) ⟨w1.heap.size, 0, none⟩ 1 1 [.string (s.extract fr pos)] rfl rfl (cell_one_new _ _ _) (one_str _) (by unfold maxLen; omega) (by omega) (by have := hb1.size; simp; omega) ?_); intro v' w2 hown3 hgrow _))
          have hst := split_step hwz hbw2 hit2 hb1 hown2 hgrow
          go_wp2
          go_roundw
          case rel =>
            refine ⟨pos + (Utf8.decode s pos).2, fr, ps ++ [(s.data.toList.drop fr).take (pos - fr)], true, hst.1, hst.2, rfl, rfl, by omega, hwd.2, by simp; omega, ?_, ?_⟩
            · rw [strV_of hml] at hown3
              simpa [strVs] using hown3
            · rw [← HSP.out]; simp [M.splitGo, cur, heq]
          case measure =>
            simp only [World.iterPos, hst.1, hit]
            omega
      · have hne : (((Utf8.decode s pos).1 : Int) == c) = false := by simpa using heq
        cases bh with
        | true =>
          go_wp2
          go_roundw
          case rel =>
            refine ⟨pos + (Utf8.decode s pos).2, pos, ps, false, hit2, hbw2, rfl, rfl, by omega, hwd.2, by omega, hown2, ?_⟩
            rw [← HSP.out]; simp [M.splitGo, cur, heq]
          case measure =>
            simp only [World.iterPos, hit2, hit]
            omega
        | false =>
          go_wp2
          go_roundw
          case rel =>
            refine ⟨pos + (Utf8.decode s pos).2, fr, ps, false, hit2, hbw2, rfl, rfl, by omega, hwd.2, by omega, hown2, ?_⟩
            rw [← HSP.out]
            simp only [M.splitGo, cur, if_neg heq]
            simp [cur_grow s fr pos _ hfp]
          case measure =>
            simp only [World.iterPos, hit2, hit]
            omega
    · have hnx : ∀ ty, (Instr.next (.pointer (some ⟨w.heap.size, 0, none⟩)) true ty).run Tryd.prog wr = _ := fun ty => Lib.run_next_end_at wr w.heap.size s pos ty hit hp
      have hpe : pos = s.size := by omega
      rw [drop_nil hp, M.toks_nil] at hsp
      have HSP : Hid _ := hsp
      clear hsp
      cases bh with
      | true =>
        go_wp2_with (first
          | (go_at_call 23; go_must (refine (clone_any ByteArray.empty _ (by decide)).mono ?_); rintro e w1 ⟨rfl, hb1⟩)
          | (at_builtin; go_must (refine wpList_append_own _ rfl _ _ 23 rfl (w.heap.size + 1) 9 i0 (.string ⟨#[]⟩) 1 16 Tryd.underlying23 hi hz0 hz1 hz2 rfl (by decide) _ _ _ rfl ((ownsRow_keep hown hb1.block).alloc _) ⟨w1.heap.size, 0, none⟩ 1 1 [.string ByteArray.empty] rfl rfl (cell_one_new _ _ _) (one_str _) (by unfold maxLen; omega) (by omega) (by have := hb1.size; simp; omega) ?_); intro v' w2 hown3 hgrow _))
        have hst := split_step hsz hbw hit hb1 hown hgrow
        rw [strV_of (t := ByteArray.empty) (l := []) rfl] at hown3
        go_wp2
        go_ret
        refine ⟨⟨_, rfl, ?_⟩, hst.2⟩
        rw [← HSP.out]
        refine ownsRow_weak (base := w.heap.size + 1) (by omega) ?_
        simpa [strVs, M.splitGo, cur] using hown3
      | false =>
        have hml := extract_list s fr
        go_wp2_with (first
          | (go_at_call 23; go_must (refine (clone_any _ _ (by simp only [ByteArray.size_extract]; omega)).mono ?_); rintro e w1 ⟨rfl, hb1⟩)
          | (at_builtin; go_must (refine wpList_append_own _ rfl _ _ 23 rfl (w.heap.size + 1) 9 i0 (.string ⟨#[]⟩) 1 16 Tryd.underlying23 hi hz0 hz1 hz2 rfl (by decide) _ _ _ rfl ((ownsRow_keep hown hb1.block).alloc _) ⟨w1.heap.size, 0, none⟩ 1 1 [.string (s.extract fr s.size)] rfl rfl (cell_one_new _ _ _) (one_str _) (by unfold maxLen; omega) (by omega) (by have := hb1.size; simp; omega) ?_); intro v' w2 hown3 hgrow _))
        have hst := split_step hsz hbw hit hb1 hown hgrow
        rw [strV_of hml] at hown3
        go_wp2
        go_ret
        refine ⟨⟨_, rfl, ?_⟩, hst.2⟩
        rw [← HSP.out]
        refine ownsRow_weak (base := w.heap.size + 1) (by omega) ?_
        have hcur : (s.data.toList.drop fr).take (pos - fr) = s.data.toList.drop fr := by
          apply List.take_of_length_le
          rw [List.length_drop, size_list]; omega
        simpa [strVs, M.splitGo, cur, hcur] using hown3
end Go.Proofs.YtdkndjenmnojhaaDoor
