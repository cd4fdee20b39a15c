/-
  The document's own reckoning (package rostrumref1): Runes: a text's runes, and where each begins.
-/
import Derived.Test.YtdkndjenmnojhaaDoorKKnown
import Derived.Test.YtdkndjenmnojhaaDoorMath3
namespace Go.Proofs.YtdkndjenmnojhaaDoor
open Go.RowKit Go.Lib
set_option linter.unusedVariables false

def ints (k : IntKind) (zs : List Nat) : List Value := zs.map fun (z : Nat) => Value.int k (z : Int)
theorem ints_length (k : IntKind) (zs : List Nat) : (ints k zs).length = zs.length := by simp [ints]
/-- Where the runes begin. -/
def M.starts : Nat → List (Nat × List UInt8) → List Nat
  | _, [] => []
  | p, t :: ts => p :: M.starts (p + t.2.length) ts
theorem M.starts_length : ∀ (ts : List (Nat × List UInt8)) (p : Nat), (M.starts p ts).length = ts.length
  | [], _ => rfl
  | t :: ts, p => by simp [M.starts, M.starts_length ts]
theorem info_i32 : (Tryd.prog.info? 21).map (fun i => (i.zero, i.size, i.bytes)) = some (some (.int .i32 0), 1, 4) := by kernel_rfl
theorem info_i64 : (Tryd.prog.info? 3).map (fun i => (i.zero, i.size, i.bytes)) = some (some (.int .i64 0), 1, 8) := by kernel_rfl
theorem one_int (k : IntKind) (z : Int) : ∀ u ∈ [Value.int k z], u.oneCell' = true := by
  intro u hu; simp at hu; subst hu; rfl
/-- Two rows of different element types lie apart. -/
theorem rows_apart {W : World} {base base' e e' size size' n n' : Nat} {v v' : Value} {xs xs' : List Value} (h : W.ownsRow base e size v n xs) (h' : W.ownsRow base' e' size' v' n' xs') (hne : e ≠ e') : v.ownBlock = none ∨ v.ownBlock ≠ v'.ownBlock := by
  rcases h.2 with ⟨rfl, _⟩ | ⟨g, cap, cur, rfl, _, hh, _⟩
  · exact Or.inl rfl
  · rcases h'.2 with ⟨rfl, _⟩ | ⟨g', cap', cur', rfl, _, hh', _⟩
    · exact Or.inr (by simp [Value.ownBlock])
    · refine Or.inr ?_
      intro e2
      have : g = g' := by simpa [Value.ownBlock] using e2
      subst this
      rw [hh] at hh'
      simp at hh'
      exact hne hh'.2
theorem iter_step {B n p e : Nat} {w wi w2 : World} {v : Value} {xs : List Value} {s : ByteArray} {o : Obj} (hB : B < wi.heap.size) (hbw : Below B w wi) (hit : wi.heap[B]? = some (.stringIter s p))
    (hown : wi.ownsRow (B + 1) e 1 v n xs) (hg : (wi.alloc o).grownBy w2 v.ownBlock) : w2.heap[B]? = some (.stringIter s p) ∧ Below B w w2 ∧ B < w2.heap.size := by
  have h := split_step hB hbw hit (Below.refl _ _) hown hg
  exact ⟨h.1, h.2, (Array.getElem?_eq_some_iff.1 h.1).1⟩

set_option maxHeartbeats 4000000 in
theorem runes_any (s : ByteArray) (w : World) (hs : s.size ≤ 1048576) :
    Calls Tryd.prog 16 #[.string s] w fun e w' => (∃ v1 v2, e = .returned (.tuple #[v1, v2]) ∧ w'.ownsRow w.heap.size 21 1 v1 (M.runes s.data.toList).length (ints .i32 (M.runes s.data.toList)) ∧
      w'.ownsRow w.heap.size 3 1 v2 ((M.runes s.data.toList).length + 1) (ints .i64 (M.starts 0 (M.toks s.data.toList) ++ [s.size]))) ∧ Below w.heap.size w w' := by
  obtain ⟨i0, hi, hz0, hz1, hz2⟩ := info_parts info_i32
  obtain ⟨j0, hj, hy0, hy1, hy2⟩ := info_parts info_i64
  go_enter Tryd.func16, Tryd.ntmps16
  go_wp2
  go_loopw [4, 5] (fun v u wr => ∃ (pos : Nat) (rs ps : List Nat), wr.heap[w.heap.size]? = some (.stringIter s pos) ∧ Below w.heap.size w wr ∧ pos ≤ s.size ∧ rs.length ≤ pos ∧ ps.length = rs.length ∧ wr.ownsRow (w.heap.size + 1) 21 1 v rs.length (ints .i32 rs) ∧ wr.ownsRow (w.heap.size + 1) 3 1 u ps.length (ints .i64 ps) ∧
      rs ++ M.runes (s.data.toList.drop pos) = M.runes s.data.toList ∧ ps ++ M.starts pos (M.toks (s.data.toList.drop pos)) = M.starts 0 (M.toks s.data.toList)) (fun _ _ wr => s.size - wr.iterPos w.heap.size)
  case atStart =>
    refine ⟨0, [], [], ?_, (Below.refl _ w).alloc (Nat.le_refl _) _, Nat.zero_le _, Nat.le_refl _, rfl, World.ownsRow_nil _ _ _ _, World.ownsRow_nil _ _ _ _, by simp, by simp⟩
    have := World.iter_heap w s 0
    simpa using this
  case round =>
    obtain ⟨pos, rs, ps, hit, hbw, hps, hrl, hpl, hown, hown', hr, hp'⟩ := hrel
    have hsz : w.heap.size < wr.heap.size := (Array.getElem?_eq_some_iff.1 hit).1
    have HR : Hid _ := hr
    have HPP : Hid _ := hp'
    clear hr hp'
    by_cases hp : pos < s.size
    · have hnx : ∀ ty, (Instr.next (.pointer (some ⟨w.heap.size, 0, none⟩)) true ty).run Tryd.prog wr = _ := fun ty => Lib.run_next_any_at wr w.heap.size s pos ty hit hp
      have hwd := width_at hp
      have hit2 := Lib.iterAt_heap wr w.heap.size s pos (pos + (Utf8.decode s pos).2) hit
      have hbw2 := Lib.below_iterAt hbw (k := w.heap.size) (Nat.le_refl _) s (pos + (Utf8.decode s pos).2)
      have hown2 := ownsRow_iterAt hown (k := w.heap.size) (by omega) s (pos + (Utf8.decode s pos).2)
      have hown2' := ownsRow_iterAt hown' (k := w.heap.size) (by omega) s (pos + (Utf8.decode s pos).2)
      have hwz : w.heap.size < (wr.iterAt w.heap.size s (pos + (Utf8.decode s pos).2)).heap.size := by rw [Lib.iterAt_size]; exact hsz
      have hap := rows_apart hown2' hown2 (by decide)
      generalize hW : wr.iterAt w.heap.size s (pos + (Utf8.decode s pos).2) = W at *
      go_wp2_with (first
        | (at_builtin; refine wpList_append_own _ rfl (.tmp 14) (.tmp 16) 30 rfl (w.heap.size + 1) 21 i0 (.int .i32 0) 1 4 Tryd.underlying30 hi hz0 hz1 hz2 rfl (by decide) _ _ _ rfl (hown2.alloc _) ⟨W.heap.size, 0, none⟩ 1 1 [.int .i32 ((Utf8.decode s pos).1 : Nat)] rfl rfl (cell_one_new _ _ _) (one_int _ _) (by unfold maxLen; omega) (by omega) (by simp; omega) ?_; intro v' w2 hown3 hgrow _; have hown4 := (hown2'.alloc (.cells #[.int .i32 ((Utf8.decode s pos).1 : Nat)] 21)).kept hgrow hap; obtain ⟨hit3, hbw3, hwz3⟩ := iter_step hwz hbw2 hit2 hown2 hgrow; clear hgrow)
        | (at_builtin; go_must (refine wpList_append_own _ rfl (.tmp 18) (.tmp 20) 31 rfl (w.heap.size + 1) 3 j0 (.int .i64 0) 1 8 Tryd.underlying31 hj hy0 hy1 hy2 rfl (by decide) _ _ _ rfl (hown4.alloc _) ⟨w2.heap.size, 0, none⟩ 1 1 [.int .i64 (pos : Nat)] rfl rfl (cell_one_new _ _ _) (one_int _ _) (by unfold maxLen; omega) (by omega) (by simp; omega) ?_); intro u' w3 hown5 hgrow2 _))
      have hown6 := (hown3.alloc (.cells #[.int .i64 (pos : Nat)] 3)).kept hgrow2 (rows_apart hown3 hown4 (by decide))
      obtain ⟨hit4, hbw4, hwz4⟩ := iter_step hwz3 hbw3 hit3 hown4 hgrow2
      clear hgrow2
      go_wp2
      go_roundw
      case rel =>
        refine ⟨pos + (Utf8.decode s pos).2, rs ++ [(Utf8.decode s pos).1], ps ++ [pos], hit4, hbw4, hwd.2, by simp; omega, by simp; omega, ?_, ?_, ?_, ?_⟩
        · simpa [ints] using hown6
        · simpa [ints] using hown5
        · rw [← HR.out, runes_at hp]; simp
        · rw [← HPP.out, toks_at hp]
          have hlen : ((s.data.toList.drop pos).take (Utf8.decode s pos).2).length = (Utf8.decode s pos).2 := by
            rw [List.length_take, List.length_drop, size_list]; omega
          simp only [M.starts, hlen]
          simp
      case measure =>
        simp only [World.iterPos, hit4, hit]
        omega
    · have hnx : ∀ ty, (Instr.next (.pointer (some ⟨w.heap.size, 0, none⟩)) true ty).run Tryd.prog wr = _ := fun ty => Lib.run_next_end_at wr w.heap.size s pos ty hit hp
      go_wp2_with (at_builtin; go_must (refine wpList_append_own _ rfl (.tmp 23) (.tmp 26) 31 rfl (w.heap.size + 1) 3 j0 (.int .i64 0) 1 8 Tryd.underlying31 hj hy0 hy1 hy2 rfl (by decide) _ _ _ rfl (hown'.alloc _) ⟨wr.heap.size, 0, none⟩ 1 1 [.int .i64 (s.size : Nat)] rfl rfl (cell_one_new _ _ _) (one_int _ _) (by unfold maxLen; omega) (by omega) (by simp; omega) ?_); intro u' w3 hown5 hgrow2 _)
      have hown6 := (hown.alloc (.cells #[.int .i64 (s.size : Nat)] 3)).kept hgrow2 (rows_apart hown hown' (by decide))
      obtain ⟨hit4, hbw4, hwz4⟩ := iter_step hsz hbw hit hown' hgrow2
      have hr := HR.out
      have hp' := HPP.out
      rw [drop_nil hp] at hr hp'
      simp only [M.runes_nil, M.toks_nil, M.starts, List.append_nil] at hr hp'
      clear HR HPP hgrow2
      go_wp2
      go_ret2
      refine ⟨⟨_, _, rfl, ?_, ?_⟩, hbw4⟩
      · rw [← hr]
        exact ownsRow_weak (base := w.heap.size + 1) (by omega) hown6
      · rw [← hr, ← hp', ← hpl]
        refine ownsRow_weak (base := w.heap.size + 1) (by omega) ?_
        simpa [ints] using hown5
end Go.Proofs.YtdkndjenmnojhaaDoor
