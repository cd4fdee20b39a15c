/-
  rostrumref5.Disk: On; its cells written; Append.
-/
import Derived.Test.YtlfcpgncgldieaaRRead
namespace Go.Proofs.Ytlfcpgncgldieaa
open Go.RowKit Go.Lib Go.Maps
open C (upd upd_same upd_other)
set_option linter.unusedVariables false

theorem set_at {cs : Array Value} {o i : Nat} {v u : Value} (h : cs[i]? = some u) (hne : o ≠ i) : (cs.setIfInBounds o v)[i]? = some u := by
  rw [Array.getElem?_setIfInBounds_ne hne]; exact h
theorem set_self {cs : Array Value} {o : Nat} {v : Value} (h : o < cs.size) : (cs.setIfInBounds o v)[o]? = some v := by
  rw [Array.getElem?_setIfInBounds_self_of_lt h]
theorem RCells.setOff {cs : Array Value} {v : Value} {s : C.St} (h : RCells cs v s) (b : Bool) : RCells (cs.setIfInBounds 1002 (.bool b)) v { s with off := b } :=
  ⟨by simp [h.size], set_at h.room (by decide), fun k hk => set_at (h.has k hk) (by omega), set_at h.row (by decide), set_self (by rw [h.size]; decide), set_at h.lives (by decide)⟩
theorem RCells.setLives {cs : Array Value} {v : Value} {s : C.St} (h : RCells cs v s) (n : Nat) : RCells (cs.setIfInBounds 1003 (.int .i64 (n : Nat))) v { s with lives := n } :=
  ⟨by simp [h.size], set_at h.room (by decide), fun k hk => set_at (h.has k hk) (by omega), set_at h.row (by decide), set_at h.off (by decide), set_self (by rw [h.size]; decide)⟩
theorem RCells.setRow {cs : Array Value} {v : Value} {s : C.St} (h : RCells cs v s) (u : Value) : RCells (cs.setIfInBounds 1001 u) u s :=
  ⟨by simp [h.size], set_at h.room (by decide), fun k hk => set_at (h.has k hk) (by omega), set_self (by rw [h.size]; decide), set_at h.off (by decide), set_at h.lives (by decide)⟩
theorem RCells.setIs {cs : Array Value} {v : Value} {s : C.St} (h : RCells cs v s) {f : Nat} (hf : f < 1000) (b : Bool) : RCells (cs.setIfInBounds (1 + f) (.bool b)) v { s with is := upd s.is f b } := by
  refine ⟨by simp [h.size], set_at h.room (by omega), fun k hk => ?_, set_at h.row (by omega), set_at h.off (by omega), set_at h.lives (by omega)⟩
  by_cases e : k = f
  · subst e
    show _ = some (Value.bool (upd s.is k b k))
    rw [upd_same]; exact set_self (by rw [h.size]; omega)
  · show _ = some (Value.bool (upd s.is f b k))
    rw [upd_other _ _ e]; exact set_at (h.has k hk) (by omega)
theorem RCells.congr {cs : Array Value} {v : Value} {s s' : C.St} (h : RCells cs v s) (h1 : s'.room = s.room) (h2 : ∀ k, k < 1000 → s'.is k = s.is k) (h3 : s'.off = s.off) (h4 : s'.lives = s.lives) : RCells cs v s' :=
  ⟨h.size, by rw [h1]; exact h.room, fun k hk => by rw [h2 k hk]; exact h.has k hk, h.row, by rw [h3]; exact h.off, by rw [h4]; exact h.lives⟩
/-- Its own cells are written: the row of writes stays. -/
theorem RMem.head {w w' : World} {g : Nat} {v : Value} {ls : List RW} {s s' : C.St} (M : RMem w g v ls s) (hb : ∀ cs, w.heap[g]? = some (.cells cs 42) → RCells cs v s → ∃ cs', w'.heap[g]? = some (.cells cs' 42) ∧ RCells cs' v s')
    (hw : s'.ws = s.ws) (hs : ∀ b, b < w.heap.size → b ≠ g → w'.heap[b]? = w.heap[b]?) : RMem w' g v ls s' :=
  ⟨by obtain ⟨cs, h, hc⟩ := M.blk; exact hb cs h hc, M.ws.trans hw.symm, row_same M.row fun b hb => hs b (row_lt M.row hb) (M.v_g hb), fun p hp => (M.dat p hp).same fun b hb => hs b (row_lt (M.dat p hp) hb) (M.d_g hp hb), M.inj⟩
set_option maxRecDepth 100000 in
set_option maxHeartbeats 1000000 in
theorem ron_any (w : World) (g : Nat) (S : Nat → Prop) (s : C.St) (h : Ref w g S s) (hl : s.lives ≤ 1000000) :
    Calls Try.prog 23 #[.pointer (some ⟨g, 0, none⟩)] w fun e w' => e = .returned (.tuple #[]) ∧ Ref w' g S (C.onS s) ∧ Turn w w' S := by
  have HD : Hid (Ref w g S s) := h
  obtain ⟨v, c0, ck, c1, c2, c3, cf⟩ := h.cells
  clear h ck c0 c1
  go_enter Try.func23, Try.ntmps23
  go_wp2
  go_end0
  have hg := (set_grown w g 1002 (.bool false)).trans (set_grown _ g 1003 (.int .i64 ((s.lives : Nat) + 1)))
  have ht := Turn.of_grown hg (fun b e => by cases e; exact Ref.mem HD.out)
  obtain ⟨v, ls, M, hF, hS⟩ := HD.out
  refine ⟨rfl, ⟨v, ls, M.head (fun cs hb hc => ⟨_, set_block (set_block hb), ?_⟩) rfl (fun b hb hne => hg.block b hb (fun e => hne (by cases e; rfl))), hF, fun b hb => Nat.lt_of_lt_of_le (hS b hb) ht.size⟩, ht⟩
  exact (((hc.setOff false).setLives (s.lives + 1)).congr rfl (fun _ _ => rfl) rfl rfl)
end Go.Proofs.Ytlfcpgncgldieaa
