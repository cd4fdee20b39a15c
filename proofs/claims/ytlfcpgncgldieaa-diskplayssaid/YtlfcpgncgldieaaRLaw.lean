/-
  rostrumref5.Disk, made; beside disk.Disk.
-/
import Derived.Test.YtlfcpgncgldieaaRSpoil
import Derived.Test.YtlfcpgncgldieaaKKnown
import Derived.Test.YtlfcpgncgldieaaBActs
import Derived.Laws.Tables
namespace Go.Proofs.Ytlfcpgncgldieaa
open Go.RowKit Go.Lib Go.Maps
open C (upd upd_same upd_other)
set_option linter.unusedVariables false

def refZ : Array Value := (Value.int .i64 0 :: (List.replicate 1000 (Value.bool false) ++ [.slice none 0 0, .bool false, .int .i64 0])).toArray
def refC (room : Int) : Array Value := (refZ.setIfInBounds 0 (.int .i64 room)).setIfInBounds 1003 (.int .i64 1)
set_option maxRecDepth 100000 in
theorem built_ref (room : Int) : Try.prog.built 42 [(0, .int .i64 room), (4, .int .i64 1)] = some (refC room) := by kernel_rfl
def refL (n : Nat) : List Value := Value.int .i64 0 :: (List.replicate n (Value.bool false) ++ [.slice none 0 0, .bool false, .int .i64 0])
theorem refL_cells (n : Nat) : (refL n).toArray.size = n + 4 ∧ (refL n).toArray[0]? = some (.int .i64 0) ∧ (∀ k, k < n → (refL n).toArray[1 + k]? = some (.bool false)) ∧ (refL n).toArray[n + 1]? = some (.slice none 0 0) ∧ (refL n).toArray[n + 2]? = some (.bool false) ∧ (refL n).toArray[n + 3]? = some (.int .i64 0) := by
  unfold refL
  refine ⟨by simp, by simp, fun k hk => ?_, ?_, ?_, ?_⟩
  · rw [List.getElem?_toArray, Nat.add_comm, List.getElem?_cons_succ, List.getElem?_append_left (by simpa using hk)]
    simp [hk]
  all_goals
    rw [List.getElem?_toArray, List.getElem?_cons_succ, List.getElem?_append_right (by simp)]
    simp
theorem refZ_cells : RCells refZ (.slice none 0 0) ⟨0, fun _ => false, [], 0, false, 0⟩ := by
  obtain ⟨h1, h2, h3, h4, h5, h6⟩ := refL_cells 1000
  have e : refZ = (refL 1000).toArray := by unfold refZ refL; exact Eq.refl _
  rw [e]
  exact ⟨h1, h2, h3, h4, h5, h6⟩
theorem refC_cells (room : Nat) : RCells (refC (room : Nat)) (.slice none 0 0) (C.newS room) := by
  have h := refZ_cells
  have h1 : RCells (refZ.setIfInBounds 0 (.int .i64 (room : Nat))) (.slice none 0 0) ⟨room, fun _ => false, [], 0, false, 0⟩ :=
    ⟨by rw [Array.size_setIfInBounds]; exact h.size, set_self (by rw [h.size]; decide), fun k hk => set_at (h.has k hk) (by omega), set_at h.row (by decide), set_at h.off (by decide), set_at h.lives (by decide)⟩
  exact (h1.setLives 1).congr rfl (fun _ _ => rfl) rfl rfl
theorem wpList_ref {w : World} {ops : Array Oper} {rest : List Oper} {o : Oper} {a : Act} {Q : Exit → Act → World → Prop} (hg : o.guard = none) (x : Operand) (ho : o.op = .build 42 #[(0, x), (4, .const (.int .i64 1))]) (room : Nat) (hx : a.eval x = .int .i64 (room : Nat))
    (h : ∀ cs, RCells cs (.slice none 0 0) (C.newS room) → wpList Try.prog ops Q rest (a.put o.dst (.agg cs)) w) : wpList Try.prog ops Q (o :: rest) a w := by
  refine wpList_plain hg fun K hK => ?_
  have hr := run_build (P := Try.prog) w 42 #[(0, .int .i64 (room : Nat)), (4, .int .i64 1)] (refC (room : Nat)) (built_ref (room : Nat))
  have hc : a.eval (.const (.int .i64 1)) = .int .i64 1 := rfl
  have h2 := h _ (refC_cells room)
  generalize refC (room : Nat) = cs at hr h2
  unfold Oper.wp execOp
  simp only [ho, List.map_toArray, List.map_cons, List.map_nil, hx, hc, Sem.run_bind, hr, Result.andThen_ok]
  exact hK _ _ h2
theorem wpList_boxA {w : World} {ops : Array Oper} {rest : List Oper} {o : Oper} {a : Act} {Q : Exit → Act → World → Prop} (hg : o.guard = none) (t : TypeId) (x : Operand) (ho : o.op = .box t x) (cells : Array Value) (hx : a.eval x = .agg cells)
    (h : wpList Try.prog ops Q rest (a.put o.dst (.pointer (some ⟨w.heap.size, 0, none⟩))) (w.alloc (.cells cells t))) : wpList Try.prog ops Q (o :: rest) a w := by
  refine wpList_plain hg fun K hK => ?_
  unfold Oper.wp execOp
  simp only [ho, hx, Sem.run_bind, Instr.box, newVar, newRow, run_newObj_alloc, Sem.run_pure, Result.andThen_ok, Value.cells]
  exact hK _ _ h
theorem ref_new (w : World) (room : Nat) (cs : Array Value) (hc : RCells cs (.slice none 0 0) (C.newS room)) : Ref (w.alloc (.cells cs 42)) w.heap.size (fun b => b = w.heap.size) (C.newS room) := by
  refine ⟨.slice none 0 0, [], ⟨⟨_, heap_alloc_new w _, hc⟩, rfl, OwnR.nil _, (fun p hp => by cases hp), List.Pairwise.nil⟩, fun b hb => ?_, fun b hb => by subst hb; simp⟩
  rcases hb with rfl | hb | ⟨p, hp, _⟩
  · rfl
  · cases hb
  · cases hp
/-- Both disks, made by the call itself, beside each other and beside blocks that they leave alone. -/
def Mid2 (w0 w : World) (K : Nat → Prop) (g g2 : Nat) (s s' : C.St) : Prop := ∃ S S2, Disk w g S s' ∧ Ref w g2 S2 s ∧ (∀ b, S b → w0.heap.size ≤ b) ∧ (∀ b, S2 b → w0.heap.size ≤ b) ∧ (∀ b, S b → ¬ S2 b) ∧ Below w0.heap.size w0 w ∧ ∀ b, K b → b < w.heap.size ∧ ¬ S b ∧ ¬ S2 b
def Two (w0 w : World) (K : Nat → Prop) (g g2 : Nat) (s : C.St) : Prop := Mid2 w0 w K g g2 s s
theorem Mid2.below {w0 w w' : World} {K : Nat → Prop} {g g2 : Nat} {s s' : C.St} (h : Mid2 w0 w K g g2 s s') (hb : Below w.heap.size w w') : Mid2 w0 w' K g g2 s s' := by
  obtain ⟨S, S2, h1, h2, h3, h4, h5, h6, h7⟩ := h
  exact ⟨S, S2, h1.below hb, h2.below hb, h3, h4, h5, bt h6 hb, fun b hk => ⟨Nat.lt_of_lt_of_le (h7 b hk).1 hb.size, (h7 b hk).2⟩⟩
theorem Two.below {w0 w w' : World} {K : Nat → Prop} {g g2 : Nat} {s : C.St} (h : Two w0 w K g g2 s) (hb : Below w.heap.size w w') : Two w0 w' K g g2 s := Mid2.below h hb
theorem Mid2.bel {w0 w : World} {K : Nat → Prop} {g g2 : Nat} {s s' : C.St} (h : Mid2 w0 w K g g2 s s') : Below w0.heap.size w0 w := by obtain ⟨S, S2, _, _, _, _, _, h, _⟩ := h; exact h
theorem Two.bel {w0 w : World} {K : Nat → Prop} {g g2 : Nat} {s : C.St} (h : Two w0 w K g g2 s) : Below w0.heap.size w0 w := Mid2.bel h
theorem Two.ok {w0 w : World} {K : Nat → Prop} {g g2 : Nat} {s : C.St} (h : Two w0 w K g g2 s) : s.Ok := by obtain ⟨S, S2, h, _⟩ := h; exact h.ok
theorem Two.kept {w0 w w' : World} {K : Nat → Prop} {g g2 : Nat} {s : C.St} (h : Two w0 w K g g2 s) (hb : Below w.heap.size w w') : Kept K w w' := by
  obtain ⟨S, S2, _, _, _, _, _, _, h7⟩ := h
  exact fun b hk => hb.block b (h7 b hk).1
theorem Two.bare {w0 w : World} {K : Nat → Prop} {g g2 : Nat} {s : C.St} (h : Two w0 w K g g2 s) : Two w0 w (fun _ => False) g g2 s := by
  obtain ⟨S, S2, h1, h2, h3, h4, h5, h6, h7⟩ := h
  exact ⟨S, S2, h1, h2, h3, h4, h5, h6, fun b hk => hk.elim⟩
/-- A new block beside them. -/
theorem Two.beside {w0 w : World} {g g2 : Nat} {s : C.St} (h : Two w0 w (fun _ => False) g g2 s) (o : Obj) : Two w0 (w.alloc o) (fun b => b = w.heap.size) g g2 s ∧ (w.alloc o).heap[w.heap.size]? = some o := by
  refine ⟨?_, heap_alloc_new w o⟩
  obtain ⟨S, S2, h1, h2, h3, h4, h5, h6, _⟩ := h
  refine ⟨S, S2, h1.below (below_new _ _), h2.below (below_new _ _), h3, h4, h5, bt h6 (below_new _ _), fun b hk => ?_⟩
  subst hk
  refine ⟨by simp, fun hs => ?_, fun hs => ?_⟩
  · have := h1.lt hs; omega
  · obtain ⟨v, ls, _, _, hlt⟩ := h2
    have := hlt _ hs; omega
theorem two_new {w0 w : World} {g room : Nat} {cs : Array Value} (h : DK w0 w g (C.newS room)) (hc : RCells cs (.slice none 0 0) (C.newS room)) : Two w0 (w.alloc (.cells cs 42)) (fun _ => False) g w.heap.size (C.newS room) := by
  obtain ⟨S, h1, h2, h3⟩ := h
  exact ⟨S, _, h1.below (below_new _ _), ref_new w room cs hc, h2, (fun b hb => by subst hb; exact h3.size), (fun b hb e => by have := h1.lt hb; omega), bt h3 (below_new _ _), fun b hk => hk.elim⟩
theorem mid_ext {w0 w w' : World} {K : Nat → Prop} {g g2 : Nat} {S S2 : Nat → Prop} {s s' : C.St} (h2 : Ref w g2 S2 s) (h3 : ∀ b, S b → w0.heap.size ≤ b) (h4 : ∀ b, S2 b → w0.heap.size ≤ b) (h5 : ∀ b, S b → ¬ S2 b) (h6 : Below w0.heap.size w0 w) (h7 : ∀ b, K b → b < w.heap.size ∧ ¬ S b ∧ ¬ S2 b) (hd : Disk w' g (Ext w w' S) s') (ht : Turn w w' S) : Mid2 w0 w' K g g2 s s' ∧ Kept K w w' := by
  refine ⟨⟨_, S2, hd, h2.turn ht (fun b h h' => h5 b h' h), fun b hb => ?_, h4, fun b hb hb2 => ?_, h6.trans (ht.below h6.size h3), fun b hk => ⟨Nat.lt_of_lt_of_le (h7 b hk).1 ht.size, fun hb => ?_, (h7 b hk).2.2⟩⟩, fun b hk => ht.block b (h7 b hk).1 (h7 b hk).2.1⟩
  · rcases hb with h | h
    · exact h3 b h
    · exact Nat.le_trans h6.size h.1
  · rcases hb with h | h
    · exact h5 b h hb2
    · obtain ⟨v, ls, _, _, hlt⟩ := h2
      have := hlt b hb2
      omega
  · rcases hb with h | h
    · exact (h7 b hk).2.1 h
    · have := (h7 b hk).1; omega
theorem mid_same {w0 w w' : World} {K : Nat → Prop} {g g2 : Nat} {S S2 : Nat → Prop} {s s' : C.St} (h2 : Ref w g2 S2 s) (h3 : ∀ b, S b → w0.heap.size ≤ b) (h4 : ∀ b, S2 b → w0.heap.size ≤ b) (h5 : ∀ b, S b → ¬ S2 b) (h6 : Below w0.heap.size w0 w) (h7 : ∀ b, K b → b < w.heap.size ∧ ¬ S b ∧ ¬ S2 b) (hd : Disk w' g S s') (ht : Turn w w' S) : Mid2 w0 w' K g g2 s s' ∧ Kept K w w' :=
  ⟨⟨S, S2, hd, h2.turn ht (fun b h h' => h5 b h' h), h3, h4, h5, h6.trans (ht.below h6.size h3), fun b hk => ⟨Nat.lt_of_lt_of_le (h7 b hk).1 ht.size, (h7 b hk).2⟩⟩, fun b hk => ht.block b (h7 b hk).1 (h7 b hk).2.1⟩
theorem two_ext {w0 w w' : World} {K : Nat → Prop} {g g2 : Nat} {S S2 : Nat → Prop} {s' : C.St} (h1 : Disk w g S s') (h3 : ∀ b, S b → w0.heap.size ≤ b) (h4 : ∀ b, S2 b → w0.heap.size ≤ b) (h5 : ∀ b, S b → ¬ S2 b) (h6 : Below w0.heap.size w0 w) (h7 : ∀ b, K b → b < w.heap.size ∧ ¬ S b ∧ ¬ S2 b) (hd : Ref w' g2 (Ext w w' S2) s') (ht : Turn w w' S2) : Two w0 w' K g g2 s' ∧ Kept K w w' := by
  refine ⟨⟨S, _, h1.turn ht (fun b h h' => h5 b h h'), hd, h3, fun b hb => ?_, fun b hb hb2 => ?_, h6.trans (ht.below h6.size h4), fun b hk => ⟨Nat.lt_of_lt_of_le (h7 b hk).1 ht.size, (h7 b hk).2.1, fun hb => ?_⟩⟩, fun b hk => ht.block b (h7 b hk).1 (h7 b hk).2.2⟩
  · rcases hb with h | h
    · exact h4 b h
    · exact Nat.le_trans h6.size h.1
  · rcases hb2 with h | h
    · exact h5 b hb h
    · have := h1.lt hb; omega
  · rcases hb with h | h
    · exact (h7 b hk).2.2 h
    · have := (h7 b hk).1; omega
theorem two_same {w0 w w' : World} {K : Nat → Prop} {g g2 : Nat} {S S2 : Nat → Prop} {s' : C.St} (h1 : Disk w g S s') (h3 : ∀ b, S b → w0.heap.size ≤ b) (h4 : ∀ b, S2 b → w0.heap.size ≤ b) (h5 : ∀ b, S b → ¬ S2 b) (h6 : Below w0.heap.size w0 w) (h7 : ∀ b, K b → b < w.heap.size ∧ ¬ S b ∧ ¬ S2 b) (hd : Ref w' g2 S2 s') (ht : Turn w w' S2) : Two w0 w' K g g2 s' ∧ Kept K w w' :=
  ⟨⟨S, S2, h1.turn ht (fun b h h' => h5 b h h'), hd, h3, h4, h5, h6.trans (ht.below h6.size h4), fun b hk => ⟨Nat.lt_of_lt_of_le (h7 b hk).1 ht.size, (h7 b hk).2⟩⟩, fun b hk => ht.block b (h7 b hk).1 (h7 b hk).2.2⟩
theorem drewN_below (w : World) (n : Nat) : Below w.heap.size w (w.drewN n) := ⟨rfl, rfl, rfl, Nat.le_refl _, fun _ _ => rfl⟩
end Go.Proofs.Ytlfcpgncgldieaa
