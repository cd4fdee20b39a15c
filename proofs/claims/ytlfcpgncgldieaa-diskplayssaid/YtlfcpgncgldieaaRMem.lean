/-
  rostrumref5.Disk, the document's own, as it lies: its cells, its row of writes, their bytes.
-/
import Derived.Test.YtlfcpgncgldieaaWAppend3
namespace Go.Proofs.Ytlfcpgncgldieaa
open Go.RowKit Go.Lib Go.Maps
open C (upd upd_same upd_other)
set_option linter.unusedVariables false

theorem info_rw : (Try.prog.info? 70).map (fun i => (i.zero, i.size, i.bytes)) = some (some (.agg #[.int .i64 0, .slice none 0 0, .bool false]), 3, 40) := by kernel_rfl
/-- A write and the slice that holds its bytes. -/
abbrev RW := C.Wr × Value
def encR (x : RW) : List Value := [.int .i64 (x.1.file : Nat), x.2, .bool x.1.safe]
def rowR (l : List RW) : List Value := l.flatMap encR
theorem rowR_cons (x : RW) (l : List RW) : rowR (x :: l) = encR x ++ rowR l := rfl
theorem rowR_length (l : List RW) : (rowR l).length = l.length * 3 := by
  induction l with
  | nil => rfl
  | cons x r ih => rw [rowR_cons, List.length_append, ih, List.length_cons]; simp only [encR, List.length_cons, List.length_nil]; omega
theorem rowR_append (a b : List RW) : rowR a ++ rowR b = rowR (a ++ b) := by simp [rowR]
theorem rowR_get : ∀ (l : List RW) (i : Nat) (x : RW) (j : Nat), l[i]? = some x → j < 3 → (rowR l)[i * 3 + j]? = (encR x)[j]?
  | [], i, x, j, h, _ => by cases h
  | y :: r, 0, x, j, h, hj => by
    simp only [List.getElem?_cons_zero, Option.some.injEq] at h
    subst h
    rw [rowR_cons, List.getElem?_append_left (by simp only [encR, List.length_cons, List.length_nil]; omega)]
    simp
  | y :: r, i + 1, x, j, h, hj => by
    simp only [List.getElem?_cons_succ] at h
    rw [rowR_cons, List.getElem?_append_right (by simp only [encR, List.length_cons, List.length_nil]; omega)]
    rw [← rowR_get r i x j h hj]
    congr 1
    simp only [encR, List.length_cons, List.length_nil]; omega
theorem rowR_set (l : List RW) (i : Nat) (x y : RW) (hx : l[i]? = some x) (hf : y.1.file = x.1.file) (hv : y.2 = x.2) : rowR (l.set i y) = (rowR l).set (i * 3 + 2) (.bool y.1.safe) := by
  induction l generalizing i with
  | nil => cases hx
  | cons z r ih =>
    cases i with
    | zero =>
      simp only [List.getElem?_cons_zero, Option.some.injEq] at hx
      subst hx
      rw [List.set_cons_zero, rowR_cons, rowR_cons]
      simp [encR, hf, hv]
    | succ i =>
      simp only [List.getElem?_cons_succ] at hx
      rw [List.set_cons_succ, rowR_cons, rowR_cons, ih i hx]
      rw [List.set_append_right _ _ (by simp only [encR, List.length_cons, List.length_nil]; omega)]
      congr 2
      simp only [encR, List.length_cons, List.length_nil]; omega
def OwnR (w : World) (v : Value) (l : List RW) : Prop := w.ownsRow 0 70 3 v l.length (rowR l)
theorem OwnR.nil (w : World) : OwnR w (.slice none 0 0) [] := World.ownsRow_nil _ _ _ _
theorem OwnR.shape {w : World} {v : Value} {l : List RW} (h : OwnR w v l) : ∃ p c, v = .slice p l.length c := by
  rcases h.2 with ⟨rfl, h0⟩ | ⟨g, cap, cur, rfl, _⟩
  · exact ⟨none, 0, by rw [h0]⟩
  · exact ⟨_, cap, rfl⟩
theorem ownR_of_row {w : World} {v : Value} {n : Nat} {l : List RW} {xs : List Value} (h : w.ownsRow 0 70 3 v n xs) (hx : xs = rowR l) (hn : n = l.length) : OwnR w v l := by
  subst hx hn; exact h
/-- A row of writes with a write in it: where it lies. -/
theorem OwnR.at {w : World} {v : Value} {l : List RW} (h : OwnR w v l) (hl : 0 < l.length) : ∃ rb cap, v = .slice (some ⟨rb, 0, none⟩) l.length cap ∧ l.length ≤ cap ∧ cap ≤ maxLen ∧
    ∀ i x, l[i]? = some x → w.cell? ⟨rb, i * 3, none⟩ = some (.int .i64 (x.1.file : Nat)) ∧ w.cell? ⟨rb, i * 3 + 1, none⟩ = some x.2 ∧ w.cell? ⟨rb, i * 3 + 2, none⟩ = some (.bool x.1.safe) ∧ w.frozen? ⟨rb, i * 3 + 2, none⟩ = false := by
  rcases h.2 with ⟨_, h0⟩ | ⟨g, cap, cur, rfl, hb, hg, hn, hm, _⟩
  · omega
  · refine ⟨g, cap, rfl, hn, hm, fun i x hx => ?_⟩
    have hc : ∀ j u, j < 3 → (encR x)[j]? = some u → w.cell? ⟨g, i * 3 + j, none⟩ = some u := fun j u hj hu => by
      have := World.ownsRow.cells h rfl (i * 3 + j) u (by rw [rowR_get l i x j hx hj]; exact hu)
      rw [WideShapes.add_plain] at this
      simpa using this
    exact ⟨hc 0 _ (by omega) rfl, hc 1 _ (by omega) rfl, hc 2 _ (by omega) rfl, blk_free hg _⟩
/-- The disk's own cells. -/
structure RCells (cs : Array Value) (v : Value) (s : C.St) : Prop where
  size : cs.size = 1004
  room : cs[0]? = some (.int .i64 (s.room : Nat))
  has : ∀ k, k < 1000 → cs[1 + k]? = some (.bool (s.is k))
  row : cs[1001]? = some v
  off : cs[1002]? = some (.bool s.off)
  lives : cs[1003]? = some (.int .i64 (s.lives : Nat))
structure RMem (w : World) (g : Nat) (v : Value) (ls : List RW) (s : C.St) : Prop where
  blk : ∃ cs, w.heap[g]? = some (.cells cs 42) ∧ RCells cs v s
  ws : ls.map Prod.fst = s.ws
  row : OwnR w v ls
  dat : ∀ p ∈ ls, Own w 0 p.2 p.1.bytes
  inj : ls.Pairwise fun p q => ∀ b, p.2.ownBlock = some b → q.2.ownBlock ≠ some b
def RFoot (g : Nat) (v : Value) (ls : List RW) (b : Nat) : Prop := b = g ∨ v.ownBlock = some b ∨ ∃ p ∈ ls, p.2.ownBlock = some b
section
variable {w w' : World} {g : Nat} {v : Value} {ls : List RW} {s : C.St}
theorem RMem.foot_lt (M : RMem w g v ls s) {b : Nat} (hb : RFoot g v ls b) : b < w.heap.size := by
  rcases hb with rfl | hb | ⟨p, hp, hb⟩
  · obtain ⟨cs, h, _⟩ := M.blk
    exact (Array.getElem?_eq_some_iff.1 h).1
  · exact row_lt M.row hb
  · exact row_lt (M.dat p hp) hb
theorem RMem.same (M : RMem w g v ls s) (hs : ∀ b, RFoot g v ls b → w'.heap[b]? = w.heap[b]?) : RMem w' g v ls s :=
  ⟨by obtain ⟨cs, h, hc⟩ := M.blk; exact ⟨cs, (hs _ (Or.inl rfl)).trans h, hc⟩, M.ws, row_same M.row fun b hb => hs b (Or.inr (Or.inl hb)), fun p hp => (M.dat p hp).same fun b hb => hs b (Or.inr (Or.inr ⟨p, hp, hb⟩)), M.inj⟩
theorem RMem.v_g (M : RMem w g v ls s) {b : Nat} (hb : v.ownBlock = some b) : b ≠ g := by
  obtain ⟨cur, hc⟩ := row_type M.row hb
  obtain ⟨cs, h, _⟩ := M.blk
  exact cells_ne hc h (by decide)
theorem RMem.d_g (M : RMem w g v ls s) {p : RW} (hp : p ∈ ls) {b : Nat} (hb : p.2.ownBlock = some b) : b ≠ g := by
  obtain ⟨cur, hc⟩ := row_type (M.dat p hp) hb
  obtain ⟨cs, h, _⟩ := M.blk
  exact cells_ne hc h (by decide)
theorem RMem.d_v (M : RMem w g v ls s) {p : RW} (hp : p ∈ ls) {b : Nat} (hb : p.2.ownBlock = some b) : v.ownBlock ≠ some b := fun hv => by
  obtain ⟨cur, hc⟩ := row_type (M.dat p hp) hb
  obtain ⟨cur', hc'⟩ := row_type M.row hv
  exact cells_ne hc hc' (by decide) rfl
theorem RMem.one (M : RMem w g v ls s) : ∀ u ∈ rowR ls, u.oneCell' = true := by
  intro u hu
  obtain ⟨x, hx, hu⟩ := List.mem_flatMap.1 hu
  simp only [encR, List.mem_cons, List.not_mem_nil, or_false] at hu
  rcases hu with rfl | rfl | rfl
  · rfl
  · obtain ⟨p, c, hv, _⟩ := Own.part (M.dat x hx)
    rw [hv]; rfl
  · rfl
theorem RMem.len (M : RMem w g v ls s) : ls.length = s.ws.length := by rw [← M.ws, List.length_map]
end
/-- The document's disk at block g, in the state s; its blocks are among S. -/
def Ref (w : World) (g : Nat) (S : Nat → Prop) (s : C.St) : Prop := ∃ v ls, RMem w g v ls s ∧ (∀ b, RFoot g v ls b → S b) ∧ (∀ b, S b → b < w.heap.size)
theorem Ref.turn {w w' : World} {g : Nat} {S T : Nat → Prop} {s : C.St} (h : Ref w g S s) (ht : Turn w w' T) (hd : ∀ b, S b → ¬ T b) : Ref w' g S s := by
  obtain ⟨v, ls, M, h4, h5⟩ := h
  exact ⟨v, ls, M.same fun b hb => ht.block b (h5 b (h4 b hb)) (hd b (h4 b hb)), h4, fun b hb => Nat.lt_of_lt_of_le (h5 b hb) ht.size⟩
theorem Ref.below {w w' : World} {g : Nat} {S : Nat → Prop} {s : C.St} (h : Ref w g S s) (hb : Below w.heap.size w w') : Ref w' g S s := h.turn (T := fun _ => False) (Turn.of_below hb) (fun _ _ h => h)
theorem Ref.mem {w : World} {g : Nat} {S : Nat → Prop} {s : C.St} (h : Ref w g S s) : S g := by obtain ⟨v, ls, _, h, _⟩ := h; exact h _ (Or.inl rfl)
theorem Ref.cells {w : World} {g : Nat} {S : Nat → Prop} {s : C.St} (h : Ref w g S s) : ∃ v, w.cell? ⟨g, 0, none⟩ = some (.int .i64 (s.room : Nat)) ∧ (∀ k, k < 1000 → w.cell? ⟨g, 1 + k, none⟩ = some (.bool (s.is k))) ∧ w.cell? ⟨g, 1001, none⟩ = some v ∧ w.cell? ⟨g, 1002, none⟩ = some (.bool s.off) ∧ w.cell? ⟨g, 1003, none⟩ = some (.int .i64 (s.lives : Nat)) ∧ ∀ o, w.frozen? ⟨g, o, none⟩ = false := by
  obtain ⟨v, ls, M, _⟩ := h
  obtain ⟨cs, hb, hc⟩ := M.blk
  exact ⟨v, (blk_cell hb 0).trans hc.room, fun k hk => (blk_cell hb (1 + k)).trans (hc.has k hk), (blk_cell hb 1001).trans hc.row, (blk_cell hb 1002).trans hc.off, (blk_cell hb 1003).trans hc.lives, fun o => blk_free hb o⟩
set_option maxRecDepth 100000 in
set_option maxHeartbeats 1000000 in
theorem ask_any (w : World) (g : Nat) (S : Nat → Prop) (s : C.St) (f : Int) (h : Ref w g S s) :
    Calls Try.prog 36 #[.pointer (some ⟨g, 0, none⟩), .int .i64 f] w fun e w' => e = .returned (.int .i64 (readE s f)) ∧ w' = w := by
  obtain ⟨v, c0, ck, c1, c2, c3, _⟩ := h.cells
  clear h c0 c1 c3
  unfold readE refE
  cases ho : s.off with
  | true =>
    rw [ho] at c2
    simp only [if_true]
    rw [if_neg (by decide)]
    clear ck
    go_enter Try.func36, Try.ntmps36
    go_wp2
    go_ret
    exact ⟨rfl, rfl⟩
  | false =>
    rw [ho] at c2
    simp only [Bool.false_eq_true, if_false]
    by_cases h1 : f < 0
    · rw [if_pos (Or.inl h1), if_neg (by decide)]
      clear ck
      go_enter Try.func36, Try.ntmps36
      go_wp2
      go_ret
      exact ⟨rfl, rfl⟩
    by_cases h2 : 999 < f
    · rw [if_pos (Or.inr h2), if_neg (by decide)]
      clear ck
      go_enter Try.func36, Try.ntmps36
      go_wp2
      go_ret
      exact ⟨rfl, rfl⟩
    · have h3 : ¬ (f < 0 ∨ 999 < f) := by omega
      simp only [h3, if_false, if_true]
      clear h3
      obtain ⟨k, rfl⟩ : ∃ k : Nat, f = (k : Int) := ⟨f.toNat, by omega⟩
      have ck1 := ck k (by omega)
      have hk : (k : Int) < 1000 := by omega
      clear ck
      rw [Int.toNat_natCast]
      cases hi : s.is k with
      | true =>
        rw [hi] at ck1
        rw [if_pos rfl]
        go_enter Try.func36, Try.ntmps36
        go_wp2
        go_ret
        exact ⟨rfl, rfl⟩
      | false =>
        rw [hi] at ck1
        rw [if_neg (by simp)]
        go_enter Try.func36, Try.ntmps36
        go_wp2
        go_ret
        exact ⟨rfl, rfl⟩
theorem ask_at (w : World) (g : Nat) (S : Nat → Prop) (s : C.St) (f er : Int) (h : Ref w g S s) (he : readE s f = er) :
    Calls Try.prog 36 #[.pointer (some ⟨g, 0, none⟩), .int .i64 f] w fun e w' => e = .returned (.int .i64 er) ∧ w' = w := by
  subst he; exact ask_any w g S s f h
end Go.Proofs.Ytlfcpgncgldieaa
