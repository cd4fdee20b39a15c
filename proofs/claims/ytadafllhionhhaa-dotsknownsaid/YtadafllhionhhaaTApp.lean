/-
  A dot appended to a row of the call's own, whose block holds no byte.
-/
import Derived.Test.YtadafllhionhhaaTGet
import Derived.Deep.AppendSrc
namespace Go.Proofs.Ytadafllhionhhaa
open Go.RowKit Go.Lib
set_option linter.unusedVariables false

theorem nb_cells {w : World} {b : Nat} {X : List Value} {t : TypeId} {m : Nat × Nat} (h : w.heap[b]? = some (.cells X.toArray t m)) (hx : ∀ u ∈ X, ∀ x, u ≠ .int .u8 x) : NB w b := fun o x e => by
  rw [box_cells h o, List.getElem?_toArray] at e
  exact hx _ (List.mem_of_getElem? e) x rfl
theorem rowD_nb (l : List C.Dt) : ∀ u ∈ rowD l, ∀ x, u ≠ .int .u8 x := fun u hu x e => by
  obtain ⟨y, _, hy⟩ := List.mem_flatMap.1 hu
  simp only [encD, List.mem_cons, List.not_mem_nil, or_false] at hy
  rcases hy with rfl | rfl <;> cases e
/-- A row of dots, beside no bytes. -/
def OwnN (w : World) (v : Value) (l : List C.Dt) : Prop := OwnD w v l ∧ ∀ b, v.ownBlock = some b → NB w b
theorem OwnN.nil (w : World) : OwnN w (.slice none 0 0) [] := ⟨OwnD.nil w, fun b hb => by cases hb⟩
theorem OwnN.same {w w' : World} {v : Value} {l : List C.Dt} (h : OwnN w v l) (hb : ∀ b, v.ownBlock = some b → w'.heap[b]? = w.heap[b]?) : OwnN w' v l :=
  ⟨h.1.same hb, fun b hv o x e => h.2 b hv o x (by
    have := hb b hv
    simp only [World.cell?, this] at e
    simp only [World.cell?]; exact e)⟩
theorem run_append_one (v : Value) (l : List C.Dt) (d1 d2 : Int) (vb : Nat) (w : World) (h : OwnN w v l) (hvb : w.heap[vb]? = some (.cells #[.int .i64 d1, .int .i64 d2] 29)) (hl : l.length ≤ 1000000) (ty : TypeId) :
    ∃ v' w', (Builtin.append_ #[37, 37] ty #[v, .slice (some ⟨vb, 0, none⟩) 1 1]).run Try.prog w = .ok v' w' ∧ OwnN w' v' (l ++ [(d1, d2)]) ∧ w.grownBy w' v.ownBlock ∧ (v'.ownBlock = v.ownBlock ∨ v'.ownBlock = some w.heap.size) := by
  obtain ⟨i0, hi0, hz0, hz1, hz2⟩ := info_parts info_dot
  have hs2 := two_src (c := 1) hvb
  have hsrc : Src Try.prog i0.size 37 (.slice (some ⟨vb, 0, none⟩) 1 1) 1 (rowD [(d1, d2)]) w := by
    rw [hz1]
    obtain ⟨p, c, hv, hlen, _, hc⟩ := hs2
    cases hv
    exact Src.ofSlice w u_dots ⟨vb, 0, none⟩ 1 1 _ hlen (hc _ rfl) two_mem
  have grow : ∀ (base : Option Addr) (cap : Nat), (Builtin.firstCells i0.size l.length (.slice base l.length cap)).run Try.prog w.drew = .ok (rowD l).toArray w.drew → l.length ≤ cap → cap < l.length + 1 →
      ∃ v' w', (Builtin.append_ #[37, 37] ty #[.slice base l.length cap, .slice (some ⟨vb, 0, none⟩) 1 1]).run Try.prog w = .ok v' w' ∧ OwnN w' v' (l ++ [(d1, d2)]) ∧ Below w.heap.size w w' ∧ v'.ownBlock = some w.heap.size := by
    intro base cap hold hlc hc
    have hr := run_append_grow_src w 37 37 ty 29 i0 _ u_dots hi0 hz0 base l.length cap (rowD l) hold _ 1 (rowD [(d1, d2)]) hsrc hc (by omega) (by rw [hz2]; exact growslice_fits hc (by omega))
    have hG0 := grownCap_ge w (l.length + 1) cap 29
    have hGm : grownCap w (l.length + 1) cap 29 ≤ maxLen := grownCap_le_maxLen w _ _ _ (by unfold maxLen; omega)
    generalize grownCap w (l.length + 1) cap 29 = G at *
    obtain ⟨X, hX⟩ : ∃ X : List Value, X = rowD (l ++ [(d1, d2)]) ++ rowD (List.replicate (G - (l.length + 1)) ((0, 0) : C.Dt)) := ⟨_, rfl⟩
    have eX : ((rowD l ++ rowD [(d1, d2)]).toArray ++ Builtin.zeroCells (Value.agg #[.int .i64 0, .int .i64 0]).cells (G - (l.length + 1))) = X.toArray := by
      rw [hX, ← zero_dots, rowD_append]; simp
    rw [eX] at hr
    have hq : (w.drew.alloc (.cells X.toArray 29)).heap[w.heap.size]? = some (.cells X.toArray 29) := heap_alloc_new w.drew _
    have lX : (rowD (l ++ [(d1, d2)])).length = (l.length + 1) * 2 := by rw [rowD_length]; simp
    refine ⟨_, _, hr, ⟨?_, fun b hb => ?_⟩, (Below.refl _ w).drew.alloc (by simp) _, rfl⟩
    · have e : (l ++ [(d1, d2)]).length = l.length + 1 := by simp
      have := OwnD.make (l := l ++ [(d1, d2)]) (cap := G) hq (by rw [e]; exact hG0) hGm (by rw [hX, List.length_append, lX, rowD_length, List.length_replicate]; omega) (by rw [e, hX, List.take_append_of_le_length (by omega), List.take_of_length_le (by omega)])
      rw [e] at this
      exact this
    · cases hb
      exact nb_cells hq fun u hu x => by
        rw [hX] at hu
        rcases List.mem_append.1 hu with hu | hu
        · exact rowD_nb _ u hu x
        · exact rowD_nb _ u hu x
  rcases h.1.shape with ⟨rfl, rfl⟩ | ⟨g, cap, cur, rfl, hg, hn, hm, hs, ht⟩
  · obtain ⟨v', w', h1, h2, h3, h4⟩ := grow none 0 (run_firstCells_none w.drew _ 0 0 0) (Nat.le_refl _) (by simp)
    exact ⟨v', w', h1, h2, bel_grow h3 _, Or.inr h4⟩
  · by_cases hroom : l.length + 1 ≤ cap
    · have l2 : (rowD [(d1, d2)]).length = 2 := rfl
      have hr := run_room_k u_dots size_dot ty hg (n := l.length) (cap := cap) (two_src (c := 1) hvb) two_mem hroom (by omega)
      obtain ⟨X, hX⟩ : ∃ X, X = over cur (l.length * 2) (rowD [(d1, d2)]) := ⟨_, rfl⟩
      rw [← hX] at hr
      have hq : (w.setRow g X.toArray).heap[g]? = some (.cells X.toArray 29) := set_over hg
      refine ⟨_, _, hr, ⟨?_, fun b hb => ?_⟩, row_grown w g _, Or.inl rfl⟩
      · have e : (l ++ [(d1, d2)]).length = l.length + 1 := by simp
        have := OwnD.make (l := l ++ [(d1, d2)]) (cap := cap) hq (by rw [e]; exact hroom) hm (by rw [hX, over_length _ _ _ (by omega)]; exact hs) (by
          have lt : (cur.take (l.length * 2)).length = l.length * 2 := by rw [List.length_take]; omega
          rw [e, hX, over, ht, List.take_append_of_le_length (by rw [List.length_append, rowD_length]; omega), List.take_of_length_le (by rw [List.length_append, rowD_length]; omega), rowD_append])
        rw [e] at this
        exact this
      · cases hb
        refine nb_cells hq fun u hu x e => ?_
        rw [hX, over] at hu
        have hcur : ∀ u ∈ cur, ∀ x, u ≠ .int .u8 x := fun u hu x e => by
          obtain ⟨o, ho, eo⟩ := List.getElem_of_mem hu
          refine h.2 g rfl o x ?_
          rw [box_cells hg o, List.getElem?_toArray, List.getElem?_eq_getElem ho, eo, e]
        rcases List.mem_append.1 hu with hu | hu
        · rcases List.mem_append.1 hu with hu | hu
          · exact hcur u (List.mem_of_mem_take hu) x e
          · exact rowD_nb _ u hu x e
        · exact hcur u (List.mem_of_mem_drop hu) x e
    · obtain ⟨v', w', h1, h2, h3, h4⟩ := grow (some ⟨g, 0, none⟩) cap (by
        rw [hz1]
        refine run_load_src (P := Try.prog) (w := w.drew) (m := l.length) (news := rowD l) (seg_src (w := w.drew) (cur := cur) hg _ (rowD_length l) fun k u hk => ?_) l.length _ ?_ (Nat.le_refl _)
        · have hkl := (List.getElem?_eq_some_iff.1 hk).1
          rw [rowD_length] at hkl
          rw [Nat.zero_add, ← hk, ← ht, List.getElem?_take, if_pos hkl]
        · exact (List.take_of_length_le (by rw [rowD_length]; omega)).symm) hn (by omega)
      exact ⟨v', w', h1, h2, bel_grow h3 _, Or.inr h4⟩
theorem wpList_append_one {w : World} {ops : Array Oper} {rest : List Oper} {o : Oper} {a : Act} {Q : Exit → Act → World → Prop} (hgd : o.guard = none) (s y : Operand) (ho : o.op = .call { callee := .builtin .append, args := #[s, y], argTypes := #[37, 37] })
    {v : Value} {l : List C.Dt} {d1 d2 : Int} {vb : Nat} (hs : a.eval s = v) (hy : a.eval y = .slice (some ⟨vb, 0, none⟩) 1 1) (hown : OwnN w v l) (hvb : w.heap[vb]? = some (.cells #[.int .i64 d1, .int .i64 d2] 29)) (hl : l.length ≤ 1000000)
    (h : ∀ v' w', OwnN w' v' (l ++ [(d1, d2)]) → w.grownBy w' v.ownBlock → (v'.ownBlock = v.ownBlock ∨ v'.ownBlock = some w.heap.size) → wpList Try.prog ops Q rest (a.put o.dst v') w') : wpList Try.prog ops Q (o :: rest) a w := by
  refine wpList_plain hgd fun K hK => ?_
  obtain ⟨v', w', hr, h2, h3, h4⟩ := run_append_one v l d1 d2 vb w hown hvb hl o.type
  unfold Oper.wp execOp
  simp only [ho, resolve, invoke, builtin, Sem.run_bind, Sem.run_pure, Result.andThen_ok, List.map_toArray, List.map_cons, List.map_nil, hs, hy, hr]
  exact hK _ _ (h v' w' h2 h3 h4)
end Go.Proofs.Ytadafllhionhhaa
