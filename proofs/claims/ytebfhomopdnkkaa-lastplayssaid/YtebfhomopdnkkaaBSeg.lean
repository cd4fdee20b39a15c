/-
  copy, append with room, clear over rows whose elements take any number of cells: what the block holds then; rows of dots.
-/
import Derived.Test.YtebfhomopdnkkaaBRow
import Derived.Laws.CopyRow
import Derived.Deep.RegionLaw
import Derived.Lib.AppendZerosOnto
namespace Go.Proofs.Ytebfhomopdnkkaa
open Go.RowKit Go.Lib
set_option linter.unusedVariables false

/-- A block with a piece laid over it. -/
def over (cur : List Value) (o : Nat) (vs : List Value) : List Value := cur.take o ++ vs ++ cur.drop (o + vs.length)
theorem over_length (cur : List Value) (o : Nat) (vs : List Value) (h : o + vs.length ≤ cur.length) : (over cur o vs).length = cur.length := by simp [over]; omega
theorem set_over {w : World} {g : Nat} {cur X : List Value} {t : TypeId} (h : w.heap[g]? = some (.cells cur.toArray t)) : (w.setRow g X.toArray).heap[g]? = some (.cells X.toArray t) := setRow_heap w g _ _ t _ h
theorem row_grown (w : World) (g : Nat) (X : Array Value) : w.grownBy (w.setRow g X) (some g) :=
  ⟨rfl, rfl, rfl, by simp [World.setRow], fun k hk hne => setRow_other w g k X (fun e => hne (by rw [e]))⟩
theorem run_store_over {P : Program} {w : World} {g o : Nat} {cur : List Value} {t : TypeId} (h : w.heap[g]? = some (.cells cur.toArray t)) (vs : List Value) (hl : o + vs.length ≤ cur.length) (h1 : ∀ v ∈ vs, v.oneCell' = true) :
    (storeCells ⟨g, o, none⟩ vs 0).run P w = .ok () (w.setRow g (over cur o vs).toArray) := by
  have := run_storeCells_at P g o t vs 0 cur.toArray w h (by simpa using hl) h1
  simpa [over] using this
theorem run_load_src {P : Program} {w : World} {size : Nat} {p : Option Addr} {m c : Nat} {news : List Value} (hs : SrcAt w size (.slice p m c) m news) :
    ∀ k cs, cs = news.take (k * size) → k ≤ m → (Builtin.firstCells size k (.slice p m c)).run P w = .ok cs.toArray w := by
  obtain ⟨p', c', hv, hl, hp, hc⟩ := hs
  cases hv
  intro k cs hcs hk
  subst hcs
  cases p with
  | none =>
    obtain rfl := hp rfl
    have : news = [] := List.eq_nil_of_length_eq_zero (by simpa using hl)
    subst this
    simp [Builtin.firstCells]
  | some a =>
    have hlen : (news.take (k * size)).length = k * size := by
      rw [List.length_take, hl]; exact Nat.min_eq_left (Nat.mul_le_mul_right _ hk)
    have := run_loadCells_list (P := P) w a (news.take (k * size)) (fun j u hj => hc a rfl j u (by
      rw [List.getElem?_take] at hj; split at hj
      · exact hj
      · cases hj))
    rw [hlen] at this
    simpa [Builtin.firstCells] using this
/-- copy: as many elements as the shorter has. -/
theorem run_copy_k {P : Program} {t e size : Nat} (ht : P.underlying t = some (.slice e)) (hsz : (P.info? e).map (·.size) = some size) (ty : TypeId) {w : World} {g o dLen dCap : Nat} {cur : List Value} {te : TypeId} (hg : w.heap[g]? = some (.cells cur.toArray te))
    {p : Option Addr} {m sLen c : Nat} {news : List Value} (hs : SrcAt w size (.slice p m c) m news) (h1 : ∀ u ∈ news, u.oneCell' = true) (hm : Nat.min sLen dLen = m) (hl : o + news.length ≤ cur.length) :
    (Builtin.copy_ #[t, t] ty #[.slice (some ⟨g, o, none⟩) dLen dCap, .slice p sLen c]).run P w = .ok (goInt m) (w.setRow g (over cur o news).toArray) := by
  have hst := run_store_over (P := P) hg news hl h1
  have hnl : news.length = m * size := by obtain ⟨_, _, _, h, _⟩ := hs; exact h
  have hld := run_load_src (P := P) hs m news (by rw [List.take_of_length_le (by omega)]) (Nat.le_refl _)
  have hld' : (Builtin.firstCells size m (.slice p sLen c)).run P w = .ok news.toArray w := by
    cases p <;> exact hld
  cases hq : P.info? e with
  | none => simp [hq] at hsz
  | some i =>
    have hi : i.size = size := by simpa [hq] using hsz
    subst hi
    simp [Builtin.copy_, run_underlying ht, Builtin.lenOf, sizeOf, typeInfo, hq, hm, hld', hst]
/-- append with room. -/
theorem run_room_k {P : Program} {t e size : Nat} (ht : P.underlying t = some (.slice e)) (hsz : (P.info? e).map (·.size) = some size) (ty : TypeId) {w : World} {g n cap : Nat} {cur : List Value} {te : TypeId} (hg : w.heap[g]? = some (.cells cur.toArray te))
    {p : Option Addr} {m c : Nat} {news : List Value} (hs : SrcAt w size (.slice p m c) m news) (h1 : ∀ u ∈ news, u.oneCell' = true) (hroom : n + m ≤ cap) (hl : n * size + news.length ≤ cur.length) :
    (Builtin.append_ #[t, t] ty #[.slice (some ⟨g, 0, none⟩) n cap, .slice p m c]).run P w = .ok (.slice (some ⟨g, 0, none⟩) (n + m) cap) (w.setRow g (over cur (n * size) news).toArray) := by
  have hst := run_store_over (P := P) (o := n * size) hg news hl h1
  have hnl : news.length = m * size := by obtain ⟨_, _, _, h, _⟩ := hs; exact h
  have hld := run_load_src (P := P) hs m news (by rw [List.take_of_length_le (by omega)]) (Nat.le_refl _)
  cases hq : P.info? e with
  | none => simp [hq] at hsz
  | some i =>
    have hi : i.size = size := by simpa [hq] using hsz
    subst hi
    simp [Builtin.append_, run_underlying ht, Builtin.lenOf, sizeOf, typeInfo, hq, hroom, hld, WideShapes.add_plain, hst]
/-- clear. -/
theorem run_clear_k {P : Program} {t e : Nat} (ht : P.underlying t = some (.slice e)) {z : Value} (hz : ∀ w, (zeroValue e).run P w = .ok z w) (ty : TypeId) {w : World} {g o n c : Nat} {cur : List Value} {te : TypeId} (hg : w.heap[g]? = some (.cells cur.toArray te))
    {zs : List Value} (hzs : (Builtin.zeroCells z.cells n).toList = zs) (h1 : ∀ u ∈ zs, u.oneCell' = true) (hn : 0 < n) (hl : o + zs.length ≤ cur.length) :
    (Builtin.clear_ #[t] ty #[.slice (some ⟨g, o, none⟩) n c]).run P w = .ok (.tuple #[]) (w.setRow g (over cur o zs).toArray) := by
  have hst := run_store_over (P := P) hg zs hl h1
  obtain ⟨m, rfl⟩ : ∃ m, n = m + 1 := ⟨n - 1, by omega⟩
  simp [Builtin.clear_, run_underlying ht, hz, hzs, hst]
/-! The operations, where their run is known by an equation. -/
theorem wpList_copy_eq {P : Program} {w : World} {ops : Array Oper} {rest : List Oper} {o : Oper} {a : Act} {Q : Exit → Act → World → Prop} (hgd : o.guard = none) (d s : Operand) (t t' : TypeId)
    (ho : o.op = .call { callee := .builtin .copy, args := #[d, s], argTypes := #[t, t'] }) (v u : Value) (hd : a.eval d = v) (hs : a.eval s = u) {v' : Value} {w' : World}
    (hr : (Builtin.copy_ #[t, t'] o.type #[v, u]).run P w = .ok v' w') (h : wpList P ops Q rest (a.put o.dst v') w') : wpList P ops Q (o :: rest) a w := by
  refine wpList_plain hgd fun K hK => ?_
  unfold Oper.wp execOp
  simp only [ho, resolve, invoke, builtin, Sem.run_bind, Sem.run_pure, Result.andThen_ok, List.map_toArray, List.map_cons, List.map_nil, hd, hs, hr]
  exact hK _ _ h
theorem wpList_clear_eq {P : Program} {w : World} {ops : Array Oper} {rest : List Oper} {o : Oper} {a : Act} {Q : Exit → Act → World → Prop} (hgd : o.guard = none) (d : Operand) (t : TypeId)
    (ho : o.op = .call { callee := .builtin .clear, args := #[d], argTypes := #[t] }) (v : Value) (hd : a.eval d = v) {v' : Value} {w' : World}
    (hr : (Builtin.clear_ #[t] o.type #[v]).run P w = .ok v' w') (h : wpList P ops Q rest (a.put o.dst v') w') : wpList P ops Q (o :: rest) a w := by
  refine wpList_plain hgd fun K hK => ?_
  unfold Oper.wp execOp
  simp only [ho, resolve, invoke, builtin, Sem.run_bind, Sem.run_pure, Result.andThen_ok, List.map_toArray, List.map_cons, List.map_nil, hd, hr]
  exact hK _ _ h
theorem step_copy_eq {P : Program} {ops : Array Oper} {o : Oper} {a : Act} {w : World} {K : Act → World → Prop} {Q : Exit → Act → World → Prop} {E : Prop} (hg : o.guard = none) (d x : Operand) (dT sT : TypeId)
    (hop : o.op = Op.call { callee := Callee.builtin Builtin.copy, args := #[d, x], argTypes := #[dT, sT] }) (v u : Value) (hd : a.eval d = v) (hx : a.eval x = u) {v' : Value} {w' : World}
    (hr : (Builtin.copy_ #[dT, sT] o.type #[v, u]).run P w = .ok v' w') (hK : K (a.put o.dst v') w') : if Region.wanted o (yielded ops a.tmps) = true then Oper.wp P o a w K Q else E := by
  have hw : Region.wanted o (yielded ops a.tmps) = true := by simp [Region.wanted, hg]
  rw [if_pos hw]
  unfold Oper.wp execOp
  simp only [hop, resolve, invoke, builtin, Sem.run_bind, Sem.run_pure, Result.andThen_ok, List.map_toArray, List.map_cons, List.map_nil, hd, hx, hr]
  exact hK
theorem step_append_eq {P : Program} {ops : Array Oper} {o : Oper} {a : Act} {w : World} {K : Act → World → Prop} {Q : Exit → Act → World → Prop} {E : Prop} (hg : o.guard = none) (d x : Operand) (dT sT : TypeId)
    (hop : o.op = Op.call { callee := Callee.builtin Builtin.append, args := #[d, x], argTypes := #[dT, sT] }) (v u : Value) (hd : a.eval d = v) (hx : a.eval x = u) {v' : Value} {w' : World}
    (hr : (Builtin.append_ #[dT, sT] o.type #[v, u]).run P w = .ok v' w') (hK : K (a.put o.dst v') w') : if Region.wanted o (yielded ops a.tmps) = true then Oper.wp P o a w K Q else E := by
  have hw : Region.wanted o (yielded ops a.tmps) = true := by simp [Region.wanted, hg]
  rw [if_pos hw]
  unfold Oper.wp execOp
  simp only [hop, resolve, invoke, builtin, Sem.run_bind, Sem.run_pure, Result.andThen_ok, List.map_toArray, List.map_cons, List.map_nil, hd, hx, hr]
  exact hK
/-- A part of what lies in a block, as a source. -/
theorem seg_src {w : World} {g o size m c : Nat} {cur : List Value} {t : TypeId} (h : w.heap[g]? = some (.cells cur.toArray t)) (news : List Value) (hn : news.length = m * size) (hc : ∀ j u, news[j]? = some u → cur[o + j]? = some u) : SrcAt w size (.slice (some ⟨g, o, none⟩) m c) m news :=
  ⟨some ⟨g, o, none⟩, c, rfl, hn, (fun e => by cases e), fun a ha j u hj => by
    cases ha
    rw [WideShapes.add_plain]
    simp [World.cell?, h, hc j u hj]⟩
/-- Nothing, wherever. -/
theorem no_src (w : World) (size : Nat) (p : Option Addr) (c : Nat) : SrcAt w size (.slice p 0 c) 0 [] := ⟨p, c, rfl, by simp, fun _ => rfl, fun a _ j u hj => by cases hj⟩
end Go.Proofs.Ytebfhomopdnkkaa
