/-
  Several texts in one: BRows, WPiece, WPieceN.
-/
import Derived.Test.YtnhplbdbgiimkaaGreatDoorZ6
import Derived.Test.YtnhplbdbgiimkaaGreatDoorZ7
import Derived.Test.YtnhplbdbgiimkaaGreatDoorZ14
namespace Go.Proofs.YtnhplbdbgiimkaaGreatDoor
open Go.RowKit Go.Lib
set_option linter.unusedVariables false

theorem info_bytes : (Tryz.prog.info? 31).map (fun i => (i.zero, i.size, i.bytes)) = some (some (.slice none 0 0), 1, 24) := by kernel_rfl
/-- A row of parts of the call's own. -/
def OwnP (w : World) (base : Nat) (v : Value) (ps : List Part) : Prop := w.ownsRow base 31 1 v ps.length (ps.map Part.v)
theorem OwnP.nil (w : World) (base : Nat) : OwnP w base (.slice none 0 0) [] := World.ownsRow_nil _ _ _ _
theorem OwnP.keep {w w' : World} {base : Nat} {v : Value} {ps : List Part} (h : OwnP w base v ps) (hk : ∀ k, k < w.heap.size → w'.heap[k]? = w.heap[k]?) : OwnP w' base v ps := by
  obtain ⟨h1, h2⟩ := h
  refine ⟨h1, ?_⟩
  rcases h2 with h2 | ⟨g, cap, cur, a, b, c, d⟩
  · exact Or.inl h2
  · exact Or.inr ⟨g, cap, cur, a, b, by rw [hk g (Array.getElem?_eq_some_iff.1 c).1]; exact c, d⟩
theorem OwnP.below {w w' : World} {base : Nat} {v : Value} {ps : List Part} (h : OwnP w base v ps) (hb : Below w.heap.size w w') : OwnP w' base v ps := OwnP.keep h hb.block
theorem OwnP.ge {w : World} {base : Nat} {v : Value} {ps : List Part} (h : OwnP w base v ps) : ∀ k, v.ownBlock = some k → base ≤ k := fun k hk => (World.ownsRow.lt h k hk).1
theorem OwnP.grown {w w' w0 : World} {base : Nat} {v : Value} {ps : List Part} (h : OwnP w base v ps) (hb : Below base w0 w) (hB : base ≤ w.heap.size) (hg : w.grownBy w' v.ownBlock) : Below base w0 w' := hb.grown hg hB (OwnP.ge h)
/-- Two rows of different element types lie apart. -/
theorem rows_apart {W : World} {base base' e e' size size' n n' : Nat} {v v' : Value} {xs xs' : List Value} (h : W.ownsRow base e size v n xs) (h' : W.ownsRow base' e' size' v' n' xs') (hne : e ≠ e') : v.ownBlock = none ∨ v.ownBlock ≠ v'.ownBlock := by
  rcases h.2 with ⟨rfl, _⟩ | ⟨g, cap, cur, rfl, _, hh, _⟩
  · exact Or.inl rfl
  · rcases h'.2 with ⟨rfl, _⟩ | ⟨g', cap', cur', rfl, _, hh', _⟩
    · exact Or.inr (by simp [Value.ownBlock])
    · refine Or.inr ?_
      intro e2
      have : g = g' := by simpa [Value.ownBlock] using e2
      subst this
      rw [hh] at hh'
      simp at hh'
      exact hne hh'.2
theorem Own.keptP {w w' : World} {base base' : Nat} {v x : Value} {ps : List Part} {l : List UInt8} (h : Own w base x l) (hp : OwnP w base' v ps) (hg : w.grownBy w' v.ownBlock) : Own w' base x l :=
  World.ownsRow.kept h hg (rows_apart h hp (by decide))
theorem wpList_append_one {w : World} {ops : Array Oper} {rest : List Oper} {o : Oper} {a : Act} {Q : Exit → Act → World → Prop} (hgd : o.guard = none) (s x : Operand)
    (ho : o.op = .call { callee := .builtin .append, args := #[s, x], argTypes := #[32, 32] })
    (base : Nat) (v : Value) (ps : List Part) (hs : a.eval s = v) (hown : OwnP w base v ps) (y : Part) (B : Nat) (hx : a.eval x = .slice (some ⟨B, 0, none⟩) 1 1) (hy : w.cell? ⟨B, 0, none⟩ = some y.v) (hn : ps.length ≤ 100000) (hB : base ≤ w.heap.size)
    (h : ∀ v' w', OwnP w' base v' (ps ++ [y]) → w.grownBy w' v.ownBlock → wpList Tryz.prog ops Q rest (a.put o.dst v') w') : wpList Tryz.prog ops Q (o :: rest) a w := by
  obtain ⟨i, hi, hz, hsz, hb⟩ := info_parts info_bytes
  refine wpList_append_own _ hgd s x 32 ho base 31 i (.slice none 0 0) 1 24 Tryz.underlying32 hi hz hsz hb rfl (by decide) v ps.length (ps.map Part.v) hs hown ⟨B, 0, none⟩ 1 1 [y.v] hx rfl ?_ ?_ (by unfold maxLen; omega) (by omega) hB ?_
  · intro j u hj
    match j, hj with
    | 0, hj => simp at hj; subst hj; exact hy
  · intro u hu
    simp at hu; subst hu; rfl
  · intro v' w' h1 h2 _
    refine h v' w' ?_ h2
    unfold OwnP
    rw [List.length_append, List.map_append]
    exact h1
/-- A row of rows of bytes, as it lies. -/
def Rows (w : World) (v : Value) (L : List (List UInt8)) : Prop := ∃ p ps cap, v = .slice p ps.length cap ∧ PAt w p ps ∧ (∀ x ∈ ps, x.ok w) ∧ ps.map Part.l = L ∧ ps.length ≤ cap ∧ cap ≤ maxLen
theorem PAt.below {w w' : World} {p : Option Addr} {ps : List Part} (h : PAt w p ps) (hb : Below w.heap.size w w') : PAt w' p ps := fun hl => by
  obtain ⟨b, o, hp, hc⟩ := h hl
  refine ⟨b, o, hp, fun i x hi => ?_⟩
  have hc' := hc i x hi
  have hlt := World.block_lt_of_cell? _ _ hc'
  rw [hb.cell (p := ⟨b, o + i, none⟩) hlt]; exact hc'
theorem Rows.below {w w' : World} {v : Value} {L : List (List UInt8)} (h : Rows w v L) (hb : Below w.heap.size w w') : Rows w' v L := by
  obtain ⟨p, ps, cap, h1, h2, h3, h4⟩ := h
  exact ⟨p, ps, cap, h1, h2.below hb, fun x hx => (h3 x hx).below hb, h4⟩
theorem OwnP.rows {w : World} {base : Nat} {v : Value} {ps : List Part} (h : OwnP w base v ps) (ho : ∀ x ∈ ps, x.ok w) : Rows w v (ps.map Part.l) := by
  obtain ⟨h1, h2⟩ := h
  rcases h2 with ⟨rfl, h0⟩ | ⟨g, cap, cur, rfl, hb, hg, hn, hm, hs, ht⟩
  · have : ps = [] := List.eq_nil_of_length_eq_zero h0
    subst this
    exact ⟨none, [], 0, rfl, fun h => absurd h (Nat.lt_irrefl 0), ho, rfl, Nat.le_refl _, Nat.zero_le _⟩
  · refine ⟨some ⟨g, 0, none⟩, ps, cap, rfl, fun hl => ⟨g, 0, rfl, fun i x hi => ?_⟩, ho, rfl, hn, hm⟩
    rw [cell_of_row w g (0 + i) cur 31 (0, 0) hg]
    have hil : i < ps.length := (List.getElem?_eq_some_iff.1 hi).1
    have hh := congrArg (fun q => q[i]?) ht
    simp only [List.getElem?_take, Nat.mul_one, Nat.zero_add] at hh ⊢
    rw [if_pos hil] at hh
    rw [← Array.getElem?_toList, hh]
    simp [hi]
/-- A row of the call's own of rows of the call's own. -/
def RecsOwn (w : World) (base : Nat) (v : Value) (L : List (List UInt8)) : Prop := ∃ ps : List Part, OwnP w base v ps ∧ (∀ x ∈ ps, Own w base x.v x.l) ∧ ps.map Part.l = L
theorem RecsOwn.nil (w : World) (base : Nat) : RecsOwn w base (.slice none 0 0) [] := ⟨[], OwnP.nil _ _, (fun x hx => by cases hx), rfl⟩
theorem OwnP.same {w w' : World} {base : Nat} {v : Value} {ps : List Part} (h : OwnP w base v ps) (hb : ∀ b, v.ownBlock = some b → w'.heap[b]? = w.heap[b]?) : OwnP w' base v ps := row_same h hb
/-- A row stays where its blocks, and those of its rows, stay. -/
theorem RecsOwn.same {w w' : World} {base : Nat} {v : Value} {L : List (List UInt8)} (h : RecsOwn w base v L) (hb : ∀ b, base ≤ b → b < w.heap.size → (∃ cur, w.heap[b]? = some (.cells cur 5 (0, 0))) ∨ (∃ cur, w.heap[b]? = some (.cells cur 31 (0, 0))) → w'.heap[b]? = w.heap[b]?) : RecsOwn w' base v L := by
  obtain ⟨ps, h1, h2, h3⟩ := h
  exact ⟨ps, h1.same fun b hv => hb b (OwnP.ge h1 b hv) (row_lt h1 hv) (Or.inr (row_type h1 hv)), fun x hx => (h2 x hx).same fun b hv => hb b ((h2 x hx).ge b hv) (row_lt (h2 x hx) hv) (Or.inl (row_type (h2 x hx) hv)), h3⟩
theorem RecsOwn.below {w w' : World} {base : Nat} {v : Value} {L : List (List UInt8)} (h : RecsOwn w base v L) (hb : Below w.heap.size w w') : RecsOwn w' base v L := h.same fun b _ hlt _ => hb.block b hlt
theorem RecsOwn.len {w : World} {base : Nat} {v : Value} {L : List (List UInt8)} (h : RecsOwn w base v L) : ∃ p c, v = .slice p L.length c ∧ c ≤ maxLen := by
  obtain ⟨ps, h1, _, rfl⟩ := h
  rcases h1.2 with ⟨rfl, h0⟩ | ⟨g, cap, cur, rfl, _, _, _, hm, _⟩
  · exact ⟨none, 0, by rw [List.length_map, h0], Nat.zero_le _⟩
  · exact ⟨_, cap, by rw [List.length_map], hm⟩
end Go.Proofs.YtnhplbdbgiimkaaGreatDoor

namespace Go.Proofs.YtnhplbdbgiimkaaGreatDoor
open Go.RowKit Go.Lib
set_option linter.unusedVariables false

theorem drop_ents (a n k : Nat) (rs : List (List UInt8)) (t : List UInt8) : (C.ents a n rs ++ t).drop (C.ents a n (rs.take k)).length = C.ents a (n + (rs.take k).length) (rs.drop k) ++ t := by
  conv => lhs; rw [← List.take_append_drop k rs, C.ents_append, List.append_assoc, List.take_append_drop]
  rw [List.drop_left]
theorem rdE_next (a n k : Nat) (rs : List (List UInt8)) (t : List UInt8) (r : List UInt8) (hr : rs[k]? = some r) (ha : a < 4294967296) (hn : n + rs.length ≤ 4294967296) (hl : r.length ≤ 65536) :
    C.rdE ((C.ents a n rs ++ t).drop (C.ents a n (rs.take k)).length) = C.okR a (n + k) r := by
  have hk : k < rs.length := (List.getElem?_eq_some_iff.1 hr).1
  rw [drop_ents]
  have e : rs.drop k = r :: rs.drop (k + 1) := by
    rw [List.drop_eq_getElem_cons hk]
    congr 1
    rw [List.getElem?_eq_getElem hk] at hr
    exact Option.some.inj hr
  have e2 : (rs.take k).length = k := by rw [List.length_take]; omega
  rw [e, e2, C.ents, List.append_assoc]
  exact C.rdE_ok a (n + k) r _ ha (by omega) hl
theorem ents_take (a n k : Nat) (rs : List (List UInt8)) (r : List UInt8) (hr : rs[k]? = some r) : (C.ents a n (rs.take (k + 1))).length = (C.ents a n (rs.take k)).length + (30 + r.length) := by
  rw [List.take_add_one, hr, C.ents_append]
  simp only [Option.toList_some, List.length_append, C.ents_one, C.ent_length]
theorem ents_le (a n k : Nat) (rs : List (List UInt8)) (t : List UInt8) : (C.ents a n (rs.take k)).length ≤ (C.ents a n rs ++ t).length := by
  conv => rhs; rw [← List.take_append_drop k rs, C.ents_append]
  simp only [List.length_append]; omega
def cellsP (file age first : Nat) (v : Value) (fin : Nat) (torn : Bool) : Array Value := #[.int .i64 (file : Nat), .int .i64 (age : Nat), .int .i64 (first : Nat), v, .int .i64 (fin : Nat), .bool torn]
structure PInv (w wr : World) (file a n : Nat) (rs : List (List UInt8)) (k : Nat) : Prop where
  le : k ≤ rs.length
  pb : ∃ v, wr.heap[w.heap.size + 1]? = some (.cells (cellsP file (if k = 0 then 0 else a) (if k = 0 then 0 else n) v (C.ents a n (rs.take k)).length false) 66) ∧ RecsOwn wr w.heap.size v (rs.take k)
  rb : wr.heap[w.heap.size]? = some (.cells #[.int .i64 0, .int .i64 0, .int .i64 0, .slice none 0 0, .int .i64 0, .bool false] 66)
  bel : Below w.heap.size w wr
def finOf (w wr : World) : Nat := match wr.cell? ⟨w.heap.size + 1, 4, none⟩ with | some v => (intOf v).toNat | none => 0
theorem PInv.fin {w wr : World} {file a n : Nat} {rs : List (List UInt8)} {k : Nat} (h : PInv w wr file a n rs k) : finOf w wr = (C.ents a n (rs.take k)).length := by
  obtain ⟨v, hb, _⟩ := h.pb
  unfold finOf
  rw [blk_cell hb 4]
  simp [cellsP, intOf]
theorem EntRet.ok {e : Ending} {w w' : World} {a n : Nat} {r : List UInt8} (h : EntRet e w w' (C.okR a n r)) : ∃ (z : Nat) (v : Value), e = .returned (.tuple #[.agg #[.int .i64 (a : Nat), .int .i64 (n : Nat), .int .i64 (z : Nat)], v, .int .i64 0]) ∧ Own w' w.heap.size v r := h
theorem EntRet.gap {e : Ending} {w w' : World} (h : EntRet e w w' C.gapR) : ∃ (z : Nat) (v : Value), e = .returned (.tuple #[.agg #[.int .i64 0, .int .i64 0, .int .i64 (z : Nat)], v, .int .i64 8]) ∧ Own w' w.heap.size v [] := h
theorem EntRet.bad {e : Ending} {w w' : World} (h : EntRet e w w' C.badR) : ∃ (z : Nat) (v : Value), e = .returned (.tuple #[.agg #[.int .i64 0, .int .i64 0, .int .i64 (z : Nat)], v, .int .i64 3]) ∧ Own w' w.heap.size v [] := h
structure PMid (w w2 : World) (file a n m : Nat) (v : Value) (f : Nat) (L : List (List UInt8)) (hb z : Nat) (x : Value) (r : List UInt8) : Prop where
  pb : w2.heap[w.heap.size + 1]? = some (.cells (cellsP file a n v f false) 66)
  hb : w2.heap[hb]? = some (.cells #[.int .i64 (a : Nat), .int .i64 (m : Nat), .int .i64 (z : Nat)] 110)
  rb : w2.heap[w.heap.size]? = some (.cells #[.int .i64 0, .int .i64 0, .int .i64 0, .slice none 0 0, .int .i64 0, .bool false] 66)
  ro : RecsOwn w2 w.heap.size v L
  r : Own w2 w.heap.size x r
  bel : Below w.heap.size w w2
theorem pmid_old {w wr w1 : World} {file a n m f z : Nat} {v x : Value} {L : List (List UInt8)} {r : List UInt8} (hbel : Below w.heap.size w wr) (hb : Below wr.heap.size wr w1) (hpb : w1.heap[w.heap.size + 1]? = some (.cells (cellsP file a n v f false) 66))
    (hrb : wr.heap[w.heap.size]? = some (.cells #[.int .i64 0, .int .i64 0, .int .i64 0, .slice none 0 0, .int .i64 0, .bool false] 66)) (hro : RecsOwn wr w.heap.size v L) (hr : Own w1 wr.heap.size x r) :
    PMid w (w1.alloc (.cells #[.int .i64 (a : Nat), .int .i64 (m : Nat), .int .i64 (z : Nat)] 110)) file a n m v f L w1.heap.size z x r :=
  ⟨alloc_blk hpb, heap_alloc_new w1 _, alloc_blk ((hb.block _ (Array.getElem?_eq_some_iff.1 hrb).1).trans hrb), (hro.below hb).below (below_new _ _), (hr.lower hbel.size).below (below_new _ _), bt (bt hbel hb) (below_new _ _)⟩
theorem PMid.drew {w w2 : World} {file a n m f hb z : Nat} {v x : Value} {L : List (List UInt8)} {r : List UInt8} (h : PMid w w2 file a n m v f L hb z x r) : PMid w w2.drew file a n m v f L hb z x r := ⟨h.pb, h.hb, h.rb, h.ro, h.r, h.bel.drew⟩
theorem blk_ne {w : World} {b b' : Nat} {x x' : Array Value} {t t' : TypeId} {m m' : Nat × Nat} (h : w.heap[b]? = some (.cells x t m)) (h' : w.heap[b']? = some (.cells x' t' m')) (hne : t ≠ t') : b ≠ b' := cells_ne h h' hne
theorem pmid_new {w wr w1 : World} {file a n m f z : Nat} {v x : Value} {L : List (List UInt8)} {r : List UInt8} (hbel : Below w.heap.size w wr) (hb : Below wr.heap.size wr w1) (hpb : w1.heap[w.heap.size + 1]? = some (.cells (cellsP file 0 0 v f false) 66))
    (hrb : wr.heap[w.heap.size]? = some (.cells #[.int .i64 0, .int .i64 0, .int .i64 0, .slice none 0 0, .int .i64 0, .bool false] 66)) (hro : RecsOwn wr w.heap.size v L) (hr : Own w1 wr.heap.size x r) :
    PMid w (((w1.setCell ⟨w.heap.size + 1, 1, none⟩ (.int .i64 (a : Nat))).setCell ⟨w.heap.size + 1, 2, none⟩ (.int .i64 (n : Nat))).alloc (.cells #[.int .i64 (a : Nat), .int .i64 (m : Nat), .int .i64 (z : Nat)] 110)) file a n m v f L w1.heap.size z x r := by
  have key : ∀ b : Nat, (∃ cur, w1.heap[b]? = some (Obj.cells cur 5 (0, 0))) ∨ (∃ cur, w1.heap[b]? = some (Obj.cells cur 31 (0, 0))) → ((w1.setCell ⟨w.heap.size + 1, 1, none⟩ (.int .i64 (a : Nat))).setCell ⟨w.heap.size + 1, 2, none⟩ (.int .i64 (n : Nat))).heap[b]? = w1.heap[b]? := by
    rintro b (⟨cur, hc⟩ | ⟨cur, hc⟩)
    · have := blk_ne hc hpb (by decide)
      rw [set_other this, set_other this]
    · have := blk_ne hc hpb (by decide)
      rw [set_other this, set_other this]
  refine ⟨?_, ?_, ?_, ?_, ?_, ?_⟩
  · refine alloc_blk ?_
    rw [set_block (set_block hpb)]; simp [cellsP]
  · have := heap_alloc_new ((w1.setCell ⟨w.heap.size + 1, 1, none⟩ (.int .i64 (a : Nat))).setCell ⟨w.heap.size + 1, 2, none⟩ (.int .i64 (n : Nat))) (.cells #[.int .i64 (a : Nat), .int .i64 (m : Nat), .int .i64 (z : Nat)] 110)
    simpa [World.setCell] using this
  · refine alloc_blk ?_
    rw [set_other (by omega), set_other (by omega)]
    exact (hb.block _ (Array.getElem?_eq_some_iff.1 hrb).1).trans hrb
  · exact ((hro.below hb).same fun b _ _ hc => key b hc).below (below_new _ _)
  · exact ((hr.lower hbel.size).same fun b hb' => key b (Or.inl (row_type hr hb'))).below (below_new _ _)
  · refine bt ?_ (below_new _ _)
    exact ((bt hbel hb).setCell (show w.heap.size ≤ w.heap.size + 1 by omega) _).setCell (show w.heap.size ≤ w.heap.size + 1 by omega) _
theorem grow_keep {W w3 : World} {base e size n : Nat} {v : Value} {xs : List Value} (hown : W.ownsRow base e size v n xs) (hg : W.grownBy w3 v.ownBlock) {b : Nat} {x : Array Value} {t : TypeId} {m : Nat × Nat} (h : W.heap[b]? = some (.cells x t m)) (hne : t ≠ e) : w3.heap[b]? = some (.cells x t m) := by
  rw [hg.block b (Array.getElem?_eq_some_iff.1 h).1 (fun e => ?_)]
  · exact h
  · obtain ⟨cur, hc⟩ := row_type hown e.symm
    exact blk_ne h hc hne rfl
theorem Own.grow {W w3 : World} {base base' : Nat} {v x : Value} {ps : List Part} {l : List UInt8} (h : Own W base x l) (hown : OwnP W base' v ps) (hg : W.grownBy w3 v.ownBlock) : Own w3 base x l := Own.keptP h hown hg
theorem pinv_next {w w2 w3 : World} {file a n m f hb z k : Nat} {v v3 : Value} {rs : List (List UInt8)} {r : List UInt8} {rp : Option Addr} {rc : Nat} {ps : List Part} {o : Obj} (hm : PMid w w2 file a n m v f (rs.take k) hb z (.slice rp r.length rc) r) (hps : OwnP w2 w.heap.size v ps) (hpo : ∀ x ∈ ps, Own w2 w.heap.size x.v x.l) (hpl : ps.map Part.l = rs.take k) (hr : rs[k]? = some r)
    (ho3 : OwnP w3 w.heap.size v3 (ps ++ [⟨rp, r, rc⟩])) (hg3 : (w2.alloc o).grownBy w3 v.ownBlock) (hfk : (C.ents a n (rs.take (k + 1))).length = f + (30 + r.length)) :
    PInv w ((w3.setCell ⟨w.heap.size + 1, 3, none⟩ v3).setCell ⟨w.heap.size + 1, 4, none⟩ (.int .i64 ((f : Int) + (30 + (r.length : Int))))) file a n rs (k + 1) := by
  have hpsW : OwnP (w2.alloc o) w.heap.size v ps := hps.below (below_new _ _)
  have hpb3 := grow_keep hpsW hg3 (alloc_blk hm.pb) (by decide)
  have hrb3 := grow_keep hpsW hg3 (alloc_blk hm.rb) (by decide)
  have hk : k < rs.length := (List.getElem?_eq_some_iff.1 hr).1
  have hs1 : ∀ {b : Nat} {x : Array Value} {t : TypeId} {mm : Nat × Nat}, w3.heap[b]? = some (.cells x t mm) → t ≠ 66 → ((w3.setCell ⟨w.heap.size + 1, 3, none⟩ v3).setCell ⟨w.heap.size + 1, 4, none⟩ (.int .i64 ((f : Int) + (30 + (r.length : Int))))).heap[b]? = w3.heap[b]? := fun h hne => by
    have := blk_ne h hpb3 hne
    rw [set_other this, set_other this]
  refine ⟨hk, ⟨v3, ?_, ps ++ [⟨rp, r, rc⟩], ?_, ?_, ?_⟩, ?_, ?_⟩
  · rw [set_block (set_block hpb3), if_neg (by omega), if_neg (by omega), hfk]
    simp [cellsP]
  · exact ho3.same fun b hb => by
      obtain ⟨cur, hc⟩ := row_type ho3 hb
      exact hs1 hc (by decide)
  · intro x hx
    have hx3 : Own w3 w.heap.size x.v x.l := by
      rcases List.mem_append.1 hx with hx | hx
      · exact ((hpo x hx).below (below_new _ _)).grow hpsW hg3
      · simp only [List.mem_singleton] at hx
        subst hx
        exact (hm.r.below (below_new _ _)).grow hpsW hg3
    exact hx3.same fun b hb => by
      obtain ⟨cur, hc⟩ := row_type hx3 hb
      exact hs1 hc (by decide)
  · rw [List.map_append, hpl, List.take_add_one, hr]; rfl
  · rw [set_other (by omega), set_other (by omega)]; exact hrb3
  · have h1 : Below w.heap.size w w3 := OwnP.grown hpsW (bt hm.bel (below_new _ _)) (by have := hm.bel.size; simp; omega) hg3
    exact (h1.setCell (show w.heap.size ≤ w.heap.size + 1 by omega) _).setCell (show w.heap.size ≤ w.heap.size + 1 by omega) _
theorem OwnP.len {w : World} {base : Nat} {v : Value} {ps : List Part} (h : OwnP w base v ps) : ∃ p c, v = .slice p ps.length c ∧ c ≤ maxLen := by
  rcases h.2 with ⟨rfl, h0⟩ | ⟨g, cap, cur, rfl, _, _, _, hm, _⟩
  · exact ⟨none, 0, by rw [h0], Nat.zero_le _⟩
  · exact ⟨_, cap, rfl, hm⟩
theorem ents_30 (a : Nat) : ∀ (n : Nat) (x : List (List UInt8)), 30 * x.length ≤ (C.ents a n x).length
  | n, [] => by simp [C.ents]
  | n, r :: x => by
    have := ents_30 a (n + 1) x
    simp only [C.ents, List.length_append, C.ent_length, List.length_cons]; omega
structure PEnd (w w2 : World) (file a n : Nat) (v : Value) (f : Nat) (c : Bool) (L : List (List UInt8)) : Prop where
  pb : w2.heap[w.heap.size + 1]? = some (.cells (cellsP file a n v f c) 66)
  rb : w2.heap[w.heap.size]? = some (.cells #[.int .i64 0, .int .i64 0, .int .i64 0, .slice none 0 0, .int .i64 0, .bool false] 66)
  ro : RecsOwn w2 w.heap.size v L
  bel : Below w.heap.size w w2
theorem pend_end {w wr w1 : World} {file a n f : Nat} {v : Value} {L : List (List UInt8)} {o : Obj} {c : Bool} (hbel : Below w.heap.size w wr) (hb : Below wr.heap.size wr w1) (hpb : w1.heap[w.heap.size + 1]? = some (.cells (cellsP file a n v f false) 66))
    (hrb : w1.heap[w.heap.size]? = some (.cells #[.int .i64 0, .int .i64 0, .int .i64 0, .slice none 0 0, .int .i64 0, .bool false] 66)) (hro : RecsOwn wr w.heap.size v L) :
    PEnd w ((w1.setCell ⟨w.heap.size + 1, 5, none⟩ (.bool c)).alloc o) file a n v f c L := by
  refine ⟨alloc_blk ?_, alloc_blk ?_, ?_, bt ((bt hbel hb).setCell (show w.heap.size ≤ w.heap.size + 1 by omega) _) (below_new _ _)⟩
  · rw [set_block hpb]; simp [cellsP]
  · rw [set_other (by omega)]; exact hrb
  · refine ((hro.below hb).same fun b _ _ hc => ?_).below (below_new _ o)
    rcases hc with ⟨cur, hc⟩ | ⟨cur, hc⟩
    · rw [set_other (blk_ne hc hpb (by decide))]
    · rw [set_other (blk_ne hc hpb (by decide))]
theorem pend_fin {w w2 : World} {file a n f : Nat} {v : Value} {c : Bool} {L : List (List UInt8)} (h : PEnd w w2 file a n v f c L) (x y z p q r : Value) :
    RecsOwn ((((((w2.setCell ⟨w.heap.size, 0, none⟩ x).setCell ⟨w.heap.size, 1, none⟩ y).setCell ⟨w.heap.size, 2, none⟩ z).setCell ⟨w.heap.size, 3, none⟩ p).setCell ⟨w.heap.size, 4, none⟩ q).setCell ⟨w.heap.size, 5, none⟩ r) w.heap.size v L ∧
      Below w.heap.size w ((((((w2.setCell ⟨w.heap.size, 0, none⟩ x).setCell ⟨w.heap.size, 1, none⟩ y).setCell ⟨w.heap.size, 2, none⟩ z).setCell ⟨w.heap.size, 3, none⟩ p).setCell ⟨w.heap.size, 4, none⟩ q).setCell ⟨w.heap.size, 5, none⟩ r) := by
  refine ⟨h.ro.same fun b _ _ hc => ?_, (((((h.bel.setCell (Nat.le_refl _) _).setCell (Nat.le_refl _) _).setCell (Nat.le_refl _) _).setCell (Nat.le_refl _) _).setCell (Nat.le_refl _) _).setCell (Nat.le_refl _) _⟩
  have hne : b ≠ w.heap.size := by
    rcases hc with ⟨cur, hc⟩ | ⟨cur, hc⟩
    · exact blk_ne hc h.rb (by decide)
    · exact blk_ne hc h.rb (by decide)
  rw [set_other hne, set_other hne, set_other hne, set_other hne, set_other hne, set_other hne]
theorem pret_gap {file a n a1 n1 f k : Nat} {v : Value} {rs : List (List UInt8)} {l t : List UInt8} (h1 : (if k = 0 then 0 else a) = a1) (h2 : (if k = 0 then 0 else n) = n1) (h3 : k = rs.length) (h4 : (C.ents a n (rs.take k)).length = f) (h5 : l.drop f = t) :
    cellsP file a1 n1 v f (decide (f < l.length)) = cellsP file (if rs = [] then 0 else a) (if rs = [] then 0 else n) v (C.ents a n rs).length (decide (t ≠ [])) := by
  subst h3
  rw [List.take_length] at h4
  have e : rs = [] ↔ rs.length = 0 := by simp
  have e2 : decide (f < l.length) = decide (t ≠ []) := by
    rw [decide_eq_decide, ← h5, ne_eq, List.drop_eq_nil_iff]; omega
  simp only [e]
  rw [e2, h4, ← h1, ← h2]
/-- What readPiece answers. -/
def PieceRet (e : Ending) (w w' : World) (file a n : Nat) (rs : List (List UInt8)) (t : List UInt8) : Prop :=
  (C.rdE t = C.gapR ∧ ∃ v, e = .returned (.tuple #[.agg (cellsP file (if rs = [] then 0 else a) (if rs = [] then 0 else n) v (C.ents a n rs).length (decide (t ≠ []))), .bool true]) ∧ RecsOwn w' w.heap.size v rs) ∨
  (C.rdE t = C.badR ∧ e = .returned (.tuple #[.agg #[.int .i64 0, .int .i64 0, .int .i64 0, .slice none 0 0, .int .i64 0, .bool false], .bool false]))
set_option maxRecDepth 100000 in
set_option maxHeartbeats 4000000 in
theorem piece_any (file g cap a n : Nat) (rs : List (List UInt8)) (t l : List UInt8) (w : World) (hT : Tabs w) (hx : Own w 0 (.slice (some ⟨g, 0, none⟩) l.length cap) l) (hl : l = C.ents a n rs ++ t) (ht : C.rdE t = C.gapR ∨ C.rdE t = C.badR) (ha : a < 4294967296) (hn : n + rs.length ≤ 4294967296) (hr : ∀ r ∈ rs, r.length ≤ 65536) (hbig : l.length ≤ 1048576) :
    Calls Tryz.prog 46 #[.int .i64 (file : Nat), .slice (some ⟨g, 0, none⟩) l.length cap] w fun e w' => PieceRet e w w' file a n rs t ∧ Below w.heap.size w w' := by
  have HX : Hid (Part.ok w ⟨some ⟨g, 0, none⟩, l, cap⟩) := Own.okAt hx rfl
  obtain ⟨hc1, hc2⟩ := Own.caps hx
  have HCM : Hid (cap ≤ maxLen) := hc2
  have hcm' : cap ≤ 9223372036854775807 := Nat.le_trans hc2 (by decide)
  have HT : Hid (Tabs w) := hT
  have HL : Hid (l = C.ents a n rs ++ t) := hl
  have HTT : Hid (C.rdE t = C.gapR ∨ C.rdE t = C.badR) := ht
  have HRR : Hid (∀ r ∈ rs, r.length ≤ 65536) := hr
  have HST : Hid (PInv w ((w.alloc (.cells #[.int .i64 0, .int .i64 0, .int .i64 0, .slice none 0 0, .int .i64 0, .bool false] 66)).alloc (.cells #[.int .i64 (file : Nat), .int .i64 0, .int .i64 0, .slice none 0 0, .int .i64 0, .bool false] 66)) file a n rs 0) := by
    refine ⟨Nat.zero_le _, ⟨.slice none 0 0, ?_, RecsOwn.nil _ _⟩, ?_, bt (below_new _ _) (below_new _ _)⟩
    · have := heap_alloc_new (w.alloc (.cells #[.int .i64 0, .int .i64 0, .int .i64 0, .slice none 0 0, .int .i64 0, .bool false] 66)) (.cells #[.int .i64 (file : Nat), .int .i64 0, .int .i64 0, .slice none 0 0, .int .i64 0, .bool false] 66)
      simp only [World.size_alloc] at this
      simpa [cellsP, C.ents] using this
    · exact alloc_blk (heap_alloc_new w _)
  clear hx hc2 hT hl ht hr
  go_enter Tryz.func46, Tryz.ntmps46
  go_wp2
  go_loopw [9] (fun s wr => ∃ k, PInv w wr file a n rs k) (fun _ wr => l.length - finOf w wr)
  case atStart => exact ⟨0, HST.out⟩
  case round =>
    clear HST
    obtain ⟨k, hinv⟩ := hrel
    have HI : Hid (PInv w wr file a n rs k) := hinv
    obtain ⟨hk, ⟨v, hpb, hro⟩, hrb, hbel⟩ := hinv
    have hfin := PInv.fin HI.out
    have hle := ents_le a n k rs t
    rw [← HL.out] at hle
    obtain ⟨vp, vc, hv, hvc⟩ := RecsOwn.len hro
    have hvc' : vc ≤ 9223372036854775807 := Nat.le_trans hvc (by decide)
    rw [List.length_take, Nat.min_eq_left hk] at hv
    subst hv
    have p0 := blk_cell hpb 0
    have p1 := blk_cell hpb 1
    have p2 := blk_cell hpb 2
    have p3 := blk_cell hpb 3
    have p4 := blk_cell hpb 4
    have p5 := blk_cell hpb 5
    have q1 := blk_free hpb 1
    have q2 := blk_free hpb 2
    have q3 := blk_free hpb 3
    have q4 := blk_free hpb 4
    have q5 := blk_free hpb 5
    simp only [cellsP, List.getElem?_toArray, List.getElem?_cons_succ, List.getElem?_cons_zero] at p0 p1 p2 p3 p4 p5
    have HBL : Hid (Below w.heap.size w wr) := hbel
    have HRO : Hid (RecsOwn wr w.heap.size _ (rs.take k)) := hro
    have HPB : Hid _ := hpb
    have HRB : Hid _ := hrb
    have HFK : Hid (∀ r, rs[k]? = some r → (C.ents a n (rs.take (k + 1))).length = (C.ents a n (rs.take k)).length + (30 + r.length)) := fun r h => ents_take a n k rs r h
    have HN : Hid (∀ r, rs[k]? = some r → C.rdE (l.drop (C.ents a n (rs.take k)).length) = C.okR a (n + k) r) := fun r h => by
      rw [HL.out]; exact rdE_next a n k rs t r h ha hn (HRR.out r (List.mem_of_getElem? h))
    have HE : Hid (k = rs.length → l.drop (C.ents a n (rs.take k)).length = t) := fun h => by
      rw [HL.out, drop_ents, h, List.drop_length, List.take_length]; rfl
    have HDL : Hid ((l.drop (C.ents a n (rs.take k)).length).length = l.length - (C.ents a n (rs.take k)).length) := List.length_drop
    generalize hf : (C.ents a n (rs.take k)).length = f at hle p4 HFK HN HE hfin HDL HPB
    have HF : Hid ((C.ents a n (rs.take k)).length = f) := hf
    have hfi : (f : Int) ≤ l.length := by omega
    have hfc : (f : Int) ≤ cap := by omega
    have HM : Hid _ := hfin
    clear hf hpb hro hrb hbel hvc hfin
    by_cases hlt : k < rs.length
    · obtain ⟨r, hr⟩ : ∃ r, rs[k]? = some r := ⟨rs[k], by simp [hlt]⟩
      have hrd := HN.out r hr
      have hfk := HFK.out r hr
      have hle1 := ents_le a n (k + 1) rs t
      rw [← HL.out, hfk] at hle1
      have hcf : ¬ cap = f := by omega
      have hcf2 : ¬ cap - f = 0 := by omega
      have HRD : Hid _ := hrd
      have HFKR : Hid _ := hfk
      have HR : Hid (rs[k]? = some r) := hr
      have hrl := HRR.out r (List.mem_of_getElem? hr)
      have HC : Hid _ := rent_any (some ⟨g, 0 + f, none⟩) (l.drop f) (l.length - f) (cap - f) wr (Tabs.below HT.out HBL.out) ⟨by rw [HDL.out]; exact Nat.le_trans (by omega) HCM.out, (BAt.tail HX.out.2 f).below HBL.out⟩ HDL.out.symm (by rw [HDL.out]; omega) (Nat.le_trans (Nat.sub_le _ _) HCM.out)
      clear hrd hfk HFK HN HE hr
      rw [HRD.out, Nat.zero_add] at HC
      go_wp2_with fail
      refine Calls.mono HC.out ?_
      rintro e w1 ⟨hr1, hb1⟩
      obtain ⟨z, v1, rfl, ho1⟩ := EntRet.ok hr1
      obtain ⟨rp, rc, rfl, hp1⟩ := Own.part ho1
      have hpb1 := HPB.out
      rw [← hb1.block _ (Array.getElem?_eq_some_iff.1 hpb1).1] at hpb1
      have HB1 : Hid (Below wr.heap.size wr w1) := hb1
      have HO1 : Hid (Own w1 wr.heap.size _ r) := ho1
      have hwl : w.heap.size + 1 < w1.heap.size := (Array.getElem?_eq_some_iff.1 hpb1).1
      have t0 := blk_cell hpb1 0
      have t1 := blk_cell hpb1 1
      have t2 := blk_cell hpb1 2
      have t3 := blk_cell hpb1 3
      have t4 := blk_cell hpb1 4
      have s1 := blk_free hpb1 1
      have s2 := blk_free hpb1 2
      have s3 := blk_free hpb1 3
      have s4 := blk_free hpb1 4
      simp only [cellsP, List.getElem?_toArray, List.getElem?_cons_succ, List.getElem?_cons_zero] at t0 t1 t2 t3 t4
      have HPB1 : Hid _ := hpb1
      clear hr1 ho1 hp1 hb1 hpb1 p0 p1 p2 p3 p4 p5 q1 q2 q3 q4 q5 HC
      have HMID : Hid (if k = 0 then PMid w ((((w1.setCell ⟨w.heap.size + 1, 1, none⟩ (.int .i64 (a : Nat))).setCell ⟨w.heap.size + 1, 2, none⟩ (.int .i64 (n : Nat))).alloc (.cells #[.int .i64 (a : Nat), .int .i64 ((n + k : Nat) : Nat), .int .i64 (z : Nat)] 110))).drew file a n (n + k) (.slice vp k vc) f (rs.take k) w1.heap.size z (.slice rp r.length rc) r
          else PMid w (w1.alloc (.cells #[.int .i64 (a : Nat), .int .i64 ((n + k : Nat) : Nat), .int .i64 (z : Nat)] 110)) file a n (n + k) (.slice vp k vc) f (rs.take k) w1.heap.size z (.slice rp r.length rc) r) := by
        have h := HPB1.out
        by_cases hk0 : k = 0
        · show ite _ _ _
          rw [if_pos hk0]
          rw [if_pos hk0, if_pos hk0] at h
          exact (pmid_new HBL.out HB1.out h HRB.out HRO.out HO1.out).drew
        · show ite _ _ _
          rw [if_neg hk0]
          rw [if_neg hk0, if_neg hk0] at h
          exact pmid_old HBL.out HB1.out h HRB.out HRO.out HO1.out
      have hnk : n + k < 4294967296 := by omega
      by_cases hk0 : k = 0
      case' pos =>
        rw [if_pos hk0] at HMID
        rw [if_pos hk0] at t1 t2
        have hk0i : (k : Int) = 0 := by omega
        have hnk0 : n + k = n := by omega
        rw [hnk0] at HMID ⊢
        go_wp2
        go_region
      case' neg =>
        rw [if_neg hk0] at HMID
        rw [if_neg hk0] at t1 t2
        have hk0i : ¬ (k : Int) = 0 := by omega
      all_goals
        go_upto_region 10 with fail
        refine wp_world (fun wz => PMid w wz file a n (n + k) (.slice vp k vc) f (rs.take k) w1.heap.size z (.slice rp r.length rc) r) (by first | exact HMID.out | (rw [show n + k = n by omega]; exact HMID.out)) ?_
        intro w2 hm
        clear hk0i hk0
        try clear hnk0
        have HM2 : Hid _ := hm
        generalize w1.heap.size = hbk at HM2 hm ⊢
        have t0 := blk_cell hm.pb 0
        have t1 := blk_cell hm.pb 1
        have t2 := blk_cell hm.pb 2
        have t3 := blk_cell hm.pb 3
        have t4 := blk_cell hm.pb 4
        have y0 := blk_cell hm.hb 0
        have y1 := blk_cell hm.hb 1
        have s3 := blk_free hm.pb 3
        have s4 := blk_free hm.pb 4
        simp only [cellsP, List.getElem?_toArray, List.getElem?_cons_succ, List.getElem?_cons_zero] at t0 t1 t2 t3 t4 y0 y1
        have hsz : w.heap.size + 1 < w2.heap.size := (Array.getElem?_eq_some_iff.1 hm.pb).1
        obtain ⟨ps, hps, hpo, hpl⟩ := hm.ro
        have hpn : ps.length = k := by
          have := congrArg List.length hpl
          rw [List.length_map, List.length_take, Nat.min_eq_left hk] at this; exact this
        have HPS : Hid (OwnP w2 w.heap.size _ ps) := hps
        have HPO : Hid (∀ x ∈ ps, Own w2 w.heap.size x.v x.l) := hpo
        have HPL : Hid (ps.map Part.l = rs.take k) := hpl
        have HPN : Hid (ps.length = k) := hpn
        clear hm HMID hps hpo hpl hpn
        have HPA : Hid (OwnP (w2.alloc (.cells #[.slice rp r.length rc] 31)) w.heap.size (.slice vp k vc) ps) := OwnP.below HPS.out (below_new _ _)
        have HBA : Hid (w.heap.size ≤ (w2.alloc (.cells #[.slice rp r.length rc] 31)).heap.size) := by show _ ≤ _; simp; omega
        have HPNN : Hid (ps.length ≤ 100000) := by
          show _ ≤ _
          have h30 := ents_30 a n (rs.take k)
          rw [HF.out, List.length_take, Nat.min_eq_left hk] at h30
          rw [HPN.out]; omega
        have hf30 : (f : Int) + (30 + (r.length : Int)) ≤ 1048576 := by omega
        go_wp2_with (at_builtin; go_must ((refine wpList_append_one rfl _ _ rfl w.heap.size _ ps rfl HPA.out ⟨rp, r, rc⟩ w2.heap.size rfl (by simp [Part.v]) HPNN.out HBA.out ?_; intro v3 w3 ho3 hg3; have hpb3 := grow_keep HPA.out hg3 (alloc_blk (PMid.pb HM2.out)) (by decide); have x3 := blk_cell hpb3 3; have x4 := blk_cell hpb3 4; have z3 := blk_free hpb3 3; have z4 := blk_free hpb3 4; simp only [cellsP, List.getElem?_toArray, List.getElem?_cons_succ, List.getElem?_cons_zero] at x3 x4; have HO3 : Hid _ := ho3; have HG3 : Hid _ := hg3; obtain ⟨p3, c3, hv3, hc3⟩ := OwnP.len ho3; rw [List.length_append, HPN.out, List.length_singleton] at hv3; have hc3' : c3 ≤ 9223372036854775807 := Nat.le_trans hc3 (by decide); clear ho3 hg3 hpb3; subst hv3)))
        go_roundw
        case rel => exact ⟨k + 1, pinv_next HM2.out HPS.out HPO.out HPL.out HR.out HO3.out HG3.out HFKR.out⟩
        case measure =>
          have e := PInv.fin (pinv_next HM2.out HPS.out HPO.out HPL.out HR.out HO3.out HG3.out HFKR.out)
          rw [HFKR.out] at e
          rw [e, HM.out]; omega
    · generalize ha1 : (if k = 0 then 0 else a) = a1 at p1 HPB
      generalize hn1 : (if k = 0 then 0 else n) = n1 at p2 HPB
      have HA1 : Hid _ := ha1
      have HN1 : Hid _ := hn1
      clear ha1 hn1
      have HEE : Hid (l.drop f = t) := HE.out (by omega)
      have HKE : Hid (k = rs.length) := by show _ = _; omega
      clear HN HFK HE
      have hcm0 : cap - f ≤ maxLen := Nat.le_trans (Nat.sub_le _ _) HCM.out
      by_cases hcf : cap = f
      case' pos =>
        have HC : Hid _ := rent_any (some ⟨g, 0, none⟩) (l.drop f) (l.length - f) 0 wr (Tabs.below HT.out HBL.out) ⟨by rw [HDL.out]; omega, by rw [List.drop_eq_nil_of_le (by omega)]; exact fun h => absurd h (Nat.lt_irrefl 0)⟩ HDL.out.symm (by rw [HDL.out]; omega) (Nat.zero_le _)
        have hcf2 : cap - f = 0 := by omega
      case' neg =>
        have HC : Hid _ := rent_any (some ⟨g, 0 + f, none⟩) (l.drop f) (l.length - f) (cap - f) wr (Tabs.below HT.out HBL.out) ⟨by rw [HDL.out]; exact Nat.le_trans (by omega) HCM.out, (BAt.tail HX.out.2 f).below HBL.out⟩ HDL.out.symm (by rw [HDL.out]; omega) hcm0
        have hcf2 : ¬ cap - f = 0 := by omega
        rw [Nat.zero_add] at HC
      case' pos =>
        go_wp2_with fail
        skip
      case' neg =>
        go_wp2_with fail
      all_goals
        rw [HEE.out] at HC
        clear hcm0
        refine Calls.mono HC.out ?_
        rintro e w1 ⟨hr1, hb1⟩
        clear hcf hcf2 HC
        have HB1 : Hid (Below wr.heap.size wr w1) := hb1
        have hpb1 := HPB.out
        rw [← hb1.block _ (Array.getElem?_eq_some_iff.1 hpb1).1] at hpb1
        have hrb1 := HRB.out
        rw [← hb1.block _ (Array.getElem?_eq_some_iff.1 hrb1).1] at hrb1
        have hwl : w.heap.size + 1 < w1.heap.size := (Array.getElem?_eq_some_iff.1 hpb1).1
        have HPB1 : Hid _ := hpb1
        have HRB1 : Hid _ := hrb1
        rcases HTT.out with hgap | hbad
        · rw [hgap] at hr1
          obtain ⟨z, v1, rfl, ho1⟩ := EntRet.gap hr1
          obtain ⟨rp, rc, rfl, hp1⟩ := Own.part ho1
          have t4 := blk_cell hpb1 4
          have t5 := blk_cell hpb1 5
          have s5 := blk_free hpb1 5
          simp only [cellsP, List.getElem?_toArray, List.getElem?_cons_succ, List.getElem?_cons_zero] at t4 t5
          clear hr1 ho1 hp1 hb1 hpb1 hrb1 p0 p1 p2 p3 p4 p5 q1 q2 q3 q4 q5
          have HG : Hid _ := hgap
          clear hgap
          go_upto_region 5 with fail
          refine wp_world (fun wz => PEnd w wz file a1 n1 (.slice vp k vc) f (decide (f < l.length)) (rs.take k)) (pend_end HBL.out HB1.out HPB1.out HRB1.out HRO.out) ?_
          intro w2 hm
          have HM2 : Hid _ := hm
          have t0 := blk_cell hm.pb 0
          have t1 := blk_cell hm.pb 1
          have t2 := blk_cell hm.pb 2
          have t3 := blk_cell hm.pb 3
          have t4 := blk_cell hm.pb 4
          have t5 := blk_cell hm.pb 5
          have r0 := blk_free hm.rb 0
          have r1 := blk_free hm.rb 1
          have r2 := blk_free hm.rb 2
          have r3 := blk_free hm.rb 3
          have r4 := blk_free hm.rb 4
          have r5 := blk_free hm.rb 5
          have z0 := blk_cell hm.rb 0
          have z1 := blk_cell hm.rb 1
          have z2 := blk_cell hm.rb 2
          have z3 := blk_cell hm.rb 3
          have z4 := blk_cell hm.rb 4
          have z5 := blk_cell hm.rb 5
          simp only [cellsP, List.getElem?_toArray, List.getElem?_cons_succ, List.getElem?_cons_zero] at t0 t1 t2 t3 t4 t5 z0 z1 z2 z3 z4 z5
          clear hm
          go_wp2
          refine bodyPost_ret (results_c1 rfl _ _ w.heap.size 66 (cellsP file a1 n1 (.slice vp k vc) f (decide (f < l.length))) (0, 0) _ rfl ?bg Tryz.underlying66 rfl (by kernel_rfl)) rfl ?_
          case bg => exact set6 (PEnd.rb HM2.out)
          obtain ⟨e1, e2⟩ := pend_fin HM2.out (.int .i64 (file : Nat)) (.int .i64 (a1 : Nat)) (.int .i64 (n1 : Nat)) (.slice vp k vc) (.int .i64 (f : Nat)) (.bool (decide (f < l.length)))
          have hL : rs.take k = rs := by rw [HKE.out, List.take_length]
          rw [hL] at e1
          refine ⟨Or.inl ⟨HG.out, _, ?_, e1⟩, e2⟩
          exact congrArg (fun c => Ending.returned (.tuple #[.agg c, .bool true])) (pret_gap HA1.out HN1.out HKE.out HF.out HEE.out)
        · rw [hbad] at hr1
          obtain ⟨z, v1, rfl, ho1⟩ := EntRet.bad hr1
          obtain ⟨rp, rc, rfl, hp1⟩ := Own.part ho1
          clear hr1 ho1 hp1 hb1 hpb1 hrb1 p0 p1 p2 p3 p4 p5 q1 q2 q3 q4 q5
          have HG : Hid _ := hbad
          clear hbad
          go_upto_region 7 with fail
          refine wp_world (fun wz => wz.heap[w.heap.size]? = some (.cells #[.int .i64 0, .int .i64 0, .int .i64 0, .slice none 0 0, .int .i64 0, .bool false] 66) ∧ Below w.heap.size w wz) ⟨alloc_blk HRB1.out, bt (bt HBL.out HB1.out) (below_new _ _)⟩ ?_
          rintro w2 ⟨hm, hbm⟩
          have HM2 : Hid _ := hm
          have HBM : Hid _ := hbm
          have r0 := blk_free hm 0
          have r1 := blk_free hm 1
          have r2 := blk_free hm 2
          have r3 := blk_free hm 3
          have r4 := blk_free hm 4
          have r5 := blk_free hm 5
          have z0 := blk_cell hm 0
          have z1 := blk_cell hm 1
          have z2 := blk_cell hm 2
          have z3 := blk_cell hm 3
          have z4 := blk_cell hm 4
          have z5 := blk_cell hm 5
          simp only [List.getElem?_toArray, List.getElem?_cons_succ, List.getElem?_cons_zero] at z0 z1 z2 z3 z4 z5
          clear hm hbm
          go_wp2
          refine bodyPost_ret (results_c1 rfl _ _ w.heap.size 66 #[.int .i64 0, .int .i64 0, .int .i64 0, .slice none 0 0, .int .i64 0, .bool false] (0, 0) _ rfl ?bb Tryz.underlying66 rfl (by kernel_rfl)) rfl ?_
          case bb => exact set6 HM2.out
          refine ⟨Or.inr ⟨HG.out, rfl⟩, ?_⟩
          exact (((((HBM.out.setCell (Nat.le_refl _) _).setCell (Nat.le_refl _) _).setCell (Nat.le_refl _) _).setCell (Nat.le_refl _) _).setCell (Nat.le_refl _) _).setCell (Nat.le_refl _) _
end Go.Proofs.YtnhplbdbgiimkaaGreatDoor

namespace Go.Proofs.YtnhplbdbgiimkaaGreatDoor
open Go.RowKit Go.Lib
set_option linter.unusedVariables false

set_option maxRecDepth 100000 in
set_option maxHeartbeats 4000000 in
theorem piece_nil (file : Nat) (w : World) (hT : Tabs w) :
    Calls Tryz.prog 46 #[.int .i64 (file : Nat), .slice none 0 0] w fun e w' => PieceRet e w w' file 0 0 [] [] ∧ Below w.heap.size w w' := by
  have HT : Hid (Tabs w) := hT
  have HST : Hid (PInv w ((w.alloc (.cells #[.int .i64 0, .int .i64 0, .int .i64 0, .slice none 0 0, .int .i64 0, .bool false] 66)).alloc (.cells #[.int .i64 (file : Nat), .int .i64 0, .int .i64 0, .slice none 0 0, .int .i64 0, .bool false] 66)) file 0 0 [] 0) := by
    refine ⟨Nat.zero_le _, ⟨.slice none 0 0, ?_, RecsOwn.nil _ _⟩, ?_, bt (below_new _ _) (below_new _ _)⟩
    · have := heap_alloc_new (w.alloc (.cells #[.int .i64 0, .int .i64 0, .int .i64 0, .slice none 0 0, .int .i64 0, .bool false] 66)) (.cells #[.int .i64 (file : Nat), .int .i64 0, .int .i64 0, .slice none 0 0, .int .i64 0, .bool false] 66)
      simp only [World.size_alloc] at this
      simpa [cellsP, C.ents] using this
    · exact alloc_blk (heap_alloc_new w _)
  clear hT
  go_enter Tryz.func46, Tryz.ntmps46
  go_wp2
  go_loopw [9] (fun s wr => PInv w wr file 0 0 [] 0) (fun _ _ => 0)
  case atStart => exact HST.out
  case round =>
    clear HST
    obtain ⟨hk, ⟨v, hpb, hro⟩, hrb, hbel⟩ := hrel
    have HRO : Hid (RecsOwn wr w.heap.size _ ([] : List (List UInt8))) := hro
    obtain ⟨vp, vc, hv, hvc⟩ := RecsOwn.len HRO.out
    have hvc' : vc ≤ 9223372036854775807 := Nat.le_trans hvc (by decide)
    rw [List.length_nil] at hv
    subst hv
    simp only [if_true, List.take_nil, C.ents, List.length_nil] at hpb
    have p4 := blk_cell hpb 4
    simp only [cellsP, List.getElem?_toArray, List.getElem?_cons_succ, List.getElem?_cons_zero] at p4
    have HBL : Hid (Below w.heap.size w wr) := hbel
    have HPB : Hid (wr.heap[w.heap.size + 1]? = some (.cells (cellsP file 0 0 (.slice vp 0 vc) 0 false) 66)) := hpb
    have HRB : Hid _ := hrb
    clear hpb hro hrb hbel hvc
    have HC : Hid _ := rent_any none [] 0 0 wr (Tabs.below HT.out HBL.out) ⟨Nat.zero_le _, BAt.nil _ _⟩ rfl (Nat.le_refl _) (Nat.zero_le _)
    rw [C.rdE_nil] at HC
    go_wp2_with fail
    refine Calls.mono HC.out ?_
    rintro e w1 ⟨hr1, hb1⟩
    have HB1 : Hid (Below wr.heap.size wr w1) := hb1
    have hpb1 := HPB.out
    rw [← hb1.block _ (Array.getElem?_eq_some_iff.1 hpb1).1] at hpb1
    have hrb1 := HRB.out
    rw [← hb1.block _ (Array.getElem?_eq_some_iff.1 hrb1).1] at hrb1
    have hwl : w.heap.size + 1 < w1.heap.size := (Array.getElem?_eq_some_iff.1 hpb1).1
    have HPB1 : Hid _ := hpb1
    have HRB1 : Hid _ := hrb1
    obtain ⟨z, v1, rfl, ho1⟩ := EntRet.gap hr1
    obtain ⟨rp, rc, rfl, hp1⟩ := Own.part ho1
    have t4 := blk_cell hpb1 4
    have t5 := blk_cell hpb1 5
    have s5 := blk_free hpb1 5
    simp only [cellsP, List.getElem?_toArray, List.getElem?_cons_succ, List.getElem?_cons_zero] at t4 t5
    clear hr1 ho1 hp1 hb1 hpb1 hrb1 p4 HC
    go_upto_region 5 with fail
    refine wp_world (fun wz => PEnd w wz file 0 0 (.slice vp 0 vc) 0 false []) (pend_end HBL.out HB1.out HPB1.out HRB1.out HRO.out) ?_
    intro w2 hm
    have HM2 : Hid _ := hm
    have t0 := blk_cell hm.pb 0
    have t1 := blk_cell hm.pb 1
    have t2 := blk_cell hm.pb 2
    have t3 := blk_cell hm.pb 3
    have t4 := blk_cell hm.pb 4
    have t5 := blk_cell hm.pb 5
    have r0 := blk_free hm.rb 0
    have r1 := blk_free hm.rb 1
    have r2 := blk_free hm.rb 2
    have r3 := blk_free hm.rb 3
    have r4 := blk_free hm.rb 4
    have r5 := blk_free hm.rb 5
    have z0 := blk_cell hm.rb 0
    have z1 := blk_cell hm.rb 1
    have z2 := blk_cell hm.rb 2
    have z3 := blk_cell hm.rb 3
    have z4 := blk_cell hm.rb 4
    have z5 := blk_cell hm.rb 5
    simp only [cellsP, List.getElem?_toArray, List.getElem?_cons_succ, List.getElem?_cons_zero] at t0 t1 t2 t3 t4 t5 z0 z1 z2 z3 z4 z5
    clear hm
    go_wp2
    refine bodyPost_ret (results_c1 rfl _ _ w.heap.size 66 (cellsP file 0 0 (.slice vp 0 vc) 0 false) (0, 0) _ rfl ?bg Tryz.underlying66 rfl (by kernel_rfl)) rfl ?_
    case bg => exact set6 (PEnd.rb HM2.out)
    obtain ⟨e1, e2⟩ := pend_fin HM2.out (.int .i64 (file : Nat)) (.int .i64 ((0 : Nat) : Int)) (.int .i64 ((0 : Nat) : Int)) (.slice vp 0 vc) (.int .i64 ((0 : Nat) : Int)) (.bool false)
    exact ⟨Or.inl ⟨C.rdE_nil, _, rfl, e1⟩, e2⟩
end Go.Proofs.YtnhplbdbgiimkaaGreatDoor
