/-
  Several texts in one: BRow, BRes, WMem.
-/
import Derived.Test.YtnhplbdbgiimkaaGreatDoorZ6
import Derived.Maps.AppendAt
import Derived.Deep.RegionHeldLaw
import Derived.Laws.Rows
import Derived.Laws.ResultCell
import Derived.Test.YtnhplbdbgiimkaaGreatDoorZ1
namespace Go.Proofs.YtnhplbdbgiimkaaGreatDoor
open Go.RowKit Go.Lib
set_option linter.unusedVariables false

/-- From w to w' blocks of S were turned, and new ones made; no other. -/
structure Turn (w w' : World) (S : Nat → Prop) : Prop where
  os : w'.os = w.os
  tape : w'.tape = w.tape
  output : w'.output = w.output
  size : w.heap.size ≤ w'.heap.size
  block : ∀ b, b < w.heap.size → ¬ S b → w'.heap[b]? = w.heap[b]?
/-- S, and the blocks made between w and w'. -/
def Ext (w w' : World) (S : Nat → Prop) : Nat → Prop := fun b => S b ∨ (w.heap.size ≤ b ∧ b < w'.heap.size)
theorem Turn.refl (w : World) (S : Nat → Prop) : Turn w w S := ⟨rfl, rfl, rfl, Nat.le_refl _, fun _ _ _ => rfl⟩
theorem Turn.trans {a b c : World} {S T : Nat → Prop} (h : Turn a b S) (k : Turn b c T) (hT : ∀ x, T x → S x ∨ a.heap.size ≤ x) : Turn a c S :=
  ⟨k.os.trans h.os, k.tape.trans h.tape, k.output.trans h.output, Nat.le_trans h.size k.size, fun x hx hn => (k.block x (Nat.lt_of_lt_of_le hx h.size) (fun ht => by rcases hT x ht with h1 | h1; exact hn h1; omega)).trans (h.block x hx hn)⟩
theorem Turn.ext {a b c : World} {S : Nat → Prop} (h : Turn a b S) (k : Turn b c (Ext a b S)) : Turn a c S := h.trans k fun x hx => hx.imp id And.left
theorem Turn.of_grown {w w' : World} {S : Nat → Prop} {r : Option Nat} (h : w.grownBy w' r) (hr : ∀ b, r = some b → S b) : Turn w w' S :=
  ⟨h.os, h.tape, h.output, h.size, fun b hb hn => h.block b hb (fun e => hn (hr b e.symm))⟩
theorem Turn.of_below {w w' : World} {S : Nat → Prop} (h : Below w.heap.size w w') : Turn w w' S := ⟨h.os, h.tape, h.output, h.size, fun b hb _ => h.block b hb⟩
theorem Turn.below {w w' : World} {S : Nat → Prop} {B : Nat} (h : Turn w w' S) (hB : B ≤ w.heap.size) (hS : ∀ b, S b → B ≤ b) : Below B w w' :=
  ⟨h.os, h.tape, h.output, h.size, fun b hb => h.block b (by omega) (fun hs => by have := hS b hs; omega)⟩
theorem Turn.mono {w w' : World} {S T : Nat → Prop} (h : Turn w w' S) (hS : ∀ b, S b → T b) : Turn w w' T := ⟨h.os, h.tape, h.output, h.size, fun b hb hn => h.block b hb (fun hs => hn (hS b hs))⟩
theorem Turn.setCell {w w' : World} {S : Nat → Prop} (h : Turn w w' S) {b o : Nat} (hb : S b) (v : Value) : Turn w (w'.setCell ⟨b, o, none⟩ v) S :=
  ⟨h.os, h.tape, h.output, by simpa [World.setCell] using h.size, fun x hx hn => (Below.heap_setCell _ _ _ _ (fun e => hn (by simp only at e; rw [e]; exact hb))).trans (h.block x hx hn)⟩
theorem Turn.alloc {w w' : World} {S : Nat → Prop} (h : Turn w w' S) (o : Obj) : Turn w (w'.alloc o) S :=
  ⟨h.os, h.tape, h.output, by have := h.size; simp; omega, fun x hx hn => (Below.heap_alloc _ _ _ (Nat.lt_of_lt_of_le hx h.size)).trans (h.block x hx hn)⟩
theorem Turn.drew {w w' : World} {S : Nat → Prop} (h : Turn w w' S) : Turn w w'.drew S := ⟨h.os, h.tape, h.output, h.size, h.block⟩
theorem set_block {w : World} {g o : Nat} {v : Value} {cs : Array Value} {t : TypeId} {m : Nat × Nat} (h : w.heap[g]? = some (.cells cs t m)) : (w.setCell ⟨g, o, none⟩ v).heap[g]? = some (.cells (cs.setIfInBounds o v) t m) := by
  simp [World.setCell, Array.getElem?_modify, h]
theorem set_other {w : World} {g o b : Nat} {v : Value} (h : b ≠ g) : (w.setCell ⟨g, o, none⟩ v).heap[b]? = w.heap[b]? := Below.heap_setCell _ _ _ _ h
theorem set_grown (w : World) (g o : Nat) (v : Value) : w.grownBy (w.setCell ⟨g, o, none⟩ v) (some g) :=
  ⟨rfl, rfl, rfl, by simp [World.setCell], fun k hk hne => Below.heap_setCell _ _ _ _ (fun e => hne (by rw [e]))⟩
/-- A row stays where its block stays. -/
theorem row_same {w w' : World} {base e size n : Nat} {v : Value} {xs : List Value} (h : w.ownsRow base e size v n xs) (hb : ∀ b, v.ownBlock = some b → w'.heap[b]? = w.heap[b]?) : w'.ownsRow base e size v n xs := by
  refine ⟨h.1, ?_⟩
  rcases h.2 with h2 | ⟨g, cap, cur, rfl, b, c, d⟩
  · exact Or.inl h2
  · exact Or.inr ⟨g, cap, cur, rfl, b, by rw [hb g rfl]; exact c, d⟩
theorem Own.same {w w' : World} {base : Nat} {v : Value} {l : List UInt8} (h : Own w base v l) (hb : ∀ b, v.ownBlock = some b → w'.heap[b]? = w.heap[b]?) : Own w' base v l := row_same h hb
theorem row_lt {w : World} {base e size n : Nat} {v : Value} {xs : List Value} (h : w.ownsRow base e size v n xs) {b : Nat} (hb : v.ownBlock = some b) : b < w.heap.size := (h.lt b hb).2
theorem row_type {w : World} {base e size n : Nat} {v : Value} {xs : List Value} (h : w.ownsRow base e size v n xs) {b : Nat} (hb : v.ownBlock = some b) : ∃ cur, w.heap[b]? = some (.cells cur e (0, 0)) := by
  rcases h.2 with ⟨rfl, _⟩ | ⟨g, cap, cur, rfl, _, c, _⟩
  · cases hb
  · cases hb; exact ⟨cur, c⟩
/-- A source of cells: m elements of size cells each, or nothing. -/
def SrcAt (w : World) (size : Nat) (v : Value) (m : Nat) (news : List Value) : Prop := ∃ p c, v = .slice p m c ∧ news.length = m * size ∧ (p = none → m = 0) ∧ ∀ a, p = some a → ∀ j u, news[j]? = some u → w.cell? (a.add j) = some u
theorem row_src {w : World} {base e size n : Nat} {v : Value} {xs : List Value} (h : w.ownsRow base e size v n xs) : SrcAt w size v n xs := by
  have h0 := h
  rcases h.2 with ⟨rfl, rfl⟩ | ⟨g, cap, cur, rfl, b, c, d⟩
  · exact ⟨none, 0, rfl, h.1, fun _ => rfl, fun a ha => by cases ha⟩
  · exact ⟨some ⟨g, 0, none⟩, cap, rfl, h.1, (fun e => by cases e), fun a ha j u hj => by cases ha; exact h0.cells rfl j u hj⟩
theorem run_append_src {t e size bytes : Nat} {z : Value} (ht : Tryz.prog.underlying t = some (.slice e)) (hinf : (Tryz.prog.info? e).map (fun i => (i.zero, i.size, i.bytes)) = some (some z, size, bytes)) (hzs : z.cells.size = size) (hsz : 0 < size)
    {w : World} {v : Value} {n : Nat} {xs : List Value} (hown : w.ownsRow 0 e size v n xs) (ty : TypeId) {x : Value} {m : Nat} {news : List Value} (hx : SrcAt w size x m news) (h1 : ∀ u ∈ news, u.oneCell' = true) (hn : n + m ≤ maxLen) (hb : (n + m) * bytes ≤ 140737488355328) :
    ∃ v' w', (Builtin.append_ #[t, t] ty #[v, x]).run Tryz.prog w = .ok v' w' ∧ w'.ownsRow 0 e size v' (n + m) (xs ++ news) ∧ w.grownBy w' v.ownBlock ∧ (v'.ownBlock = v.ownBlock ∨ v'.ownBlock = some w.heap.size) := by
  obtain ⟨i, hi, hz, hs, hby⟩ := info_parts hinf
  obtain ⟨p, c, rfl, hl, hp, hc⟩ := hx
  cases p with
  | none =>
    obtain rfl := hp rfl
    obtain rfl : news = [] := List.eq_nil_of_length_eq_zero (by simpa using hl)
    refine ⟨v, w, ?_, by simpa using hown, ⟨rfl, rfl, rfl, Nat.le_refl _, fun _ _ _ => rfl⟩, Or.inl rfl⟩
    rcases hown.2 with ⟨rfl, h0⟩ | ⟨g, cap, cur, rfl, _, _, hnc, _⟩
    · simp [Builtin.append_, run_underlying ht, sizeOf, typeInfo, hi, Builtin.lenOf, Builtin.firstCells]
    · simp [Builtin.append_, run_underlying ht, sizeOf, typeInfo, hi, Builtin.lenOf, Builtin.firstCells, hnc, storeCells]
  | some a =>
    obtain ⟨v', w', h2, h3, h4, _, h5⟩ := run_append_own_at (P := Tryz.prog) w 0 t ty e i z size bytes ht hi hz hs hby hzs hsz v n xs hown a m c news hl (hc a rfl) h1 hn hb (Nat.zero_le _)
    exact ⟨v', w', h2, h3, h4, h5⟩
theorem wpList_append_src {t e size bytes : Nat} {z : Value} (ht : Tryz.prog.underlying t = some (.slice e)) (hinf : (Tryz.prog.info? e).map (fun i => (i.zero, i.size, i.bytes)) = some (some z, size, bytes)) (hzs : z.cells.size = size) (hsz : 0 < size)
    {w : World} {ops : Array Oper} {rest : List Oper} {o : Oper} {a : Act} {Q : Exit → Act → World → Prop} (hgd : o.guard = none) (s y : Operand) (ho : o.op = .call { callee := .builtin .append, args := #[s, y], argTypes := #[t, t] })
    {v : Value} {n : Nat} {xs : List Value} (hs : a.eval s = v) (hown : w.ownsRow 0 e size v n xs) {x : Value} {m : Nat} {news : List Value} (hy : a.eval y = x) (hx : SrcAt w size x m news) (h1 : ∀ u ∈ news, u.oneCell' = true) (hn : n + m ≤ maxLen) (hb : (n + m) * bytes ≤ 140737488355328)
    (h : ∀ v' w', w'.ownsRow 0 e size v' (n + m) (xs ++ news) → w.grownBy w' v.ownBlock → (v'.ownBlock = v.ownBlock ∨ v'.ownBlock = some w.heap.size) → wpList Tryz.prog ops Q rest (a.put o.dst v') w') : wpList Tryz.prog ops Q (o :: rest) a w := by
  refine wpList_plain hgd fun K hK => ?_
  obtain ⟨v', w', hr, h2, h3, h4⟩ := run_append_src ht hinf hzs hsz hown o.type hx h1 hn hb
  unfold Oper.wp execOp
  simp only [ho, resolve, invoke, builtin, Sem.run_bind, Sem.run_pure, Result.andThen_ok, List.map_toArray, List.map_cons, List.map_nil, hs, hy, hr]
  exact hK _ _ (h v' w' h2 h3 h4)
theorem step_append_src {t e size bytes : Nat} {z : Value} (ht : Tryz.prog.underlying t = some (.slice e)) (hinf : (Tryz.prog.info? e).map (fun i => (i.zero, i.size, i.bytes)) = some (some z, size, bytes)) (hzs : z.cells.size = size) (hsz : 0 < size)
    {w : World} {ops : Array Oper} {o : Oper} {a : Act} {K : Act → World → Prop} {Q : Exit → Act → World → Prop} {E : Prop} (hgd : o.guard = none) (s y : Operand) (ho : o.op = .call { callee := .builtin .append, args := #[s, y], argTypes := #[t, t] })
    {v : Value} {n : Nat} {xs : List Value} (hs : a.eval s = v) (hown : w.ownsRow 0 e size v n xs) {x : Value} {m : Nat} {news : List Value} (hy : a.eval y = x) (hx : SrcAt w size x m news) (h1 : ∀ u ∈ news, u.oneCell' = true) (hn : n + m ≤ maxLen) (hb : (n + m) * bytes ≤ 140737488355328)
    (h : ∀ v' w', w'.ownsRow 0 e size v' (n + m) (xs ++ news) → w.grownBy w' v.ownBlock → (v'.ownBlock = v.ownBlock ∨ v'.ownBlock = some w.heap.size) → K (a.put o.dst v') w') : if Region.wanted o (yielded ops a.tmps) = true then Oper.wp Tryz.prog o a w K Q else E := by
  have hw : Region.wanted o (yielded ops a.tmps) = true := by simp [Region.wanted, hgd]
  rw [if_pos hw]
  obtain ⟨v', w', hr, h2, h3, h4⟩ := run_append_src ht hinf hzs hsz hown o.type hx h1 hn hb
  unfold Oper.wp execOp
  simp only [ho, resolve, invoke, builtin, Sem.run_bind, Sem.run_pure, Result.andThen_ok, List.map_toArray, List.map_cons, List.map_nil, hs, hy, hr]
  exact h v' w' h2 h3 h4
/-- A part of bytes as a source. -/
theorem Part.src {w : World} {x : Part} (h : x.ok w) : SrcAt w 1 x.v x.l.length (bytesV x.l) := by
  obtain ⟨p, l, c⟩ := x
  refine ⟨p, c, rfl, by simp [bytesV_length], fun hp => ?_, fun a ha j u hj => ?_⟩
  · subst hp; rw [nil_of_none h.2]; rfl
  · have hjl : j < l.length := by have := (List.getElem?_eq_some_iff.1 hj).1; simpa [bytesV_length] using this
    obtain ⟨b, o, h1, h2⟩ := h.2 (show 0 < l.length by omega)
    simp only at h1 h2 ha
    subst ha
    cases h1
    rw [WideShapes.add_plain, h2 j hjl]
    simp only [bytesV, List.getElem?_map, List.getElem?_eq_getElem hjl, Option.map_some, Option.some.injEq] at hj
    simp [← hj, byteV, List.getD, hjl]
end Go.Proofs.YtnhplbdbgiimkaaGreatDoor

namespace Go.Proofs.YtnhplbdbgiimkaaGreatDoor
open Go.RowKit Go.Lib
set_option linter.unusedVariables false

theorem results_c1 {P : Program} {fn : Func} {p u : Tmp} {ty : TypeId} (h : fn.results = #[.cell p ty, .tmp u]) (tmps : Array Value) (w : World) (g : Nat) (t : TypeId) (cs : Array Value) (fr : Nat × Nat) (d : TypeDesc)
    (hp : tmps.getD p undef = .pointer (some ⟨g, 0, none⟩)) (hg : w.heap[g]? = some (.cells cs t fr))
    (hu : P.underlying ty = some d) (hd : (match d with | .struct _ | .array _ _ => true | _ => false) = true) (hi : (P.info? ty).map (·.size) = some cs.size) :
    (results fn tmps).run P w = .ok (.tuple #[.agg cs, tmps.getD u undef]) w := by
  have hp' : tmps[p]?.getD undef = .pointer (some ⟨g, 0, none⟩) := by simpa using hp
  simp [results, h, hp', asAddr, run_loadVar_row w g t ty cs fr d hg hu hd hi]
theorem results_c2 {P : Program} {fn : Func} {p u v : Tmp} {ty : TypeId} (h : fn.results = #[.cell p ty, .tmp u, .tmp v]) (tmps : Array Value) (w : World) (g : Nat) (t : TypeId) (cs : Array Value) (fr : Nat × Nat) (d : TypeDesc)
    (hp : tmps.getD p undef = .pointer (some ⟨g, 0, none⟩)) (hg : w.heap[g]? = some (.cells cs t fr))
    (hu : P.underlying ty = some d) (hd : (match d with | .struct _ | .array _ _ => true | _ => false) = true) (hi : (P.info? ty).map (·.size) = some cs.size) :
    (results fn tmps).run P w = .ok (.tuple #[.agg cs, tmps.getD u undef, tmps.getD v undef]) w := by
  have hp' : tmps[p]?.getD undef = .pointer (some ⟨g, 0, none⟩) := by simpa using hp
  simp [results, h, hp', asAddr, run_loadVar_row w g t ty cs fr d hg hu hd hi]
theorem set3 {w : World} {g : Nat} {a b c x y z : Value} {t : TypeId} {m : Nat × Nat} (h : w.heap[g]? = some (.cells #[a, b, c] t m)) : (((w.setCell ⟨g, 0, none⟩ x).setCell ⟨g, 1, none⟩ y).setCell ⟨g, 2, none⟩ z).heap[g]? = some (.cells #[x, y, z] t m) := by
  rw [set_block (set_block (set_block h))]; simp
theorem set6 {w : World} {g : Nat} {a b c d e f x y z p q r : Value} {t : TypeId} {m : Nat × Nat} (h : w.heap[g]? = some (.cells #[a, b, c, d, e, f] t m)) : ((((((w.setCell ⟨g, 0, none⟩ x).setCell ⟨g, 1, none⟩ y).setCell ⟨g, 2, none⟩ z).setCell ⟨g, 3, none⟩ p).setCell ⟨g, 4, none⟩ q).setCell ⟨g, 5, none⟩ r).heap[g]? = some (.cells #[x, y, z, p, q, r] t m) := by
  rw [set_block (set_block (set_block (set_block (set_block (set_block h)))))]; simp
theorem alloc_blk {w : World} {g : Nat} {o : Obj} {x : Obj} (h : w.heap[g]? = some x) : (w.alloc o).heap[g]? = some x := by
  rw [Below.heap_alloc _ _ _ (Array.getElem?_eq_some_iff.1 h).1]; exact h
theorem drew_heap (w : World) : w.drew.heap = w.heap := rfl
end Go.Proofs.YtnhplbdbgiimkaaGreatDoor

namespace Go.Proofs.YtnhplbdbgiimkaaGreatDoor
open Go.RowKit Go.Lib Go.Maps
open C (upd upd_same upd_other)
set_option linter.unusedVariables false

theorem info_wr : (Tryz.prog.info? 81).map (fun i => (i.zero, i.size, i.bytes)) = some (some (.agg #[.int .i64 0, .int .i64 0, .int .i64 0]), 3, 24) := by kernel_rfl
def encW (x : C.Wr) : List Value := [.int .i64 (x.num : Nat), .int .i64 (x.file : Nat), .int .i64 (x.bytes.length : Nat)]
def rowW (l : List C.Wr) : List Value := l.flatMap encW
theorem rowW_length (l : List C.Wr) : (rowW l).length = l.length * 3 := by
  induction l with
  | nil => rfl
  | cons x r ih =>
    have : rowW (x :: r) = encW x ++ rowW r := rfl
    rw [this, List.length_append, ih, List.length_cons]; simp only [encW, List.length_cons, List.length_nil]; omega
theorem rowW_append (a b : List C.Wr) : rowW a ++ rowW b = rowW (a ++ b) := by simp [rowW]
theorem rowW_one (l : List C.Wr) : ∀ u ∈ rowW l, u.oneCell' = true := by
  intro u hu
  obtain ⟨x, _, hx⟩ := List.mem_flatMap.1 hu
  simp only [encW, List.mem_cons, List.not_mem_nil, or_false] at hx
  rcases hx with rfl | rfl | rfl <;> rfl
/-- A row of writes in a block of its own. -/
def OwnW (w : World) (v : Value) (l : List C.Wr) : Prop := w.ownsRow 0 81 3 v l.length (rowW l)
theorem OwnW.nil (w : World) : OwnW w (.slice none 0 0) [] := World.ownsRow_nil _ _ _ _
structure Head where
  room : Nat
  used : Nat
  made : Nat
  power : Bool
  lives : Nat
def Head.cells (h : Head) (mb : Nat) : Array Value := #[.int .i64 (h.room : Nat), .int .i64 (h.used : Nat), .map (some mb), .int .i64 (h.made : Nat), .bool h.power, .int .i64 (h.lives : Nat)]
/-- Where the files lie. -/
structure Lay where
  g : Nat
  mb : Nat
  is : Nat → Bool
  c : Nat → Nat
  d : Nat → Value
  w : Nat → Value
def Lay.at (L : Lay) : Int → Option Nat := fun x => if 0 ≤ x ∧ L.is x.toNat = true then some (L.c x.toNat) else none
/-- The blocks of a disk. -/
def Lay.foot (L : Lay) (b : Nat) : Prop := b = L.g ∨ b = L.mb ∨ ∃ k, L.is k = true ∧ (b = L.c k ∨ (L.d k).ownBlock = some b ∨ (L.w k).ownBlock = some b)
structure DMem (w : World) (L : Lay) (n : Nat) (h : Head) (sa : Nat → Nat) (da : Nat → List UInt8) (pn : Nat → List C.Wr) : Prop where
  blk : w.heap[L.g]? = some (.cells (h.cells L.mb) 55)
  map : IMap w L.mb n L.at
  cont : ∀ k, L.is k = true → w.heap[L.c k]? = some (.cells #[L.d k, .int .i64 (sa k : Nat), L.w k] 83)
  dat : ∀ k, L.is k = true → Own w 0 (L.d k) (da k)
  wr : ∀ k, L.is k = true → OwnW w (L.w k) (pn k)
  cinj : ∀ k j, L.is k = true → L.is j = true → L.c k = L.c j → k = j
  dinj : ∀ k j b, L.is k = true → L.is j = true → (L.d k).ownBlock = some b → (L.d j).ownBlock = some b → k = j
  winj : ∀ k j b, L.is k = true → L.is j = true → (L.w k).ownBlock = some b → (L.w j).ownBlock = some b → k = j
section
variable {w w' : World} {L : Lay} {n : Nat} {h : Head} {sa : Nat → Nat} {da : Nat → List UInt8} {pn : Nat → List C.Wr}
theorem DMem.foot_lt (M : DMem w L n h sa da pn) {b : Nat} (hb : L.foot b) : b < w.heap.size := by
  rcases hb with rfl | rfl | ⟨k, hk, rfl | hb | hb⟩
  · exact (Array.getElem?_eq_some_iff.1 M.blk).1
  · exact M.map.lt
  · exact (Array.getElem?_eq_some_iff.1 (M.cont k hk)).1
  · exact row_lt (M.dat k hk) hb
  · exact row_lt (M.wr k hk) hb
/-- Nothing of it is turned. -/
theorem DMem.same (M : DMem w L n h sa da pn) (hs : ∀ b, L.foot b → w'.heap[b]? = w.heap[b]?) : DMem w' L n h sa da pn :=
  ⟨(hs _ (Or.inl rfl)).trans M.blk, M.map.same (hs _ (Or.inr (Or.inl rfl))), fun k hk => (hs _ (Or.inr (Or.inr ⟨k, hk, Or.inl rfl⟩))).trans (M.cont k hk),
    fun k hk => (M.dat k hk).same fun b hb => hs b (Or.inr (Or.inr ⟨k, hk, Or.inr (Or.inl hb)⟩)), fun k hk => row_same (M.wr k hk) fun b hb => hs b (Or.inr (Or.inr ⟨k, hk, Or.inr (Or.inr hb)⟩)), M.cinj, M.dinj, M.winj⟩
theorem cells_ne {w : World} {b b' t t' : Nat} {x x' : Array Value} {m m' : Nat × Nat} (h : w.heap[b]? = some (.cells x t m)) (h' : w.heap[b']? = some (.cells x' t' m')) (hne : t ≠ t') : b ≠ b' := fun e => by
  subst e; rw [h] at h'; simp at h'; exact hne h'.2.1
theorem map_ne {w : World} {b b' t n : Nat} {x : Array Value} {m' : Nat × Nat} {m : Int → Option Nat} (h : w.heap[b]? = some (.cells x t m')) (h' : IMap w b' n m) : b ≠ b' := fun e => by
  subst e; obtain ⟨es, cl, h2⟩ := h'.isMap; rw [h] at h2; simp at h2
theorem DMem.g_mb (M : DMem w L n h sa da pn) : L.g ≠ L.mb := map_ne M.blk M.map
theorem DMem.g_c (M : DMem w L n h sa da pn) {k : Nat} (hk : L.is k = true) : L.g ≠ L.c k := cells_ne M.blk (M.cont k hk) (by decide)
theorem DMem.c_mb (M : DMem w L n h sa da pn) {k : Nat} (hk : L.is k = true) : L.c k ≠ L.mb := map_ne (M.cont k hk) M.map
theorem DMem.d_g (M : DMem w L n h sa da pn) {k b : Nat} (hk : L.is k = true) (hb : (L.d k).ownBlock = some b) : b ≠ L.g := by
  obtain ⟨cur, hc⟩ := row_type (M.dat k hk) hb; exact cells_ne hc M.blk (by decide)
theorem DMem.d_mb (M : DMem w L n h sa da pn) {k b : Nat} (hk : L.is k = true) (hb : (L.d k).ownBlock = some b) : b ≠ L.mb := by
  obtain ⟨cur, hc⟩ := row_type (M.dat k hk) hb; exact map_ne hc M.map
theorem DMem.d_c (M : DMem w L n h sa da pn) {k j b : Nat} (hk : L.is k = true) (hj : L.is j = true) (hb : (L.d k).ownBlock = some b) : b ≠ L.c j := by
  obtain ⟨cur, hc⟩ := row_type (M.dat k hk) hb; exact cells_ne hc (M.cont j hj) (by decide)
theorem DMem.w_g (M : DMem w L n h sa da pn) {k b : Nat} (hk : L.is k = true) (hb : (L.w k).ownBlock = some b) : b ≠ L.g := by
  obtain ⟨cur, hc⟩ := row_type (M.wr k hk) hb; exact cells_ne hc M.blk (by decide)
theorem DMem.w_mb (M : DMem w L n h sa da pn) {k b : Nat} (hk : L.is k = true) (hb : (L.w k).ownBlock = some b) : b ≠ L.mb := by
  obtain ⟨cur, hc⟩ := row_type (M.wr k hk) hb; exact map_ne hc M.map
theorem DMem.w_c (M : DMem w L n h sa da pn) {k j b : Nat} (hk : L.is k = true) (hj : L.is j = true) (hb : (L.w k).ownBlock = some b) : b ≠ L.c j := by
  obtain ⟨cur, hc⟩ := row_type (M.wr k hk) hb; exact cells_ne hc (M.cont j hj) (by decide)
theorem DMem.w_d (M : DMem w L n h sa da pn) {k j b b' : Nat} (hk : L.is k = true) (hj : L.is j = true) (hb : (L.w k).ownBlock = some b) (hb' : (L.d j).ownBlock = some b') : b ≠ b' := by
  obtain ⟨cur, hc⟩ := row_type (M.wr k hk) hb
  obtain ⟨cur', hc'⟩ := row_type (M.dat j hj) hb'
  exact cells_ne hc hc' (by decide)
/-- Its own cells are written. -/
theorem DMem.head (M : DMem w L n h sa da pn) (h' : Head) (hb : w'.heap[L.g]? = some (.cells (h'.cells L.mb) 55)) (hs : ∀ b, L.foot b → b ≠ L.g → w'.heap[b]? = w.heap[b]?) : DMem w' L n h' sa da pn :=
  ⟨hb, M.map.same (hs _ (Or.inr (Or.inl rfl)) M.g_mb.symm), fun k hk => (hs _ (Or.inr (Or.inr ⟨k, hk, Or.inl rfl⟩)) (M.g_c hk).symm).trans (M.cont k hk),
    fun k hk => (M.dat k hk).same fun b hb => hs b (Or.inr (Or.inr ⟨k, hk, Or.inr (Or.inl hb)⟩)) (M.d_g hk hb), fun k hk => row_same (M.wr k hk) fun b hb => hs b (Or.inr (Or.inr ⟨k, hk, Or.inr (Or.inr hb)⟩)) (M.w_g hk hb), M.cinj, M.dinj, M.winj⟩
def Lay.file (L : Lay) (k : Nat) (v1 v2 : Value) : Lay := { L with d := upd L.d k v1, w := upd L.w k v2 }
/-- A file's content, its bytes, its writes are turned. -/
theorem DMem.file (M : DMem w L n h sa da pn) {k : Nat} (hk : L.is k = true) (v1 v2 : Value) (s' : Nat) (l' : List UInt8) (q' : List C.Wr)
    (hs : ∀ b, L.foot b → b ≠ L.c k → (L.d k).ownBlock ≠ some b → (L.w k).ownBlock ≠ some b → w'.heap[b]? = w.heap[b]?)
    (hc : w'.heap[L.c k]? = some (.cells #[v1, .int .i64 (s' : Nat), v2] 83)) (h1 : Own w' 0 v1 l') (h2 : OwnW w' v2 q')
    (l1 : v1.ownBlock = (L.d k).ownBlock ∨ ∀ b, v1.ownBlock = some b → w.heap.size ≤ b) (l2 : v2.ownBlock = (L.w k).ownBlock ∨ ∀ b, v2.ownBlock = some b → w.heap.size ≤ b) :
    DMem w' (L.file k v1 v2) n h (upd sa k s') (upd da k l') (upd pn k q') := by
  have hne : ∀ {j b}, L.is j = true → j ≠ k → (L.d j).ownBlock = some b → w'.heap[b]? = w.heap[b]? := fun {j b} hj e hb =>
    hs b (Or.inr (Or.inr ⟨j, hj, Or.inr (Or.inl hb)⟩)) (M.d_c hj hk hb) (fun e' => e (M.dinj j k b hj hk hb e')) (fun e' => M.w_d hk hj e' hb rfl)
  have hne2 : ∀ {j b}, L.is j = true → j ≠ k → (L.w j).ownBlock = some b → w'.heap[b]? = w.heap[b]? := fun {j b} hj e hb =>
    hs b (Or.inr (Or.inr ⟨j, hj, Or.inr (Or.inr hb)⟩)) (M.w_c hj hk hb) (fun e' => M.w_d hj hk hb e' rfl) (fun e' => e (M.winj j k b hj hk hb e'))
  refine ⟨?_, M.map.same ?_, fun j hj => ?_, fun j hj => ?_, fun j hj => ?_, M.cinj, ?_, ?_⟩
  · exact (hs _ (Or.inl rfl) (M.g_c hk) (fun e => M.d_g hk e rfl) (fun e => M.w_g hk e rfl)).trans M.blk
  · exact hs _ (Or.inr (Or.inl rfl)) (M.c_mb hk).symm (fun e => M.d_mb hk e rfl) (fun e => M.w_mb hk e rfl)
  · by_cases e : j = k
    · subst e
      simp only [Lay.file, upd_same]; exact hc
    · simp only [Lay.file, upd_other _ _ e]
      exact (hs _ (Or.inr (Or.inr ⟨j, hj, Or.inl rfl⟩)) (fun e' => e (M.cinj j k hj hk e')) (fun e' => M.d_c hk hj e' rfl) (fun e' => M.w_c hk hj e' rfl)).trans (M.cont j hj)
  · by_cases e : j = k
    · subst e
      simp only [Lay.file, upd_same]; exact h1
    · simp only [Lay.file, upd_other _ _ e]
      exact (M.dat j hj).same fun b hb => hne hj e hb
  · by_cases e : j = k
    · subst e
      simp only [Lay.file, upd_same]; exact h2
    · simp only [Lay.file, upd_other _ _ e]
      exact row_same (M.wr j hj) fun b hb => hne2 hj e hb
  · have key : ∀ {j b}, L.is j = true → j ≠ k → (L.d j).ownBlock = some b → v1.ownBlock = some b → False := fun {j b} hj e hb h' => by
      rcases l1 with l1 | l1
      · exact e (M.dinj j k b hj hk hb (l1 ▸ h'))
      · have := l1 b h'; have := row_lt (M.dat j hj) hb; omega
    intro i j b hi hj hb hb'
    by_cases e : i = k
    · by_cases e' : j = k
      · rw [e, e']
      · subst e
        simp only [Lay.file, upd_same, upd_other _ _ e'] at hb hb'
        exact (key hj e' hb' hb).elim
    · by_cases e' : j = k
      · subst e'
        simp only [Lay.file, upd_same, upd_other _ _ e] at hb hb'
        exact (key hi e hb hb').elim
      · simp only [Lay.file, upd_other _ _ e, upd_other _ _ e'] at hb hb'
        exact M.dinj i j b hi hj hb hb'
  · have key : ∀ {j b}, L.is j = true → j ≠ k → (L.w j).ownBlock = some b → v2.ownBlock = some b → False := fun {j b} hj e hb h' => by
      rcases l2 with l2 | l2
      · exact e (M.winj j k b hj hk hb (l2 ▸ h'))
      · have := l2 b h'; have := row_lt (M.wr j hj) hb; omega
    intro i j b hi hj hb hb'
    by_cases e : i = k
    · by_cases e' : j = k
      · rw [e, e']
      · subst e
        simp only [Lay.file, upd_same, upd_other _ _ e'] at hb hb'
        exact (key hj e' hb' hb).elim
    · by_cases e' : j = k
      · subst e'
        simp only [Lay.file, upd_same, upd_other _ _ e] at hb hb'
        exact (key hi e hb hb').elim
      · simp only [Lay.file, upd_other _ _ e, upd_other _ _ e'] at hb hb'
        exact M.winj i j b hi hj hb hb'
theorem Lay.file_foot {L : Lay} {k : Nat} {v1 v2 : Value} {N : Nat} (hk : L.is k = true) (l1 : v1.ownBlock = (L.d k).ownBlock ∨ ∀ b, v1.ownBlock = some b → N ≤ b) (l2 : v2.ownBlock = (L.w k).ownBlock ∨ ∀ b, v2.ownBlock = some b → N ≤ b) :
    ∀ b, (L.file k v1 v2).foot b → L.foot b ∨ N ≤ b := by
  intro b hb
  rcases hb with rfl | rfl | ⟨j, hj, rfl | hb | hb⟩
  · exact Or.inl (Or.inl rfl)
  · exact Or.inl (Or.inr (Or.inl rfl))
  · exact Or.inl (Or.inr (Or.inr ⟨j, hj, Or.inl rfl⟩))
  · by_cases e : j = k
    · subst e
      simp only [Lay.file, upd_same] at hb
      rcases l1 with l1 | l1
      · exact Or.inl (Or.inr (Or.inr ⟨j, hj, Or.inr (Or.inl (l1 ▸ hb))⟩))
      · exact Or.inr (l1 b hb)
    · simp only [Lay.file, upd_other _ _ e] at hb
      exact Or.inl (Or.inr (Or.inr ⟨j, hj, Or.inr (Or.inl hb)⟩))
  · by_cases e : j = k
    · subst e
      simp only [Lay.file, upd_same] at hb
      rcases l2 with l2 | l2
      · exact Or.inl (Or.inr (Or.inr ⟨j, hj, Or.inr (Or.inr (l2 ▸ hb))⟩))
      · exact Or.inr (l2 b hb)
    · simp only [Lay.file, upd_other _ _ e] at hb
      exact Or.inl (Or.inr (Or.inr ⟨j, hj, Or.inr (Or.inr hb)⟩))
def Lay.more (L : Lay) (k cb : Nat) : Lay := { L with is := fun j => L.is j || j == k, c := upd L.c k cb, d := upd L.d k (.slice none 0 0), w := upd L.w k (.slice none 0 0) }
/-- A file is made. -/
theorem DMem.more (M : DMem w L n h sa da pn) {k cb : Nat} (hk : L.is k = false) (hcb : w.heap.size ≤ cb) (hs : ∀ b, L.foot b → b ≠ L.mb → w'.heap[b]? = w.heap[b]?)
    (hc : w'.heap[cb]? = some (.cells #[.slice none 0 0, .int .i64 (0 : Nat), .slice none 0 0] 83)) (hm : IMap w' L.mb (n + 1) (mput L.at (k : Int) (some cb))) :
    DMem w' (L.more k cb) (n + 1) h (upd sa k 0) (upd da k []) (upd pn k []) := by
  have isk : ∀ {j}, (L.more k cb).is j = true → j ≠ k → L.is j = true := fun {j} hj e => by
    simp only [Lay.more, Bool.or_eq_true, beq_iff_eq] at hj
    rcases hj with hj | hj
    · exact hj
    · exact absurd hj e
  have clt : ∀ {j}, L.is j = true → L.c j < w.heap.size := fun {j} hj => (Array.getElem?_eq_some_iff.1 (M.cont j hj)).1
  refine ⟨?_, hm.congr ?_, fun j hj => ?_, fun j hj => ?_, fun j hj => ?_, ?_, ?_, ?_⟩
  · exact (hs _ (Or.inl rfl) M.g_mb).trans M.blk
  · intro x
    unfold mput Lay.at
    by_cases hx : x = (k : Int)
    · subst hx
      simp [Lay.more, upd_same]
    · rw [if_neg hx]
      by_cases h0 : 0 ≤ x
      · have e : x.toNat ≠ k := fun e => hx (by omega)
        simp only [Lay.more, upd_other _ _ e]
        have : (x.toNat == k) = false := by simpa using e
        rw [this, Bool.or_false]
      · rw [if_neg (fun h => h0 h.1), if_neg (fun h => h0 h.1)]
  · by_cases e : j = k
    · subst e
      simp only [Lay.more, upd_same]; exact hc
    · have hj' := isk hj e
      simp only [Lay.more, upd_other _ _ e]
      exact (hs _ (Or.inr (Or.inr ⟨j, hj', Or.inl rfl⟩)) (M.c_mb hj')).trans (M.cont j hj')
  · by_cases e : j = k
    · subst e
      simp only [Lay.more, upd_same]; exact Own.nil _ _
    · have hj' := isk hj e
      simp only [Lay.more, upd_other _ _ e]
      exact (M.dat j hj').same fun b hb => hs b (Or.inr (Or.inr ⟨j, hj', Or.inr (Or.inl hb)⟩)) (M.d_mb hj' hb)
  · by_cases e : j = k
    · subst e
      simp only [Lay.more, upd_same]; exact OwnW.nil _
    · have hj' := isk hj e
      simp only [Lay.more, upd_other _ _ e]
      exact row_same (M.wr j hj') fun b hb => hs b (Or.inr (Or.inr ⟨j, hj', Or.inr (Or.inr hb)⟩)) (M.w_mb hj' hb)
  · intro i j hi hj he
    by_cases e : i = k
    · by_cases e' : j = k
      · rw [e, e']
      · subst e
        simp only [Lay.more, upd_same, upd_other _ _ e'] at he
        have := clt (isk hj e'); omega
    · by_cases e' : j = k
      · subst e'
        simp only [Lay.more, upd_same, upd_other _ _ e] at he
        have := clt (isk hi e); omega
      · simp only [Lay.more, upd_other _ _ e, upd_other _ _ e'] at he
        exact M.cinj i j (isk hi e) (isk hj e') he
  · intro i j b hi hj hb hb'
    by_cases e : i = k
    · subst e; simp only [Lay.more, upd_same] at hb; cases hb
    · by_cases e' : j = k
      · subst e'; simp only [Lay.more, upd_same] at hb'; cases hb'
      · simp only [Lay.more, upd_other _ _ e, upd_other _ _ e'] at hb hb'
        exact M.dinj i j b (isk hi e) (isk hj e') hb hb'
  · intro i j b hi hj hb hb'
    by_cases e : i = k
    · subst e; simp only [Lay.more, upd_same] at hb; cases hb
    · by_cases e' : j = k
      · subst e'; simp only [Lay.more, upd_same] at hb'; cases hb'
      · simp only [Lay.more, upd_other _ _ e, upd_other _ _ e'] at hb hb'
        exact M.winj i j b (isk hi e) (isk hj e') hb hb'
theorem Lay.more_foot {L : Lay} {k cb N : Nat} (hcb : N ≤ cb) : ∀ b, (L.more k cb).foot b → L.foot b ∨ N ≤ b := by
  intro b hb
  rcases hb with rfl | rfl | ⟨j, hj, hb⟩
  · exact Or.inl (Or.inl rfl)
  · exact Or.inl (Or.inr (Or.inl rfl))
  · by_cases e : j = k
    · subst e
      simp only [Lay.more, upd_same] at hb
      rcases hb with rfl | hb | hb
      · exact Or.inr hcb
      · cases hb
      · cases hb
    · simp only [Lay.more, upd_other _ _ e, Bool.or_eq_true, beq_iff_eq] at hj hb
      rcases hj with hj | hj
      · exact Or.inl (Or.inr (Or.inr ⟨j, hj, hb⟩))
      · exact absurd hj e
theorem DMem.congr (M : DMem w L n h sa da pn) {sa' : Nat → Nat} {da' : Nat → List UInt8} {pn' : Nat → List C.Wr} (h1 : ∀ k, L.is k = true → sa k = sa' k) (h2 : ∀ k, L.is k = true → da k = da' k) (h3 : ∀ k, L.is k = true → pn k = pn' k) : DMem w L n h sa' da' pn' :=
  ⟨M.blk, M.map, fun k hk => by rw [← h1 k hk]; exact M.cont k hk, fun k hk => by rw [← h2 k hk]; exact M.dat k hk, fun k hk => by rw [← h3 k hk]; exact M.wr k hk, M.cinj, M.dinj, M.winj⟩
end
def headOf (s : C.St) : Head := ⟨s.room, C.used s.ws, s.made, !s.off, s.lives⟩
/-- A disk at block g, in the state s; its blocks are among S. -/
def Disk (w : World) (g : Nat) (S : Nat → Prop) (s : C.St) : Prop := ∃ L, L.g = g ∧ L.is = s.is ∧ DMem w L s.made (headOf s) (C.saf s.ws) (C.dat s.ws) (C.pof s.ws) ∧ (∀ b, L.foot b → S b) ∧ (∀ b, S b → b < w.heap.size) ∧ s.Ok
theorem Disk.turn {w w' : World} {g : Nat} {S T : Nat → Prop} {s : C.St} (h : Disk w g S s) (ht : Turn w w' T) (hd : ∀ b, S b → ¬ T b) : Disk w' g S s := by
  obtain ⟨L, h1, h2, h3, h4, h5, h6⟩ := h
  exact ⟨L, h1, h2, h3.same fun b hb => ht.block b (h5 b (h4 b hb)) (hd b (h4 b hb)), h4, fun b hb => Nat.lt_of_lt_of_le (h5 b hb) ht.size, h6⟩
theorem Disk.below {w w' : World} {g : Nat} {S : Nat → Prop} {s : C.St} (h : Disk w g S s) (hb : Below w.heap.size w w') : Disk w' g S s := h.turn (T := fun _ => False) (Turn.of_below hb) (fun _ _ h => h)
end Go.Proofs.YtnhplbdbgiimkaaGreatDoor
