/-
  Several texts in one: BInts, BIs, BMap.
-/
import Derived.Test.YtnhplbdbgiimkaaGreatDoorZ4
import Derived.Lib.ConvBytes
import Derived.Maps.RangeWalk
import Derived.Maps.Ext
import Derived.Maps.OwnSet
namespace Go.Proofs.YtnhplbdbgiimkaaGreatDoor
open Go.RowKit Go.Lib
set_option linter.unusedVariables false

def NAt (w : World) (p : Option Addr) (l : List Nat) : Prop := 0 < l.length → ∃ b o, p = some ⟨b, o, none⟩ ∧ ∀ i, i < l.length → w.cell? ⟨b, o + i, none⟩ = some (.int .i64 (l.getD i 0 : Nat))
theorem NAt.nil (w : World) (p : Option Addr) : NAt w p [] := fun h => absurd h (Nat.lt_irrefl 0)
theorem NAt.below {w w' : World} {p : Option Addr} {l : List Nat} (h : NAt w p l) (hb : Below w.heap.size w w') : NAt w' p l := fun hl => by
  obtain ⟨b, o, hp, hc⟩ := h hl
  refine ⟨b, o, hp, fun i hi => ?_⟩
  rw [hb.cell (p := ⟨b, o + i, none⟩) (World.block_lt_of_cell? _ _ (hc i hi))]; exact hc i hi
theorem nat_new (w : World) (l : List Nat) (t : TypeId) (m : Nat × Nat) : NAt (w.alloc (.cells (l.map fun z => Value.int .i64 (z : Nat)).toArray t m)) (some ⟨w.heap.size, 0, none⟩) l := fun hl => by
  refine ⟨_, 0, rfl, fun i hi => ?_⟩
  rw [World.cell?_alloc_mark]
  simp [hi]
end Go.Proofs.YtnhplbdbgiimkaaGreatDoor

namespace Go.Proofs.YtnhplbdbgiimkaaGreatDoor
open Go.RowKit Go.Lib
set_option linter.unusedVariables false

/-- A slice's address, length, capacity: it holds these bytes. -/
def Is (w : World) (p : Option Addr) (n c : Nat) (l : List UInt8) : Prop := n = l.length ∧ (Part.mk p l c).ok w
theorem Is.below {w w' : World} {p : Option Addr} {n c : Nat} {l : List UInt8} (h : Is w p n c l) (hb : Below w.heap.size w w') : Is w' p n c l := ⟨h.1, h.2.below hb⟩
theorem Is.nil (w : World) : Is w none 0 0 [] := ⟨rfl, ok_nil _ _ _⟩
theorem Own.is {w : World} {base : Nat} {v : Value} {l : List UInt8} (h : Own w base v l) : ∃ p n c, v = .slice p n c ∧ Is w p n c l := by
  obtain ⟨p, c, hv, hok⟩ := Own.part h
  exact ⟨p, _, c, hv, rfl, hok⟩
theorem Is.len {w : World} {p : Option Addr} {n c : Nat} {l : List UInt8} (h : Is w p n c l) : n = l.length := h.1
theorem clone_is (p : Option Addr) (n c : Nat) (l : List UInt8) (w : World) (hx : Is w p n c l) (hl : l.length ≤ 100000000) :
    Calls Tryz.prog 37 #[.slice p n c] w fun e w' => (∃ p' n' c', e = .returned (.slice p' n' c') ∧ Is w' p' n' c' l) ∧ Below w.heap.size w w' := by
  obtain ⟨rfl, hok⟩ := hx
  refine (clone_any p l c w hok hl).mono ?_
  rintro e w' ⟨⟨v, rfl, ho⟩, hb⟩
  obtain ⟨p', n', c', rfl, hi⟩ := Own.is ho
  exact ⟨⟨p', n', c', rfl, hi⟩, hb⟩
/-- string(x). -/
theorem conv_is {w : World} {p : Option Addr} {n c : Nat} {l : List UInt8} (h : Is w p n c l) : (convert 31 9 (.slice p n c)).run Tryz.prog w = .ok (.string ⟨l.toArray⟩) w := by
  obtain ⟨rfl, hok⟩ := h; exact conv_str (x := ⟨p, l, c⟩) hok
/-- []byte(s). -/
theorem conv_bytes (w : World) (s : ByteArray) (hs : s.size ≤ maxLen) : ∃ p n c w1, (convert 9 31 (.string s)).run Tryz.prog w = .ok (.slice p n c) w1 ∧ Is w1 p n c s.data.toList ∧ Below w.heap.size w w1 := by
  refine ⟨_, _, _, _, Lib.run_convert_string_bytes w 9 31 5 s Tryz.underlying9 Tryz.underlying31 Tryz.underlying5, ⟨by simp, by simpa using hs, fun hl => ⟨_, 0, rfl, fun i hi => ?_⟩⟩, ⟨rfl, rfl, rfl, by rw [bytesWorld_size]; omega, fun k hk => bytesWorld_at_old _ _ _ _ hk⟩⟩
  rw [Nat.zero_add]
  exact bytesWorld_cell _ _ _ _ (by simpa using hi)
end Go.Proofs.YtnhplbdbgiimkaaGreatDoor

namespace Go.Proofs.YtnhplbdbgiimkaaGreatDoor
open Go.RowKit Go.Lib Go.Maps
set_option linter.unusedVariables false

def ptrR : Value → Option (DataW Unit × List MemPlace)
  | .pointer none => some (.nil, [])
  | .pointer (some ⟨b, 0, none⟩) => some (.lit (.int .i64 b), [])
  | _ => none
def ptrD : Option Nat → DataW Unit
  | none => .nil
  | some b => .lit (.int .i64 b)
def ptrV : Option Nat → Value
  | none => .pointer none
  | some b => .pointer (some ⟨b, 0, none⟩)
theorem ptrR_V (m : Option Nat) : ptrR (ptrV m) = some (ptrD m, []) := by cases m <;> rfl
theorem ptrD_inj {a b : Option Nat} (h : ptrD a = ptrD b) : a = b := by
  cases a <;> cases b <;> simp [ptrD] at h
  · rfl
  · congr 1; omega
theorem ptrR_inv {v : Value} {y : DataW Unit × List MemPlace} (h : ptrR v = some y) : ∃ m, v = ptrV m ∧ y = (ptrD m, []) := by
  unfold ptrR at h
  split at h
  · cases h; exact ⟨none, rfl, rfl⟩
  · cases h; exact ⟨some _, rfl, rfl⟩
  · cases h
theorem int_keys : Keyed Tryz.prog 3 := int_keyed Tryz.underlying3
theorem isKey_int (k : Int) : WideAt.IsKeyLit (.int .i64 k) := trivial
theorem same_int (a b : Int) : (Lit.int .i64 a).sameKey (.int .i64 b) = (a == b) := by
  by_cases h : a = b
  · subst h; rw [WideAt.sameKey_self (isKey_int a)]; simp
  · rw [sameKey_ne (fun e => h (by cases e; rfl))]; simp [h]
/-- What a map's reading says of a partial function. -/
def Reads (D : DataW Unit) (m : Int → Option Nat) : Prop := ∀ k, Maps.has D (.int .i64 k) = (m k).isSome ∧ D.atKey (.int .i64 k) .nil = ptrD (m k)
/-- Block b is a map of at most n entries; at k its pointer leads to block m k. -/
def IMap (w : World) (b n : Nat) (m : Int → Option Nat) : Prop := ∃ D, w.ownsMap Tryz.prog 3 ptrR b n D ∧ Reads D m
theorem IMap.lt {w : World} {b n : Nat} {m : Int → Option Nat} (h : IMap w b n m) : b < w.heap.size := by obtain ⟨D, h, _⟩ := h; exact h.lt
theorem IMap.made (w : World) : IMap (w.alloc (.map #[] 0)) w.heap.size 0 (fun _ => none) :=
  ⟨.map [], World.ownsMap_made _ _ _ _, fun k => ⟨rfl, rfl⟩⟩
theorem IMap.same {w w' : World} {b n : Nat} {m : Int → Option Nat} (h : IMap w b n m) (hb : w'.heap[b]? = w.heap[b]?) : IMap w' b n m := by
  obtain ⟨D, ⟨es, clock, h1, r⟩, hr⟩ := h
  exact ⟨D, ⟨es, clock, hb.trans h1, r⟩, hr⟩
theorem IMap.mono {w : World} {b n n' : Nat} {m : Int → Option Nat} (h : IMap w b n m) (hn : n ≤ n') : IMap w b n' m := by
  obtain ⟨D, h1, h2⟩ := h; exact ⟨D, h1.mono hn, h2⟩
theorem IMap.congr {w : World} {b n : Nat} {m m' : Int → Option Nat} (h : IMap w b n m) (he : ∀ k, m k = m' k) : IMap w b n m' := by
  obtain ⟨D, h1, h2⟩ := h; exact ⟨D, h1, fun k => by rw [← he k]; exact h2 k⟩
/-- Block b holds no cells. -/
theorem IMap.isMap {w : World} {b n : Nat} {m : Int → Option Nat} (h : IMap w b n m) : ∃ es clock, w.heap[b]? = some (.map es clock) := by
  obtain ⟨D, ⟨es, clock, h1, r⟩, hr⟩ := h; exact ⟨es, clock, h1⟩
theorem IMap.look {w : World} {b n : Nat} {m : Int → Option Nat} (h : IMap w b n m) {t e : TypeId} (ht : Tryz.prog.underlying t = some (.map 3 e)) (hz : (zeroValue e).run Tryz.prog w = .ok (.pointer none) w) (k : Int) (hk : (Lit.int .i64 k).wf = true) :
    (Instr.lookup t (.map (some b)) (.int .i64 k) false).run Tryz.prog w = .ok (ptrV (m k)) w := by
  obtain ⟨D, h1, h2⟩ := h
  obtain ⟨v, ps, hr, hv⟩ := h1.lookup int_keys ht hz (zd := .nil) (zp := []) rfl (keyOf_int_mk Tryz.underlying3 hk)
  rw [(h2 k).2] at hv
  obtain ⟨m', rfl, he⟩ := ptrR_inv hv
  rw [hr, ptrD_inj (congrArg Prod.fst he)]
def mput (m : Int → Option Nat) (k : Int) (c : Option Nat) : Int → Option Nat := fun x => if x = k then c else m x
theorem Reads.put {D : DataW Unit} {m : Int → Option Nat} (h : Reads D m) (hD : IsMap D) (k : Int) (c : Nat) : Reads (D.put (.int .i64 k) (.lit (.int .i64 c))) (mput m k (some c)) := fun x => by
  by_cases hx : x = k
  · subst hx
    simp only [mput, if_true]
    exact ⟨has_put_same hD (isKey_int x) _, atKey_put_same hD (isKey_int x) _ _⟩
  · have hne : (Lit.int .i64 x) ≠ .int .i64 k := fun e => hx (by cases e; rfl)
    simp only [mput, if_neg hx]
    rw [has_put_other hne, atKey_put_other hne]
    exact h x
theorem Reads.del {D : DataW Unit} {m : Int → Option Nat} (h : Reads D m) (k : Int) : Reads (D.del (.int .i64 k)) (mput m k none) := fun x => by
  by_cases hx : x = k
  · subst hx
    simp only [mput, if_true]
    exact ⟨has_del_same, atKey_del_same _⟩
  · have hne : (Lit.int .i64 x) ≠ .int .i64 k := fun e => hx (by cases e; rfl)
    simp only [mput, if_neg hx]
    rw [has_del_other hne, atKey_del_other hne]
    exact h x
theorem IMap.store {w : World} {b n : Nat} {m : Int → Option Nat} (h : IMap w b n m) {t e : TypeId} (ht : Tryz.prog.underlying t = some (.map 3 e)) (hn : n < maxLen) (k : Int) (hk : (Lit.int .i64 k).wf = true) (c : Nat) :
    ∃ w', (Instr.mapUpdate t (.map (some b)) (.int .i64 k) (.pointer (some ⟨c, 0, none⟩))).run Tryz.prog w = .ok () w' ∧ IMap w' b (n + 1) (mput m k (some c)) ∧ w.grownBy w' (some b) := by
  obtain ⟨D, h1, h2⟩ := h
  obtain ⟨w', hr, ho, hg⟩ := h1.update int_keys ht hn (keyOf_int_mk Tryz.underlying3 hk) (ptrR_V (some c))
  exact ⟨w', hr, ⟨_, ho, h2.put h1.isMap k c⟩, hg⟩
theorem wpList_store_imap {w : World} {ops : Array Oper} {rest : List Oper} {o : Oper} {a : Act} {Q : Exit → Act → World → Prop} (hg : o.guard = none) (x y v : Operand) (t e : TypeId) (hop : o.op = Op.mapUpdate t x y v) (ht : Tryz.prog.underlying t = some (.map 3 e))
    {b n : Nat} {m : Int → Option Nat} (h : IMap w b n m) (hn : n < maxLen) (k : Int) (hk : (Lit.int .i64 k).wf = true) (c : Nat) (hx : a.eval x = .map (some b)) (hy : a.eval y = .int .i64 k) (hv : a.eval v = .pointer (some ⟨c, 0, none⟩))
    (hK : ∀ w', IMap w' b (n + 1) (mput m k (some c)) → w.grownBy w' (some b) → wpList Tryz.prog ops Q rest (a.put o.dst undef) w') : wpList Tryz.prog ops Q (o :: rest) a w := by
  refine wpList_plain hg fun K' hK' => ?_
  obtain ⟨w', hrun, r1, r2⟩ := h.store ht hn k hk c
  unfold Oper.wp
  simp [execOp, hop, hx, hy, hv, hrun, Result.andThen]
  exact hK' _ _ (hK w' r1 r2)
theorem wpList_drop_imap {w : World} {ops : Array Oper} {rest : List Oper} {o : Oper} {a : Act} {Q : Exit → Act → World → Prop} (hg : o.guard = none) (x y : Operand) (t e : TypeId) (hop : o.op = Op.call { callee := Callee.builtin Builtin.delete, args := #[x, y], argTypes := #[t, 3] }) (ht : Tryz.prog.underlying t = some (.map 3 e))
    {b n : Nat} {m : Int → Option Nat} (h : IMap w b n m) (k : Int) (hk : (Lit.int .i64 k).wf = true) (hx : a.eval x = .map (some b)) (hy : a.eval y = .int .i64 k)
    (hK : ∀ w', IMap w' b n (mput m k none) → w.grownBy w' (some b) → wpList Tryz.prog ops Q rest (a.put o.dst (.tuple #[])) w') : wpList Tryz.prog ops Q (o :: rest) a w := by
  obtain ⟨D, h1, h2⟩ := h
  refine wpList_delete_own w hg x y t 3 hop e int_keys ht ptrR b n D hx h1 _ _ hy (keyOf_int_mk Tryz.underlying3 hk) fun w' ho ht' => ?_
  exact hK w' ⟨_, ho, h2.del k⟩ ht'.grown
/-- The map in block b is gone through by the walk in block r: left: which keys are still to come. -/
def IRange (w : World) (b r n : Nat) (m : Int → Option Nat) (left : Int → Bool) (cnt : Nat) : Prop :=
  ∃ D L, w.ranges Tryz.prog 3 ptrR b r n D L cnt ∧ Reads D m ∧ (∀ k, L (.int .i64 k) = left k)
theorem IRange.imap {w : World} {b r n : Nat} {m : Int → Option Nat} {left : Int → Bool} {cnt : Nat} (h : IRange w b r n m left cnt) : IMap w b n m := by
  obtain ⟨D, L, h1, h2, _⟩ := h; exact ⟨D, h1.owns, h2⟩
theorem IRange.left_eq {w : World} {b r n : Nat} {m : Int → Option Nat} {left : Int → Bool} {cnt : Nat} (h : IRange w b r n m left cnt) : w.rangeLeft b r = cnt := by
  obtain ⟨D, L, h1, _⟩ := h; exact h1.left_eq
theorem IRange.lt {w : World} {b r n : Nat} {m : Int → Option Nat} {left : Int → Bool} {cnt : Nat} (h : IRange w b r n m left cnt) : r < w.heap.size := by
  obtain ⟨D, L, h1, _⟩ := h; exact h1.lt
theorem IRange.ne {w : World} {b r n : Nat} {m : Int → Option Nat} {left : Int → Bool} {cnt : Nat} (h : IRange w b r n m left cnt) : r ≠ b := by
  obtain ⟨D, L, h1, _⟩ := h; exact h1.ne
theorem IRange.same {w w' : World} {b r n : Nat} {m : Int → Option Nat} {left : Int → Bool} {cnt : Nat} (h : IRange w b r n m left cnt) (hb : w'.heap[b]? = w.heap[b]?) (hr : w'.heap[r]? = w.heap[r]?) : IRange w' b r n m left cnt := by
  obtain ⟨D, L, h1, h2, h3⟩ := h
  refine ⟨D, L, ?_, h2, h3⟩
  unfold World.ranges at h1 ⊢
  rw [hb, hr]
  exact h1
theorem wpList_range_imap {w : World} {ops : Array Oper} {rest : List Oper} {o : Oper} {a : Act} {Q : Exit → Act → World → Prop} (hg : o.guard = none) (x : Operand) (t e : TypeId) (hop : o.op = Op.range t x) (ht : Tryz.prog.underlying t = some (.map 3 e))
    {b n : Nat} {m : Int → Option Nat} (h : IMap w b n m) (hx : a.eval x = .map (some b))
    (hK : ∀ w' cnt, IRange w' b w.heap.size n m (fun k => (m k).isSome) cnt → w.grownBy w' none → w'.heap.size = w.heap.size + 1 → wpList Tryz.prog ops Q rest (a.put o.dst (.pointer (some ⟨w.heap.size, 0, none⟩))) w') : wpList Tryz.prog ops Q (o :: rest) a w := by
  obtain ⟨D, h1, h2⟩ := h
  refine wpList_range_own w hg x t hop 3 e int_keys ht ptrR b n D hx h1 fun w' hr h3 h4 => ?_
  exact hK w' _ ⟨D, _, hr, h2, fun k => (h2 k).1⟩ h3 h4
theorem wpList_next_imap {w : World} {ops : Array Oper} {rest : List Oper} {o : Oper} {a : Act} {Q : Exit → Act → World → Prop} (hg : o.guard = none) (it : Operand) (hop : o.op = Op.next it false)
    {b r n : Nat} {m : Int → Option Nat} {left : Int → Bool} {cnt : Nat} (h : IRange w b r n m left cnt) (hit : a.eval it = .pointer (some ⟨r, 0, none⟩))
    (hDone : (∀ k, left k = false) → wpList Tryz.prog ops Q rest (a.put o.dst (.tuple #[.bool false])) w)
    (hMore : ∀ (x : Int) (c : Nat) (w' : World) (cnt' : Nat), (Lit.int .i64 x).wf = true → left x = true → m x = some c → IRange w' b r n m (fun k => left k && !(k == x)) cnt' → cnt' < cnt → w.grownBy w' (some r) → w'.heap.size = w.heap.size →
      (Instr.entry (.pointer (some ⟨r, 0, none⟩))).run Tryz.prog w' = .ok (.tuple #[.int .i64 x, .pointer (some ⟨c, 0, none⟩)]) w' → wpList Tryz.prog ops Q rest (a.put o.dst (.tuple #[.bool true, .int .i64 x, .pointer (some ⟨c, 0, none⟩)])) w') : wpList Tryz.prog ops Q (o :: rest) a w := by
  obtain ⟨D, L, h1, h2, h3⟩ := h
  refine wpList_next_ranges w hg it hop 3 int_keys ptrR (Value.int .i64) ptrV (fun key kl hk => by obtain ⟨x, rfl, _⟩ := keyOf_int_inv Tryz.underlying3 hk; exact ⟨x, rfl⟩) (fun v y hv => by obtain ⟨m', rfl, _⟩ := ptrR_inv hv; exact ⟨m', rfl⟩) b r n D L cnt hit h1 ?_ ?_
  · intro _ hl
    exact hDone fun k => by rw [← h3 k]; exact hl _
  · intro x c kl y w' cnt' hkey hlk hv hat hrg hlt hgr hsz hen
    obtain ⟨x', ex, rfl, hwx⟩ := keyOf_int_inv Tryz.underlying3 hkey
    cases ex
    have hh := has_true_of_atKey hat
    rw [(h2 x).1] at hh
    have e1 : ptrD (m x) = ptrD c := by
      rw [← (h2 x).2, hat]
      rw [ptrR_V] at hv
      cases hv; rfl
    have e2 := ptrD_inj e1
    rw [e2] at hh
    cases c with
    | none => cases hh
    | some c =>
      refine hMore x c w' cnt' hwx (by rw [← h3 x]; exact hlk) e2 ⟨D, _, hrg, h2, fun k => ?_⟩ hlt hgr hsz hen
      simp only [h3 k, same_int]
end Go.Proofs.YtnhplbdbgiimkaaGreatDoor
