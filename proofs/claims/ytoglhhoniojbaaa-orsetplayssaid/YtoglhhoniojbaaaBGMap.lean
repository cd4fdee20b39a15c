/-
  Maps of any keys to any values, as they lie: an element reads as itself. Asked, written, struck from; in a region that draws its order too.
-/
import Derived.Test.YtoglhhoniojbaaaZ9
import Derived.Test.YtoglhhoniojbaaaBRow
import Derived.Maps.RangeWalk
import Derived.Maps.Ext
import Derived.Maps.OwnSet
namespace Go.Proofs.Ytoglhhoniojbaaa
open Go.RowKit Go.Lib Go.Maps
set_option linter.unusedVariables false

def anyR : Value → Option (DataW Value × List MemPlace) := fun v => some (.held v, [])
/-- What a map's reading says of a partial function. -/
def GReads (D : DataW Value) (m : Lit → Option Value) : Prop := ∀ k, Maps.has D k = (m k).isSome ∧ ∀ z, D.atKey k (.held z) = .held ((m k).getD z)
/-- Block b is a map of at most n entries; at k it holds m k. -/
def GMap (w : World) (K : TypeId) (b n : Nat) (m : Lit → Option Value) : Prop := ∃ D, w.ownsMap Try.prog K anyR b n D ∧ GReads D m
theorem GMap.lt {w : World} {K : TypeId} {b n : Nat} {m : Lit → Option Value} (h : GMap w K b n m) : b < w.heap.size := by obtain ⟨D, h, _⟩ := h; exact h.lt
theorem GMap.made (w : World) (K : TypeId) : GMap (w.alloc (.map #[] 0)) K w.heap.size 0 (fun _ => none) :=
  ⟨.map [], World.ownsMap_made _ _ _ _, fun k => ⟨rfl, fun z => rfl⟩⟩
theorem GMap.same {w w' : World} {K : TypeId} {b n : Nat} {m : Lit → Option Value} (h : GMap w K b n m) (hb : w'.heap[b]? = w.heap[b]?) : GMap w' K b n m := by
  obtain ⟨D, ⟨es, clock, h1, r⟩, hr⟩ := h
  exact ⟨D, ⟨es, clock, hb.trans h1, r⟩, hr⟩
theorem GMap.below {w w' : World} {K : TypeId} {b n : Nat} {m : Lit → Option Value} (h : GMap w K b n m) (hb : Below w.heap.size w w') : GMap w' K b n m := h.same (hb.block b h.lt)
theorem GMap.mono {w : World} {K : TypeId} {b n n' : Nat} {m : Lit → Option Value} (h : GMap w K b n m) (hn : n ≤ n') : GMap w K b n' m := by
  obtain ⟨D, h1, h2⟩ := h; exact ⟨D, h1.mono hn, h2⟩
theorem GMap.congr {w : World} {K : TypeId} {b n : Nat} {m m' : Lit → Option Value} (h : GMap w K b n m) (he : ∀ k, m k = m' k) : GMap w K b n m' := by
  obtain ⟨D, h1, h2⟩ := h; exact ⟨D, h1, fun k => by rw [← he k]; exact h2 k⟩
/-- Block b holds no cells. -/
theorem GMap.isMap {w : World} {K : TypeId} {b n : Nat} {m : Lit → Option Value} (h : GMap w K b n m) : ∃ es clock, w.heap[b]? = some (.map es clock) := by
  obtain ⟨D, ⟨es, clock, h1, r⟩, hr⟩ := h; exact ⟨es, clock, h1⟩
theorem held_inj {a b : Value} {ps ps' : List MemPlace} (h : some (DataW.held (H := Value) a, ps) = some (DataW.held b, ps')) : a = b := by
  injection h with h; injection h with h _; injection h
theorem GMap.look {w : World} {K : TypeId} {b n : Nat} {m : Lit → Option Value} (h : GMap w K b n m) (KK : Keyed Try.prog K) {t e : TypeId} (ht : Try.prog.underlying t = some (.map K e)) {z : Value} (hz : (zeroValue e).run Try.prog w = .ok z w) {key : Value} {kl : Lit} (hk : keyOf Try.prog K key = some kl) :
    (Instr.lookup t (.map (some b)) key false).run Try.prog w = .ok ((m kl).getD z) w := by
  obtain ⟨D, h1, h2⟩ := h
  obtain ⟨v, ps, hr, hv⟩ := h1.lookup KK ht hz (zd := .held z) (zp := []) rfl hk
  rw [(h2 kl).2 z] at hv
  rw [hr, held_inj hv]
theorem GMap.look_ok {w : World} {K : TypeId} {b n : Nat} {m : Lit → Option Value} (h : GMap w K b n m) (KK : Keyed Try.prog K) {t e : TypeId} (ht : Try.prog.underlying t = some (.map K e)) {z : Value} (hz : (zeroValue e).run Try.prog w = .ok z w) {key : Value} {kl : Lit} (hk : keyOf Try.prog K key = some kl) :
    (Instr.lookup t (.map (some b)) key true).run Try.prog w = .ok (.tuple #[(m kl).getD z, .bool (m kl).isSome]) w := by
  obtain ⟨D, h1, h2⟩ := h
  obtain ⟨v, ps, hr, hv⟩ := h1.look_ok KK ht hz (zd := .held z) (zp := []) rfl hk
  rw [(h2 kl).2 z] at hv
  rw [hr, held_inj hv, (h2 kl).1]
def litEq : Lit → Lit → Bool
  | .bool a, .bool b => a == b
  | .int k n, .int k' n' => decide (k = k') && decide (n = n')
  | .float k n, .float k' n' => decide (k = k') && decide (n = n')
  | .string a, .string b => a == b
  | .nil, .nil => true
  | _, _ => false
theorem litEq_iff (a b : Lit) : litEq a b = true ↔ a = b := by
  cases a <;> cases b <;> simp [litEq]
def gput (m : Lit → Option Value) (k : Lit) (c : Option Value) : Lit → Option Value := fun x => if litEq x k = true then c else m x
theorem gput_same (m : Lit → Option Value) (k : Lit) (c : Option Value) : gput m k c k = c := if_pos ((litEq_iff _ _).2 rfl)
theorem gput_other (m : Lit → Option Value) {k x : Lit} (c : Option Value) (h : x ≠ k) : gput m k c x = m x := if_neg fun e => h ((litEq_iff _ _).1 e)
theorem GReads.put {D : DataW Value} {m : Lit → Option Value} (h : GReads D m) (hD : IsMap D) {k : Lit} (hk : WideAt.IsKeyLit k) (c : Value) : GReads (D.put k (.held c)) (gput m k (some c)) := fun x => by
  by_cases hx : x = k
  · subst hx
    simp only [gput_same]
    exact ⟨has_put_same hD hk _, fun z => atKey_put_same hD hk _ _⟩
  · simp only [gput_other m _ hx]
    rw [has_put_other hx]
    exact ⟨(h x).1, fun z => by rw [atKey_put_other hx]; exact (h x).2 z⟩
theorem GReads.del {D : DataW Value} {m : Lit → Option Value} (h : GReads D m) (k : Lit) : GReads (D.del k) (gput m k none) := fun x => by
  by_cases hx : x = k
  · subst hx
    simp only [gput_same]
    exact ⟨has_del_same, fun z => atKey_del_same _⟩
  · simp only [gput_other m _ hx]
    rw [has_del_other hx]
    exact ⟨(h x).1, fun z => by rw [atKey_del_other hx]; exact (h x).2 z⟩
theorem GMap.store {w : World} {K : TypeId} {b n : Nat} {m : Lit → Option Value} (h : GMap w K b n m) (KK : Keyed Try.prog K) {t e : TypeId} (ht : Try.prog.underlying t = some (.map K e)) (hn : n < maxLen) {key : Value} {kl : Lit} (hk : keyOf Try.prog K key = some kl) (c : Value) :
    ∃ w', (Instr.mapUpdate t (.map (some b)) key c).run Try.prog w = .ok () w' ∧ GMap w' K b (n + 1) (gput m kl (some c)) ∧ w.grownBy w' (some b) := by
  obtain ⟨D, h1, h2⟩ := h
  obtain ⟨w', hr, ho, hg⟩ := h1.update KK ht hn hk (val := c) (d := .held c) (ps := []) rfl
  exact ⟨w', hr, ⟨_, ho, h2.put h1.isMap (KK.key hk) c⟩, hg⟩
/-- An operation that writes a map. -/
theorem op_store {w : World} {o : Oper} {a : Act} {K' : Act → World → Prop} {Q : Exit → Act → World → Prop} (x y v : Operand) (t : TypeId) (hop : o.op = Op.mapUpdate t x y v) {K e : TypeId} (ht : Try.prog.underlying t = some (.map K e)) (KK : Keyed Try.prog K)
    {b n : Nat} {m : Lit → Option Value} (h : GMap w K b n m) (hn : n < maxLen) {key c : Value} {kl : Lit} (hk : keyOf Try.prog K key = some kl) (hx : a.eval x = .map (some b)) (hy : a.eval y = key) (hv : a.eval v = c)
    (hK : ∀ w', GMap w' K b (n + 1) (gput m kl (some c)) → w.grownBy w' (some b) → K' (a.put o.dst undef) w') : Oper.wp Try.prog o a w K' Q := by
  obtain ⟨w', hrun, r1, r2⟩ := h.store KK ht hn hk c
  unfold Oper.wp
  simp [execOp, hop, hx, hy, hv, hrun, Result.andThen]
  exact hK w' r1 r2
theorem wpList_store_gmap {w : World} {ops : Array Oper} {rest : List Oper} {o : Oper} {a : Act} {Q : Exit → Act → World → Prop} (hg : o.guard = none) (x y v : Operand) (t : TypeId) (hop : o.op = Op.mapUpdate t x y v) {K e : TypeId} (ht : Try.prog.underlying t = some (.map K e)) (KK : Keyed Try.prog K)
    {b n : Nat} {m : Lit → Option Value} (h : GMap w K b n m) (hn : n < maxLen) {key c : Value} {kl : Lit} (hk : keyOf Try.prog K key = some kl) (hx : a.eval x = .map (some b)) (hy : a.eval y = key) (hv : a.eval v = c)
    (hK : ∀ w', GMap w' K b (n + 1) (gput m kl (some c)) → w.grownBy w' (some b) → wpList Try.prog ops Q rest (a.put o.dst undef) w') : wpList Try.prog ops Q (o :: rest) a w :=
  wpList_plain hg fun K' hK' => op_store x y v t hop ht KK h hn hk hx hy hv fun w' r1 r2 => hK' _ _ (hK w' r1 r2)
theorem wpList_drop_gmap {w : World} {ops : Array Oper} {rest : List Oper} {o : Oper} {a : Act} {Q : Exit → Act → World → Prop} (hg : o.guard = none) (x y : Operand) (t : TypeId) {K e : TypeId} (hop : o.op = Op.call { callee := Callee.builtin Builtin.delete, args := #[x, y], argTypes := #[t, K] }) (ht : Try.prog.underlying t = some (.map K e)) (KK : Keyed Try.prog K)
    {b n : Nat} {m : Lit → Option Value} (h : GMap w K b n m) {key : Value} {kl : Lit} (hk : keyOf Try.prog K key = some kl) (hx : a.eval x = .map (some b)) (hy : a.eval y = key)
    (hK : ∀ w', GMap w' K b n (gput m kl none) → w.grownBy w' (some b) → wpList Try.prog ops Q rest (a.put o.dst (.tuple #[])) w') : wpList Try.prog ops Q (o :: rest) a w := by
  obtain ⟨D, h1, h2⟩ := h
  refine wpList_delete_own w hg x y t K hop e KK ht anyR b n D hx h1 _ _ hy hk fun w' ho ht' => ?_
  exact hK w' ⟨_, ho, h2.del kl⟩ ht'.grown
theorem GMap.uniq {w : World} {K : TypeId} {b n n' : Nat} {m m' : Lit → Option Value} (h : GMap w K b n m) (h' : GMap w K b n' m') : m = m' := by
  obtain ⟨D, ⟨es, clock, hb, F, hs, rfl⟩, hr⟩ := h
  obtain ⟨D', ⟨es', clock', hb', F', hs', rfl⟩, hr'⟩ := h'
  rw [hb] at hb'
  cases hb'
  funext k
  have h1 := (hr k).1
  have h2 := (hr' k).1
  have h3 := (hr k).2 (.bool false)
  have h4 := (hr' k).2 (.bool false)
  rw [h1] at h2
  rw [h3] at h4
  have h5 := DataW.held.inj h4
  cases e : m k with
  | none =>
    cases e' : m' k with
    | none => rfl
    | some v => rw [e, e'] at h2; cases h2
  | some u =>
    cases e' : m' k with
    | none => rw [e, e'] at h2; cases h2
    | some v =>
      rw [e, e'] at h5
      exact congrArg some h5
/-- A map by its value: nil (empty) or a block. -/
theorem takeLook {P : Program} {md : Region.Mode} {Q : Exit → Act → World → Prop} {Cl : World → Prop} {l rest : List Oper} {i : Nat} {oi : Oper} (x y : Operand) (t : TypeId) (ok : Bool) (bm key v : Value) {fuel : Nat} {listed : Array Bool} {a : Act} {w : World} (hi : l.drop i = oi :: rest) (hop : oi.op = .lookup t x y ok) (hx : a.eval x = bm) (hy : a.eval y = key)
    (hs : Region.noSelect l.toArray = true) (hf : Region.free md l.toArray listed i = true) (hr : (Region.ready md l.toArray listed).contains i = true)
    (hQ : ∀ v c a w, Q (.panic c) (a.put oi.dst v) w → Q (.panic c) a w) (hw : Region.wanted oi (yielded l.toArray a.tmps) = true) (hS : Cl w)
    (hrun : ∀ w', Cl w' → (Instr.lookup t bm key ok).run P w' = .ok v w')
    (h : wpAnyH P md l.toArray Q Cl fuel (listed.setIfInBounds i true) (a.put oi.dst v) w) : wpAnyH P md l.toArray Q Cl (fuel + 1) listed a w :=
  takeVal v hi hs hf hr hQ hw hS (fun w' hw' => by unfold execOp; rw [hop]; simp only [hx, hy, Sem.run_bind, hrun w' hw', Result.andThen_ok, Sem.run_pure]) h
end Go.Proofs.Ytoglhhoniojbaaa
