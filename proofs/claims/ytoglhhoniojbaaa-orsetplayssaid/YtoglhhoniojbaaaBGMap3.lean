/-
  Maps of any keys to any values, gone through; copied.
-/
import Derived.Test.YtoglhhoniojbaaaBGMap
import Derived.Shelf.SlMaps.Clone
namespace Go.Proofs.Ytoglhhoniojbaaa
open Go.RowKit Go.Lib Go.Maps Go.Shelf
set_option linter.unusedVariables false

/-- The map in block b is gone through by the walk in block r: left: which keys are still to come. -/
def GRange (w : World) (K : TypeId) (b r n : Nat) (m : Lit → Option Value) (left : Lit → Bool) (cnt : Nat) : Prop :=
  ∃ D, w.ranges Try.prog K anyR b r n D left cnt ∧ GReads D m
section
variable {w w' : World} {K : TypeId} {b r n cnt : Nat} {m : Lit → Option Value} {left : Lit → Bool}
theorem GRange.gmap (h : GRange w K b r n m left cnt) : GMap w K b n m := by obtain ⟨D, h1, h2⟩ := h; exact ⟨D, h1.owns, h2⟩
theorem GRange.left_eq (h : GRange w K b r n m left cnt) : w.rangeLeft b r = cnt := by obtain ⟨D, h1, _⟩ := h; exact h1.left_eq
theorem GRange.lt (h : GRange w K b r n m left cnt) : r < w.heap.size := by obtain ⟨D, h1, _⟩ := h; exact h1.lt
theorem GRange.ne (h : GRange w K b r n m left cnt) : r ≠ b := by obtain ⟨D, h1, _⟩ := h; exact h1.ne
theorem GRange.same (h : GRange w K b r n m left cnt) (hb : w'.heap[b]? = w.heap[b]?) (hr : w'.heap[r]? = w.heap[r]?) : GRange w' K b r n m left cnt := by
  obtain ⟨D, h1, h2⟩ := h
  refine ⟨D, ?_, h2⟩
  unfold World.ranges at h1 ⊢
  rw [hb, hr]
  exact h1
end
theorem wpList_range_gmap {w : World} {ops : Array Oper} {rest : List Oper} {o : Oper} {a : Act} {Q : Exit → Act → World → Prop} (hg : o.guard = none) (x : Operand) (t : TypeId) (hop : o.op = Op.range t x) {K e : TypeId} (ht : Try.prog.underlying t = some (.map K e)) (KK : Keyed Try.prog K)
    {b n : Nat} {m : Lit → Option Value} (h : GMap w K b n m) (hx : a.eval x = .map (some b))
    (hK : ∀ w' cnt, GRange w' K b w.heap.size n m (fun k => (m k).isSome) cnt → cnt ≤ n → w.grownBy w' none → w'.heap.size = w.heap.size + 1 → wpList Try.prog ops Q rest (a.put o.dst (.pointer (some ⟨w.heap.size, 0, none⟩))) w') : wpList Try.prog ops Q (o :: rest) a w := by
  obtain ⟨D, h1, h2⟩ := h
  refine wpList_range_own w hg x t hop K e KK ht anyR b n D hx h1 fun w' hr h3 h4 => ?_
  have he : Maps.has D = fun k => (m k).isSome := funext fun k => (h2 k).1
  rw [he] at hr
  exact hK w' _ ⟨D, hr, h2⟩ h1.size_le h3 h4
theorem wpList_next_gmap {w : World} {ops : Array Oper} {rest : List Oper} {o : Oper} {a : Act} {Q : Exit → Act → World → Prop} (hg : o.guard = none) (it : Operand) (hop : o.op = Op.next it false) {K : TypeId} (KK : Keyed Try.prog K)
    {b r n : Nat} {m : Lit → Option Value} {left : Lit → Bool} {cnt : Nat} (h : GRange w K b r n m left cnt) (hit : a.eval it = .pointer (some ⟨r, 0, none⟩))
    (hDone : (∀ k, left k = false) → wpList Try.prog ops Q rest (a.put o.dst (.tuple #[.bool false])) w)
    (hMore : ∀ (key v : Value) (kl : Lit) (w' : World) (cnt' : Nat), keyOf Try.prog K key = some kl → left kl = true → m kl = some v → GRange w' K b r n m (fun z => left z && !z.sameKey kl) cnt' → cnt' < cnt → w.grownBy w' (some r) → w'.heap.size = w.heap.size →
      (Instr.entry (.pointer (some ⟨r, 0, none⟩))).run Try.prog w' = .ok (.tuple #[key, v]) w' → wpList Try.prog ops Q rest (a.put o.dst (.tuple #[.bool true, key, v])) w') : wpList Try.prog ops Q (o :: rest) a w := by
  obtain ⟨D, h1, h2⟩ := h
  refine wpList_next_ranges w hg it hop K KK anyR (fun v : Value => v) (fun v : Value => v) (fun key kl hk => ⟨key, rfl⟩) (fun v y hv => ⟨v, rfl⟩) b r n D left cnt hit h1 ?_ ?_
  · intro _ hl
    exact hDone hl
  · intro x c kl y w' cnt' hkey hlk hv hat hrg hlt hgr hsz hen
    cases hv
    have hh := has_true_of_atKey hat
    rw [(h2 kl).1] at hh
    obtain ⟨v, hv⟩ := Option.isSome_iff_exists.1 hh
    have h3 := (h2 kl).2 (.bool false)
    rw [hat, hv] at h3
    have h4 : c = v := DataW.held.inj h3
    subst h4
    exact hMore x c kl w' cnt' hkey hlk hv ⟨D, hrg, h2⟩ hlt hgr hsz hen
theorem gclone {ρ : Ren} (L : SlLaysW.n5 Try.prog ρ) {w : World} {K : TypeId} {b n : Nat} {m : Lit → Option Value} (h : GMap w K b n m) :
    Calls Try.prog (ρ.f 5) #[.map (some b)] w fun e w' => e = .returned (.map (some w.heap.size)) ∧ GMap w' K w.heap.size n m ∧ Below w.heap.size w w' := by
  obtain ⟨D, h1, h2⟩ := h
  exact (AnyW.maps_Clone_owns L K anyR b n D w h1).mono fun e w' ⟨he, ho, _, hb⟩ => ⟨he, ⟨D, ho, h2⟩, hb⟩
end Go.Proofs.Ytoglhhoniojbaaa
