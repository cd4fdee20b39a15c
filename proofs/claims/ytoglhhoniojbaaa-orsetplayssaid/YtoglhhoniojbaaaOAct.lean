/-
  orset: what acts make of a set.
-/
import Derived.Test.YtoglhhoniojbaaaOArg
import Derived.Test.YtoglhhoniojbaaaOCopy
import Derived.Test.YtoglhhoniojbaaaZ4
namespace Go.Proofs.Ytoglhhoniojbaaa
open Go.RowKit Go.Lib Go.Sort Go.Shelf
set_option linter.unusedVariables false

namespace C
def stepO (S : Os) (a : ActO) : Os := if a.op = 0 then addO S a.d a.x else remO S a.x a.v
theorem stepO_ok {S : Os} (h : S.Ok) (a : ActO) : (stepO S a).Ok := by
  unfold stepO
  split
  · exact addO_ok h _ _
  · exact remO_ok h _ _
theorem stepO_tidy {S : Os} {m : Nat} (h : Tidy S m) (a : ActO) : Tidy (stepO S a) (m + 1) := by
  unfold stepO
  split
  · exact addO_tidy h _ _
  · exact (remO_tidy h _ _).mono (Nat.le_succ m)
def actsO (S : Os) (l : List ActO) : Os := l.foldl stepO S
theorem acts_snoc (S : Os) {l : List ActO} {k : Nat} {a : ActO} (h : l[k]? = some a) : actsO S (l.take (k + 1)) = stepO (actsO S (l.take k)) a := by
  unfold actsO
  rw [List.take_add_one, h]
  simp
end C
/-- A world of which something holds. -/
structure HeldW (R : World → Prop) where
  v : World
  h : R v
/-- An act as it lies at place p. -/
def AtO (a : ActO) (b o : Nat) (W : World) : Prop := ∀ j u, a.cells[j]? = some u → W.cell? ⟨b, o + j, none⟩ = some u
theorem AtO.below {a : ActO} {b o : Nat} {w w' : World} (h : AtO a b o w) (hb : Below w.heap.size w w') : AtO a b o w' := fun j u hu => (hb.cell (p := ⟨b, o + j, none⟩) (World.block_lt_of_cell? _ _ (h j u hu))).trans (h j u hu)
theorem AtO.boxed {a : ActO} {b : Nat} {w : World} {t : TypeId} (h : w.heap[b]? = some (.cells a.cells.toArray t)) : AtO a b 0 w := fun j u hu => by
  rw [Nat.zero_add]
  simp [World.cell?, h, hu]
theorem AtO.cells {op d1 d2 : Int} {x : Tx} {v0 v1 v2 v3 v4 v5 v6 : Int} {b o : Nat} {W : World} (h : AtO ⟨op, (d1, d2), x, ⟨v0, v1, v2, v3, v4, v5, v6⟩⟩ b o W) :
    W.cell? ⟨b, o, none⟩ = some (.int .i64 op) ∧ W.cell? ⟨b, o + 1, none⟩ = some (.int .i64 d1) ∧ W.cell? ⟨b, o + 2, none⟩ = some (.int .i64 d2) ∧ W.cell? ⟨b, o + 3, none⟩ = some (.string x) ∧ W.cell? ⟨b, o + 4, none⟩ = some (.int .i64 v0) ∧ W.cell? ⟨b, o + 5, none⟩ = some (.int .i64 v1) ∧ W.cell? ⟨b, o + 6, none⟩ = some (.int .i64 v2) ∧ W.cell? ⟨b, o + 7, none⟩ = some (.int .i64 v3) ∧ W.cell? ⟨b, o + 8, none⟩ = some (.int .i64 v4) ∧ W.cell? ⟨b, o + 9, none⟩ = some (.int .i64 v5) ∧ W.cell? ⟨b, o + 10, none⟩ = some (.int .i64 v6) :=
  ⟨h 0 _ rfl, h 1 _ rfl, h 2 _ rfl, h 3 _ rfl, h 4 _ rfl, h 5 _ rfl, h 6 _ rfl, h 7 _ rfl, h 8 _ rfl, h 9 _ rfl, h 10 _ rfl⟩
theorem ArgO.at {w : World} {p : Option Addr} {l : List ActO} (h : ArgO w p l) {k : Nat} {a : ActO} (ha : l[k]? = some a) : ∃ b o, p = some ⟨b, o, none⟩ ∧ AtO a b (o + k * 11) w := by
  obtain ⟨b, o, hp, hc⟩ := h (by have := (List.getElem?_eq_some_iff.1 ha).1; omega)
  exact ⟨b, o, hp, fun j u hu => hc k a ha j u hu⟩
/-- Put of a set among others. -/
theorem s_put (Q1 Q2 : List OObj) {w0 w : World} (g n m : Nat) (L : OLay) (S : C.Os) (h : OObjs w0 w (Q1 ++ ⟨g, n, L, S⟩ :: Q2)) (ht : C.Tidy S m) (hm : m ≤ 600) (hn : n ≤ 1000000) :
    Calls Try.prog 24 #[.pointer (some ⟨g, 0, none⟩), .slice none 0 0] w fun e w' => (∃ p n k ks, e = .returned (.slice p n k) ∧ IsAll S ks ∧ (convert 33 9 (.slice p n k)).run Try.prog w' = .ok (.string ⟨(C.putB S ks).toArray⟩) w' ∧ ∀ W, Below w'.heap.size w' W → (convert 33 9 (.slice p n k)).run Try.prog W = .ok (.string ⟨(C.putB S ks).toArray⟩) W) ∧ Below w.heap.size w w' :=
  (oPut_obj w g n m L S none 0 0 [] h.get.1 h.get.2 ht hm hn (Is.nil w) (by decide)).mono fun e w' ⟨⟨p, n, k, ks, he, hk, hi⟩, hb⟩ => ⟨⟨p, n, k, ks, he, hk, conv_is hi, fun W hW => conv_is (hi.below hW)⟩, hb⟩
end Go.Proofs.Ytoglhhoniojbaaa
