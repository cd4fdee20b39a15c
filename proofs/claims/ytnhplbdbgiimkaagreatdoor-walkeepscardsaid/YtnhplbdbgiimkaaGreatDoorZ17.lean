/-
  Several texts in one: WNew2, BNew, BTake.
-/
import Derived.Test.YtnhplbdbgiimkaaGreatDoorZ16
import Derived.Test.YtnhplbdbgiimkaaGreatDoorZ4
import Derived.Deep.QuietTactic
import Derived.BigQuiet
import Derived.Deep.RegionHeld
namespace Go.Proofs.YtnhplbdbgiimkaaGreatDoor
open Go.RowKit Go.Lib Go.Maps Go.Sort
set_option linter.unusedVariables false

/-- A row of pieces as it lies. -/
def MAt (w : World) (p : Option Addr) (l : List Pm) : Prop := 0 < l.length → ∃ g, p = some ⟨g, 0, none⟩ ∧ ∀ i x, l[i]? = some x → ∀ j u, (encP x)[j]? = some u → w.cell? ⟨g, i * 6 + j, none⟩ = some u
theorem MAt.below {w w' : World} {p : Option Addr} {l : List Pm} (h : MAt w p l) (hb : Below w.heap.size w w') : MAt w' p l := fun hl => by
  obtain ⟨g, hp, hc⟩ := h hl
  exact ⟨g, hp, fun i x hx j u hu => (hb.cell (p := ⟨g, i * 6 + j, none⟩) (World.block_lt_of_cell? _ _ (hc i x hx j u hu))).trans (hc i x hx j u hu)⟩
theorem rowP_get : ∀ (l : List Pm) (i : Nat) (x : Pm) (j : Nat), l[i]? = some x → j < 6 → (rowP l)[i * 6 + j]? = (encP x)[j]?
  | [], i, x, j, h, _ => by cases h
  | y :: r, 0, x, j, h, hj => by
    have e : y = x := by simpa using h
    subst e
    have : rowP (y :: r) = encP y ++ rowP r := rfl
    rw [this, List.getElem?_append_left (by simp only [encP, List.length_cons, List.length_nil]; omega)]
    congr 1; omega
  | y :: r, i + 1, x, j, h, hj => by
    have h' : r[i]? = some x := by simpa using h
    have : rowP (y :: r) = encP y ++ rowP r := rfl
    rw [this, List.getElem?_append_right (by simp only [encP, List.length_cons, List.length_nil]; omega)]
    rw [← rowP_get r i x j h' hj]
    congr 1
    simp only [encP, List.length_cons, List.length_nil]; omega
theorem OwnM.at {w : World} {base : Nat} {p : Option Addr} {n c : Nat} {l : List Pm} (h : OwnM w base (.slice p n c) l) : MAt w p l := fun hl => by
  rcases h.2 with ⟨h1, h2⟩ | ⟨g, cap, cur, hv, _⟩
  · omega
  · have hp : p = some ⟨g, 0, none⟩ := by cases hv; rfl
    subst hp
    refine ⟨g, rfl, fun i x hx j u hu => ?_⟩
    have hj : j < 6 := by have := (List.getElem?_eq_some_iff.1 hu).1; simpa [encP] using this
    have h1 := World.ownsRow.cells h rfl (i * 6 + j) u (by rw [rowP_get l i x j hx hj]; exact hu)
    rw [WideShapes.add_plain] at h1
    simpa using h1
set_option maxRecDepth 100000 in
set_option maxHeartbeats 4000000 in
theorem idx_any (p : Option Addr) (l : List Pm) (c ga a : Nat) (w : World) (h : MAt w p l) (hl : l.length ≤ 100000) (hg : w.cell? ⟨ga, 0, none⟩ = some (.int .i64 (a : Nat))) (hall : ∀ x ∈ l, x.c.age = a) :
    Calls Tryz.prog 68 #[.slice p l.length c, .func (.func 48) #[] #[.pointer (some ⟨ga, 0, none⟩)]] w fun e w' => e = .returned (.int .i64 (-1)) ∧ Below w.heap.size w w' := by
  have HM : Hid (MAt w p l) := h
  have hlt := World.block_lt_of_cell? _ _ hg
  simp only at hlt
  have HG : Hid (∀ W, Below w.heap.size w W → W.cell? ⟨ga, 0, none⟩ = some (.int .i64 (a : Nat))) := fun W hW => (hW.cell (p := ⟨ga, 0, none⟩) hlt).trans hg
  have HA : Hid (∀ x ∈ l, x.c.age = a) := hall
  obtain ⟨n, hn⟩ : ∃ n, n = l.length := ⟨_, rfl⟩
  have HN : Hid (n = l.length) := hn
  rw [← hn] at hl ⊢
  clear h hg hall hlt hn
  go_enter Tryz.func68, Tryz.ntmps68
  go_wp2_with fail
  go_loopw [8] (fun s8 wr => ∃ (k : Nat), s8 = .int .i64 k ∧ k ≤ n ∧ Hid (Below w.heap.size w wr)) (fun s8 _ => n - (intOf s8).toNat)
  case atStart => exact ⟨0, rfl, Nat.zero_le _, Below.refl _ _⟩
  case round =>
    obtain ⟨k, rfl, hk, HB⟩ := hrel
    by_cases hlt : k < n
    · obtain ⟨x, hx⟩ : ∃ x, l[k]? = some x := ⟨_, List.getElem?_eq_getElem (by have := HN.out; omega)⟩
      obtain ⟨g, hp, hc⟩ := HM.out (by have := HN.out; omega)
      subst hp
      have hkz : (k : Int) < (n : Int) := by omega
      have hw : ∀ j u, (encP x)[j]? = some u → wr.cell? ⟨g, k * 6 + j, none⟩ = some u := fun j u hu => (HB.out.cell (p := ⟨g, k * 6 + j, none⟩) (World.block_lt_of_cell? _ _ (hc k x hx j u hu))).trans (hc k x hx j u hu)
      have z0 := hw 0 _ rfl
      have z1 := hw 1 _ rfl
      have z2 := hw 2 _ rfl
      have z3 := hw 3 _ rfl
      have z4 := hw 4 _ rfl
      have z5 := hw 5 _ rfl
      simp only [Nat.add_zero] at z0
      have HN1 : Hid (Calls Tryz.prog 48 #[.agg (encP x).toArray, .pointer (some ⟨ga, 0, none⟩)] wr fun e w' => e = .returned (.bool false) ∧ Below wr.heap.size wr w') := n1_any x ga wr (by rw [HA.out x (List.mem_of_getElem? hx)]; exact HG.out wr HB.out)
      simp only [encP] at HN1
      clear hw hc hx
      go_wp2_with fail
      refine HN1.out.mono ?_
      rintro e w2 ⟨rfl, hb2⟩
      have HB2 : Hid (Below w.heap.size w w2) := bt HB.out hb2
      clear hb2 HN1 z0 z1 z2 z3 z4 z5
      go_wp2
      go_roundw
      case rel => exact ⟨k + 1, by go_num, by omega, HB2.out⟩
      case measure => simp [intOf]; omega
    · obtain rfl : k = n := by omega
      go_wp2
      go_ret
      exact ⟨rfl, HB.out⟩
set_option maxHeartbeats 4000000 in
theorem del_any (p : Option Addr) (l : List Pm) (c ga a : Nat) (w : World) (h : MAt w p l) (hl : l.length ≤ 100000) (hg : w.cell? ⟨ga, 0, none⟩ = some (.int .i64 (a : Nat))) (hall : ∀ x ∈ l, x.c.age = a) :
    Calls Tryz.prog 47 #[.slice p l.length c, .func (.func 48) #[] #[.pointer (some ⟨ga, 0, none⟩)]] w fun e w' => e = .returned (.slice p l.length c) ∧ Below w.heap.size w w' := by
  have HI : Hid _ := idx_any p l c ga a w h hl hg hall
  generalize l.length = n at *
  clear h hg hall
  go_enter Tryz.func47, Tryz.ntmps47
  go_wp2_with fail
  refine Calls.mono HI.out ?_
  rintro e w2 ⟨rfl, hb2⟩
  have HB : Hid (Below w.heap.size w w2) := hb2
  clear hb2 HI
  go_wp2
  go_ret
  exact ⟨rfl, HB.out⟩
end Go.Proofs.YtnhplbdbgiimkaaGreatDoor

namespace Go.Proofs.YtnhplbdbgiimkaaGreatDoor
open Go.RowKit Go.Lib
set_option linter.unusedVariables false

/-- The world at hand under a letter, with what is known of it. -/
theorem wp_letter {P : Program} {s : Code} {Q : Exit → Act → World → Prop} {a : Act} {w : World} (R : World → Prop) (h : R w) (k : ∀ w', R w' → s.wp P Q a w') : s.wp P Q a w := k w h
/-- A world in which all that was there is as it was. -/
structure NewW (w : World) where
  v : World
  h : Below w.heap.size w v
def NewW.start (w : World) : NewW w := ⟨w.drew, (Below.refl _ _).drew⟩
theorem wp_region_new {P : Program} {id : Nat} {Q : Exit → Act → World → Prop} {a : Act} {w : World} {l : List Oper} (hm : P.follows .mixedOrders = true) (hB : Region.lexB .any l.toArray = true)
    (h : wpQuiet P l.toArray (fun w' => ∃ n : NewW w, w' = n.v) (fun a' => ∀ w', (∃ n : NewW w, w' = n.v) → Q .normal a' w') l a) : (Code.region id l.toArray true).wp P Q a w :=
  wp_region_quiet (C := fun w' => ∃ n : NewW w, w' = n.v) hm hB ⟨NewW.start w, rfl⟩ (by simpa using h)
/-- The same from any world of the class on. -/
theorem wp_region_more {P : Program} {id : Nat} {Q : Exit → Act → World → Prop} {a : Act} {w : World} {l : List Oper} {n : NewW w} (hm : P.follows .mixedOrders = true) (hB : Region.lexB .any l.toArray = true)
    (h : wpQuiet P l.toArray (fun w' => ∃ n : NewW w, w' = n.v) (fun a' => ∀ w', (∃ n : NewW w, w' = n.v) → Q .normal a' w') l a) : (Code.region id l.toArray true).wp P Q a n.v :=
  wp_region_quiet (C := fun w' => ∃ n : NewW w, w' = n.v) hm hB ⟨⟨n.v.drew, n.h.drew⟩, rfl⟩ (by simpa using h)
/-- A callee's contract, met in such a world. -/
theorem new_of {P : Program} {f : FuncId} {args : Array Value} {w : World} {n : NewW w} {v : Value} (h : Calls P f args n.v fun e w' => e = .returned v ∧ Below n.v.heap.size n.v w') : Calls P f args n.v fun e w'' => e = .returned v ∧ ∃ m : NewW w, w'' = m.v :=
  h.mono fun e w'' ⟨he, hb⟩ => ⟨he, ⟨w'', bt n.h hb⟩, rfl⟩
theorem new_of_same {P : Program} {f : FuncId} {args : Array Value} {w : World} {n : NewW w} {v : Value} (h : Calls P f args n.v fun e w' => e = .returned v ∧ w' = n.v) : Calls P f args n.v fun e w'' => e = .returned v ∧ ∃ m : NewW w, w'' = m.v :=
  h.mono fun e w'' ⟨he, hb⟩ => ⟨he, n, hb⟩
end Go.Proofs.YtnhplbdbgiimkaaGreatDoor

namespace Go.Proofs.YtnhplbdbgiimkaaGreatDoor
open Go.RowKit Go.Lib
set_option linter.unusedVariables false

/-- Operations that yield a value and are no call. -/
def passive : Op → Bool
  | .move _ => true
  | .assign _ => true
  | .pick _ _ _ => true
  | .load _ _ => true
  | .binOp _ _ _ _ _ => true
  | .unOp _ _ _ => true
  | .convert _ _ _ => true
  | .fieldAddr _ _ _ => true
  | .indexAddr _ _ _ => true
  | .extract _ _ => true
  | .build _ _ => true
  | .index _ _ _ => true
  | .field _ _ _ => true
  | _ => false
theorem value_then {α : Type} {w' : World} {n : Next} {f : α → Value} (r : Result α) (h : (r.andThen fun a w => Result.ok (Next.value (f a)) w) = .ok n w') : ∃ u, n = .value u := by
  cases r with
  | ok a w1 => simp only [Result.andThen_ok, Result.ok.injEq] at h; exact ⟨f a, h.1.symm⟩
  | halt x w1 => simp [Result.andThen] at h
theorem passive_value {P : Program} {ρ : Operand → Value} {o : Oper} {w w' : World} {n : Next} (hp : passive o.op = true) (h : (execOp ρ o).run P w = .ok n w') : ∃ u, n = .value u := by
  unfold execOp at h
  cases hop : o.op <;> rw [hop] at h hp <;> simp only [passive, Bool.false_eq_true] at hp <;> simp only [Sem.run_bind, Sem.run_pure] at h
  all_goals first
    | exact value_then (f := fun a => a) _ h
    | exact value_then (α := Bool) _ h
    | (simp only [Result.ok.injEq] at h; exact ⟨_, h.1.symm⟩)
theorem yields_of_quiet {P : Program} {C : World → Prop} {o : Oper} {a : Act} {w : World} {v : Value} (hp : passive o.op = true) (h : o.quietAt P a C w v) : (execOp a.eval o).run P w = .ok (.value v) w := by
  unfold Oper.quietAt at h
  cases hr : (execOp a.eval o).run P w with
  | ok n w' =>
    obtain ⟨u, rfl⟩ := passive_value hp hr
    rw [hr] at h
    obtain ⟨h1, h2⟩ := h
    rw [h1, h2]
  | halt x w' =>
    rw [hr] at h
    exact h.elim
theorem at_of_drop {l rest : List Oper} {i : Nat} {o : Oper} (h : l.drop i = o :: rest) : l.toArray[i]? = some o := by
  have := congrArg List.head? h
  simpa [List.head?_drop] using this
section
variable {P : Program} {ops : Array Oper} {Q : Exit → Act → World → Prop} {md : Region.Mode} {C : World → Prop}
/-- An operation that only reads, taken first. -/
theorem takeQuiet {i : Nat} {oi : Oper} {fuel : Nat} {listed : Array Bool} {a : Act} {w : World} (hi : ops[i]? = some oi)
    (hs : Region.noSelect ops = true) (hf : Region.free md ops listed i = true) (hr : (Region.ready md ops listed).contains i = true)
    (hQ : ∀ v c a w, Q (.panic c) (a.put oi.dst v) w → Q (.panic c) a w) (hp : passive oi.op = true) (hw : Region.wanted oi (yielded ops a.tmps) = true) (hS : C w)
    (h : ∀ K : Act → Prop, (∀ a', wpAnyH P md ops Q C fuel (listed.setIfInBounds i true) a' w → K a') → oi.quiet P a C K) : wpAnyH P md ops Q C (fuel + 1) listed a w := by
  obtain ⟨v, h1, h2⟩ := h _ (fun _ h => h)
  exact wpAnyH_take hi hs hf hr (hQ v) (Or.inl ⟨hw, fun w' hw' => yields_of_quiet hp (h1 w' hw')⟩) hS h2
/-- The same where the operations are written out: the operation is read off the list. -/
theorem takeList {l rest : List Oper} {i : Nat} {oi : Oper} {fuel : Nat} {listed : Array Bool} {a : Act} {w : World} (hi : l.drop i = oi :: rest)
    (hs : Region.noSelect l.toArray = true) (hf : Region.free md l.toArray listed i = true) (hr : (Region.ready md l.toArray listed).contains i = true)
    (hQ : ∀ v c a w, Q (.panic c) (a.put oi.dst v) w → Q (.panic c) a w) (hp : passive oi.op = true) (hw : Region.wanted oi (yielded l.toArray a.tmps) = true) (hS : C w)
    (h : ∀ K : Act → Prop, (∀ a', wpAnyH P md l.toArray Q C fuel (listed.setIfInBounds i true) a' w → K a') → oi.quiet P a C K) : wpAnyH P md l.toArray Q C (fuel + 1) listed a w :=
  takeQuiet (at_of_drop hi) hs hf hr hQ hp hw hS h
/-- An operation that its guard passes over, taken first. -/
theorem takeSkip {i : Nat} {oi : Oper} {fuel : Nat} {listed : Array Bool} {a : Act} {w : World} (hi : ops[i]? = some oi)
    (hs : Region.noSelect ops = true) (hf : Region.free md ops listed i = true) (hr : (Region.ready md ops listed).contains i = true)
    (hQ : ∀ v c a w, Q (.panic c) (a.put oi.dst v) w → Q (.panic c) a w) (hw : Region.wanted oi (yielded ops a.tmps) = false) (hS : C w)
    (h : wpAnyH P md ops Q C fuel (listed.setIfInBounds i true) (a.put oi.dst undef) w) : wpAnyH P md ops Q C (fuel + 1) listed a w :=
  wpAnyH_take hi hs hf hr (hQ undef) (Or.inr ⟨hw, rfl⟩) hS h
/-- The condition may be narrowed on the way. -/
theorem wpAnyH_strengthen {S S' : World → Prop} (hSS : ∀ w, S' w → S w) : ∀ (fuel : Nat) (listed : Array Bool) (a : Act) (w : World), wpAnyH P md ops Q S' fuel listed a w → wpAnyH P md ops Q S fuel listed a w
  | 0, _, _, _, h => h
  | fuel + 1, _, _, _, h => ⟨h.1, fun i hi => wpOp_mono (fun a' w' h' => ⟨hSS _ h'.1, wpAnyH_strengthen hSS fuel _ a' w' h'.2⟩) (h.2 i hi)⟩
/-- A call of a Go function that comes up alone. -/
theorem takeCall {i : Nat} {oi : Oper} {fuel : Nat} {listed : Array Bool} {a : Act} {w : World} (hi : ops[i]? = some oi) (hr : Region.ready md ops listed = [i]) (hw : Region.wanted oi (yielded ops a.tmps) = true)
    (h : ∀ K : Act → World → Prop, Shut (∀ a w, C w → wpAnyH P md ops Q C fuel (listed.setIfInBounds i true) a w → K a w) → Oper.wp P oi a w K Q) : wpAnyH P md ops Q C (fuel + 1) listed a w := by
  refine wpAnyH_ready hr (by simp) (AllReadyH.cons hi (fun K hK => ?_) AllReadyH.nil)
  rw [if_pos hw]
  exact h K (fun a w hS hW => hK.out a w hS (fun _ => hW))
theorem callList {l rest : List Oper} {i : Nat} {oi : Oper} {fuel : Nat} {listed : Array Bool} {a : Act} {w : World} (hi : l.drop i = oi :: rest) (hr : Region.ready md l.toArray listed = [i]) (hw : Region.wanted oi (yielded l.toArray a.tmps) = true)
    (h : ∀ K : Act → World → Prop, Shut (∀ a w, C w → wpAnyH P md l.toArray Q C fuel (listed.setIfInBounds i true) a w → K a w) → Oper.wp P oi a w K Q) : wpAnyH P md l.toArray Q C (fuel + 1) listed a w :=
  takeCall (at_of_drop hi) hr hw h
end
end Go.Proofs.YtnhplbdbgiimkaaGreatDoor
