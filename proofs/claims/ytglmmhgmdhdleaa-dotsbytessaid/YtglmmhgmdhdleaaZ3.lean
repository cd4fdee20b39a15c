/-
  Several texts in one: RDots, BTake, BTake2, BTake3, RIns, WRef7, RObj, RClose, RAdd.
-/
import Derived.Test.YtglmmhgmdhdleaaZ1
import Derived.Test.YtglmmhgmdhdleaaBNew
import Derived.Deep.RegionHeld
import Derived.Test.YtglmmhgmdhdleaaTIns
import Derived.Test.YtglmmhgmdhdleaaWBox
import Derived.Test.YtglmmhgmdhdleaaZ2
import Derived.Deep.RegionHeldLaw
namespace Go.Proofs.Ytglmmhgmdhdleaa
open Go.RowKit Go.Lib
set_option linter.unusedVariables false

set_option maxRecDepth 100000 in
set_option maxHeartbeats 4000000 in
theorem rless_any (a1 a2 b1 b2 : Int) (w : World) :
    Calls Try.prog 59 #[.agg #[.int .i64 a1, .int .i64 a2], .agg #[.int .i64 b1, .int .i64 b2]] w fun e w' => e = .returned (.bool (C.dlt (a1, a2) (b1, b2))) ∧ Below w.heap.size w w' := by
  by_cases h1 : a1 < b1
  · have e : C.dlt (a1, a2) (b1, b2) = true := (C.dlt_iff _ _).2 (Or.inl h1)
    rw [e]; clear e
    go_enter Try.func59, Try.ntmps59
    go_wp2
    go_ret
    exact ⟨rfl, bt (below_new _ _) (below_new _ _)⟩
  · by_cases h2 : a1 = b1
    · subst h2
      have e : C.dlt (a1, a2) (a1, b2) = decide (a2 < b2) := by simp [C.dlt]
      rw [e]; clear e
      go_enter Try.func59, Try.ntmps59
      go_wp2
      go_ret
      exact ⟨rfl, bt (below_new _ _) (below_new _ _)⟩
    · have e : C.dlt (a1, a2) (b1, b2) = false := (C.dlt_not _ _).2 (by simp only; omega)
      rw [e]; clear e
      have h3 : decide (a1 < b1) = false := by simpa using h1
      have h4 : (a1 == b1) = false := by simpa using h2
      go_enter Try.func59, Try.ntmps59
      go_wp2
      go_ret
      exact ⟨rfl, bt (below_new _ _) (below_new _ _)⟩
set_option maxRecDepth 100000 in
set_option maxHeartbeats 4000000 in
theorem rmay_any (d1 d2 : Int) (w : World) :
    Calls Try.prog 42 #[.agg #[.int .i64 d1, .int .i64 d2]] w fun e w' => e = .returned (.bool (C.may (d1, d2))) ∧ Below w.heap.size w w' := by
  by_cases h0 : 0 ≤ d1
  · by_cases h7 : d1 < 7
    · by_cases h1 : 1 ≤ d2
      · have e : C.may (d1, d2) = decide (d2 ≤ 1099511627776) := by simp [C.may, h0, h7, h1]
        rw [e]; clear e
        go_enter Try.func42, Try.ntmps42
        go_wp2
        go_ret
        exact ⟨rfl, below_new _ _⟩
      · have e : C.may (d1, d2) = false := by simp [C.may, h1]
        rw [e]; clear e
        have h1' : decide (1 ≤ d2) = false := by simpa using h1
        go_enter Try.func42, Try.ntmps42
        go_wp2
        go_ret
        exact ⟨rfl, below_new _ _⟩
    · have e : C.may (d1, d2) = false := by simp [C.may, h7]
      rw [e]; clear e
      have h7' : decide (d1 < 7) = false := by simpa using h7
      go_enter Try.func42, Try.ntmps42
      go_wp2
      go_ret
      exact ⟨rfl, below_new _ _⟩
  · have e : C.may (d1, d2) = false := by simp [C.may, h0]
    rw [e]; clear e
    have h0' : decide (0 ≤ d1) = false := by simpa using h0
    go_enter Try.func42, Try.ntmps42
    go_wp2
    go_ret
    exact ⟨rfl, below_new _ _⟩
set_option maxRecDepth 100000 in
set_option maxHeartbeats 4000000 in
theorem rsame_any (v1 v2 : Value) (l1 l2 : List C.Dt) (w : World) (h1 : OwnD w v1 l1) (h2 : OwnD w v2 l2) (hl : l1.length ≤ 1000000) :
    Calls Try.prog 19 #[v1, v2] w fun e w' => e = .returned (.bool (eqL l1 l2)) ∧ Below w.heap.size w w' := by
  obtain ⟨q1, c1, hv1⟩ := h1.len
  obtain ⟨q2, c2, hv2⟩ := h2.len
  subst hv1 hv2
  have H1 : Hid (OwnD w (.slice q1 l1.length c1) l1) := h1
  have H2 : Hid (OwnD w (.slice q2 l2.length c2) l2) := h2
  clear h1 h2
  by_cases hlen : l1.length = l2.length
  · obtain ⟨n, hn⟩ : ∃ n, n = l1.length := ⟨_, rfl⟩
    have HN : Hid (n = l1.length) := hn
    have HN2 : Hid (n = l2.length) := by show n = _; omega
    obtain ⟨r, hr⟩ : ∃ r, r = eqL l1 l2 := ⟨_, rfl⟩
    have HR : Hid (r = eqL l1 l2) := hr
    rw [← hlen, ← hn, ← hr]
    rw [← hn] at hl
    clear hlen hn hr
    go_enter Try.func19, Try.ntmps19
    go_wp2_with fail
    go_loopw [5] (fun s5 wr => ∃ k : Nat, s5 = .int .i64 k ∧ k ≤ n ∧ Hid (l1.take k = l2.take k) ∧ Hid (Below w.heap.size w wr)) (fun s5 _ => n - (intOf s5).toNat)
    case atStart => exact ⟨0, rfl, Nat.zero_le _, rfl, Below.refl _ _⟩
    case round =>
      obtain ⟨k, rfl, hkn, HK, HB⟩ := hrel
      by_cases hlt : k < n
      · obtain ⟨x, hx⟩ : ∃ x, l1[k]? = some x := ⟨_, List.getElem?_eq_getElem (by have := HN.out; omega)⟩
        obtain ⟨y, hy⟩ : ∃ y, l2[k]? = some y := ⟨_, List.getElem?_eq_getElem (by have := HN2.out; omega)⟩
        obtain ⟨g1, cc1, e1⟩ := OwnD.at H1.out (by have := HN.out; omega)
        obtain ⟨g2, cc2, e2⟩ := OwnD.at H2.out (by have := HN2.out; omega)
        cases e1
        cases e2
        have hne : Nonempty (NewW wr) := ⟨NewW.start wr⟩
        have a0 : ∀ m : NewW wr, m.v.cell? ⟨g1, k * 2, none⟩ = some (.int .i64 x.1) := fun m => (OwnD.cell (OwnD.below H1.out (bt HB.out m.h)) k x hx).1
        have a1 : ∀ m : NewW wr, m.v.cell? ⟨g1, k * 2 + 1, none⟩ = some (.int .i64 x.2) := fun m => (OwnD.cell (OwnD.below H1.out (bt HB.out m.h)) k x hx).2
        have b0 : ∀ m : NewW wr, m.v.cell? ⟨g2, k * 2, none⟩ = some (.int .i64 y.1) := fun m => (OwnD.cell (OwnD.below H2.out (bt HB.out m.h)) k y hy).1
        have b1 : ∀ m : NewW wr, m.v.cell? ⟨g2, k * 2 + 1, none⟩ = some (.int .i64 y.2) := fun m => (OwnD.cell (OwnD.below H2.out (bt HB.out m.h)) k y hy).2
        obtain ⟨qb, hqb⟩ : ∃ qb, qb = (x.1 == y.1 && x.2 == y.2) := ⟨_, rfl⟩
        have kq : ∀ W, (Op.equalIn 10000 29 (.agg #[.int .i64 x.1, .int .i64 x.2]) (.agg #[.int .i64 y.1, .int .i64 y.2])).run Try.prog W = .ok qb W := fun W => by rw [hqb]; exact eq2_dot x.1 x.2 y.1 y.2 W
        have HQ : Hid (qb = true ↔ x = y) := by
          show _ ↔ _
          rw [hqb]; simp [Prod.ext_iff]
        have HX : Hid (l1[k]? = some x) := hx
        have HY : Hid (l2[k]? = some y) := hy
        clear hqb hx hy
        cases qb with
        | true =>
          go_wp2_with fail
          refine wp_region_new (by kernel_rfl) (by kernel_rfl) ?_
          repeat (go_big_quiet_step (fail))
          refine wpQuiet_nil ?_
          rintro _ ⟨w2, rfl⟩
          go_wp2
          go_roundw
          case rel =>
            refine ⟨k + 1, by go_num, by omega, ?_, bt HB.out w2.h⟩
            show _ = _
            rw [List.take_add_one, List.take_add_one, HX.out, HY.out, HK.out, HQ.out.1 (by trivial)]
          case measure => simp [intOf]; omega
        | false =>
          go_wp2_with fail
          refine wp_region_new (by kernel_rfl) (by kernel_rfl) ?_
          repeat (go_big_quiet_step (fail))
          refine wpQuiet_nil ?_
          rintro _ ⟨w2, rfl⟩
          go_wp2
          go_ret
          refine ⟨?_, bt HB.out w2.h⟩
          have : r = false := by
            rw [HR.out]
            refine decide_eq_false fun e => ?_
            have h1 := HX.out
            rw [e, HY.out] at h1
            simp only [Option.some.injEq] at h1
            have := HQ.out.2 h1.symm
            cases this
          rw [this]; rfl
      · obtain rfl : k = n := by omega
        go_wp2
        go_ret
        refine ⟨?_, HB.out⟩
        have : r = true := by
          rw [HR.out]
          refine decide_eq_true ?_
          have h1 := HK.out
          rwa [List.take_of_length_le (by have := HN.out; omega), List.take_of_length_le (by have := HN2.out; omega)] at h1
        rw [this]; rfl
  · have e : eqL l1 l2 = false := decide_eq_false fun e => hlen (by rw [e])
    have hlen' : ((l1.length : Int) == (l2.length : Int)) = false := by
      have : (l1.length : Int) ≠ (l2.length : Int) := by omega
      simpa using this
    rw [e]
    clear e
    go_enter Try.func19, Try.ntmps19
    go_wp2
    go_ret
    exact ⟨rfl, Below.refl _ _⟩
set_option maxRecDepth 100000 in
set_option maxHeartbeats 4000000 in
theorem rin_any (v : Value) (l : List C.Dt) (d1 d2 : Int) (w : World) (h : OwnD w v l) (hl : l.length ≤ 1000000) :
    Calls Try.prog 47 #[v, .agg #[.int .i64 d1, .int .i64 d2]] w fun e w' => e = .returned (.bool (l.contains (d1, d2))) ∧ Below w.heap.size w w' := by
  obtain ⟨q1, c1, hv1⟩ := h.len
  subst hv1
  have H1 : Hid (OwnD w (.slice q1 l.length c1) l) := h
  clear h
  obtain ⟨n, hn⟩ : ∃ n, n = l.length := ⟨_, rfl⟩
  have HN : Hid (n = l.length) := hn
  obtain ⟨r, hr⟩ : ∃ r, r = l.contains (d1, d2) := ⟨_, rfl⟩
  have HR : Hid (r = l.contains (d1, d2)) := hr
  rw [← hn, ← hr]
  rw [← hn] at hl
  clear hn hr
  go_enter Try.func47, Try.ntmps47
  have HQ0 : Hid ((w.alloc (.cells #[.int .i64 d1, .int .i64 d2] 29)).heap[w.heap.size]? = some (.cells #[.int .i64 d1, .int .i64 d2] 29)) := heap_alloc_new w _
  go_wp2_with fail
  go_loopw [5] (fun s5 wr => ∃ k : Nat, s5 = .int .i64 k ∧ k ≤ n ∧ Hid ((l.take k).contains (d1, d2) = false) ∧ Hid (Below w.heap.size w wr) ∧ Hid (wr.heap[w.heap.size]? = some (.cells #[.int .i64 d1, .int .i64 d2] 29))) (fun s5 _ => n - (intOf s5).toNat)
  case atStart => exact ⟨0, rfl, Nat.zero_le _, by show _ = _; simp, below_new _ _, HQ0.out⟩
  case round =>
    obtain ⟨k, rfl, hkn, HK, HB, HQ⟩ := hrel
    by_cases hlt : k < n
    · obtain ⟨x, hx⟩ : ∃ x, l[k]? = some x := ⟨_, List.getElem?_eq_getElem (by have := HN.out; omega)⟩
      obtain ⟨g1, cc1, e1⟩ := OwnD.at H1.out (by have := HN.out; omega)
      cases e1
      have hne : Nonempty (NewW wr) := ⟨NewW.start wr⟩
      have a0 : ∀ m : NewW wr, m.v.cell? ⟨g1, k * 2, none⟩ = some (.int .i64 x.1) := fun m => (OwnD.cell (OwnD.below H1.out (bt HB.out m.h)) k x hx).1
      have a1 : ∀ m : NewW wr, m.v.cell? ⟨g1, k * 2 + 1, none⟩ = some (.int .i64 x.2) := fun m => (OwnD.cell (OwnD.below H1.out (bt HB.out m.h)) k x hx).2
      have b0 : ∀ m : NewW wr, m.v.cell? ⟨w.heap.size, 0, none⟩ = some (.int .i64 d1) := fun m => (box2 (keep_on m.h HQ.out)).1
      have b1 : ∀ m : NewW wr, m.v.cell? ⟨w.heap.size, 1, none⟩ = some (.int .i64 d2) := fun m => (box2 (keep_on m.h HQ.out)).2
      obtain ⟨qb, hqb⟩ : ∃ qb, qb = (x.1 == d1 && x.2 == d2) := ⟨_, rfl⟩
      have kq : ∀ W, (Op.equalIn 10000 29 (.agg #[.int .i64 x.1, .int .i64 x.2]) (.agg #[.int .i64 d1, .int .i64 d2])).run Try.prog W = .ok qb W := fun W => by rw [hqb]; exact eq2_dot x.1 x.2 d1 d2 W
      have HE : Hid (qb = true ↔ x = (d1, d2)) := by
        show _ ↔ _
        rw [hqb]; simp [Prod.ext_iff]
      have HX : Hid (l[k]? = some x) := hx
      clear hqb hx
      cases qb with
      | true =>
        go_wp2_with fail
        refine wp_region_new (by kernel_rfl) (by kernel_rfl) ?_
        repeat (go_big_quiet_step (fail))
        refine wpQuiet_nil ?_
        rintro _ ⟨w2, rfl⟩
        go_wp2
        go_ret
        refine ⟨?_, bt HB.out w2.h⟩
        have : r = true := by
          rw [HR.out, List.contains_iff_mem, ← HE.out.1 (by trivial)]
          exact List.mem_of_getElem? HX.out
        rw [this]; rfl
      | false =>
        go_wp2_with fail
        refine wp_region_new (by kernel_rfl) (by kernel_rfl) ?_
        repeat (go_big_quiet_step (fail))
        refine wpQuiet_nil ?_
        rintro _ ⟨w2, rfl⟩
        go_wp2
        go_roundw
        case rel =>
          refine ⟨k + 1, by go_num, by omega, ?_, bt HB.out w2.h, keep_on w2.h HQ.out⟩
          show _ = _
          rw [List.take_add_one, HX.out, Bool.eq_false_iff]
          intro e
          rw [List.contains_iff_mem, List.mem_append] at e
          rcases e with e | e
          · have h1 := HK.out
            rw [List.contains_iff_mem.2 e] at h1
            cases h1
          · have h2 := HE.out.2 (by simpa using (List.mem_singleton.1 e).symm)
            cases h2
        case measure => simp [intOf]; omega
    · obtain rfl : k = n := by omega
      go_wp2
      go_ret
      refine ⟨?_, HB.out⟩
      have : r = false := by
        rw [HR.out]
        have h1 := HK.out
        rwa [List.take_of_length_le (by have := HN.out; omega)] at h1
      rw [this]; rfl
end Go.Proofs.Ytglmmhgmdhdleaa

namespace Go.Proofs.Ytglmmhgmdhdleaa
open Go.RowKit Go.Lib
set_option linter.unusedVariables false

/-- Operations that yield a value and are no call. -/
def passive : Op → Bool
  | .move _ => true
  | .assign _ => true
  | .pick _ _ _ => true
  | .load _ _ => true
  | .binOp _ _ _ _ _ => true
  | .unOp _ _ _ => true
  | .convert _ _ _ => true
  | .fieldAddr _ _ _ => true
  | .indexAddr _ _ _ => true
  | .extract _ _ => true
  | .build _ _ => true
  | .index _ _ _ => true
  | .field _ _ _ => true
  | _ => false
theorem value_then {α : Type} {w' : World} {n : Next} {f : α → Value} (r : Result α) (h : (r.andThen fun a w => Result.ok (Next.value (f a)) w) = .ok n w') : ∃ u, n = .value u := by
  cases r with
  | ok a w1 => simp only [Result.andThen_ok, Result.ok.injEq] at h; exact ⟨f a, h.1.symm⟩
  | halt x w1 => simp [Result.andThen] at h
theorem passive_value {P : Program} {ρ : Operand → Value} {o : Oper} {w w' : World} {n : Next} (hp : passive o.op = true) (h : (execOp ρ o).run P w = .ok n w') : ∃ u, n = .value u := by
  unfold execOp at h
  cases hop : o.op <;> rw [hop] at h hp <;> simp only [passive, Bool.false_eq_true] at hp <;> simp only [Sem.run_bind, Sem.run_pure] at h
  all_goals first
    | exact value_then (f := fun a => a) _ h
    | exact value_then (α := Bool) _ h
    | (simp only [Result.ok.injEq] at h; exact ⟨_, h.1.symm⟩)
theorem yields_of_quiet {P : Program} {C : World → Prop} {o : Oper} {a : Act} {w : World} {v : Value} (hp : passive o.op = true) (h : o.quietAt P a C w v) : (execOp a.eval o).run P w = .ok (.value v) w := by
  unfold Oper.quietAt at h
  cases hr : (execOp a.eval o).run P w with
  | ok n w' =>
    obtain ⟨u, rfl⟩ := passive_value hp hr
    rw [hr] at h
    obtain ⟨h1, h2⟩ := h
    rw [h1, h2]
  | halt x w' =>
    rw [hr] at h
    exact h.elim
theorem at_of_drop {l rest : List Oper} {i : Nat} {o : Oper} (h : l.drop i = o :: rest) : l.toArray[i]? = some o := by
  have := congrArg List.head? h
  simpa [List.head?_drop] using this
section
variable {P : Program} {ops : Array Oper} {Q : Exit → Act → World → Prop} {md : Region.Mode} {C : World → Prop}
/-- An operation that only reads, taken first. -/
theorem takeQuiet {i : Nat} {oi : Oper} {fuel : Nat} {listed : Array Bool} {a : Act} {w : World} (hi : ops[i]? = some oi)
    (hs : Region.noSelect ops = true) (hf : Region.free md ops listed i = true) (hr : (Region.ready md ops listed).contains i = true)
    (hQ : ∀ v c a w, Q (.panic c) (a.put oi.dst v) w → Q (.panic c) a w) (hp : passive oi.op = true) (hw : Region.wanted oi (yielded ops a.tmps) = true) (hS : C w)
    (h : ∀ K : Act → Prop, (∀ a', wpAnyH P md ops Q C fuel (listed.setIfInBounds i true) a' w → K a') → oi.quiet P a C K) : wpAnyH P md ops Q C (fuel + 1) listed a w := by
  obtain ⟨v, h1, h2⟩ := h _ (fun _ h => h)
  exact wpAnyH_take hi hs hf hr (hQ v) (Or.inl ⟨hw, fun w' hw' => yields_of_quiet hp (h1 w' hw')⟩) hS h2
/-- The same where the operations are written out: the operation is read off the list. -/
theorem takeList {l rest : List Oper} {i : Nat} {oi : Oper} {fuel : Nat} {listed : Array Bool} {a : Act} {w : World} (hi : l.drop i = oi :: rest)
    (hs : Region.noSelect l.toArray = true) (hf : Region.free md l.toArray listed i = true) (hr : (Region.ready md l.toArray listed).contains i = true)
    (hQ : ∀ v c a w, Q (.panic c) (a.put oi.dst v) w → Q (.panic c) a w) (hp : passive oi.op = true) (hw : Region.wanted oi (yielded l.toArray a.tmps) = true) (hS : C w)
    (h : ∀ K : Act → Prop, (∀ a', wpAnyH P md l.toArray Q C fuel (listed.setIfInBounds i true) a' w → K a') → oi.quiet P a C K) : wpAnyH P md l.toArray Q C (fuel + 1) listed a w :=
  takeQuiet (at_of_drop hi) hs hf hr hQ hp hw hS h
/-- An operation that its guard passes over, taken first. -/
theorem takeSkip {i : Nat} {oi : Oper} {fuel : Nat} {listed : Array Bool} {a : Act} {w : World} (hi : ops[i]? = some oi)
    (hs : Region.noSelect ops = true) (hf : Region.free md ops listed i = true) (hr : (Region.ready md ops listed).contains i = true)
    (hQ : ∀ v c a w, Q (.panic c) (a.put oi.dst v) w → Q (.panic c) a w) (hw : Region.wanted oi (yielded ops a.tmps) = false) (hS : C w)
    (h : wpAnyH P md ops Q C fuel (listed.setIfInBounds i true) (a.put oi.dst undef) w) : wpAnyH P md ops Q C (fuel + 1) listed a w :=
  wpAnyH_take hi hs hf hr (hQ undef) (Or.inr ⟨hw, rfl⟩) hS h
/-- The condition may be narrowed on the way. -/
theorem wpAnyH_strengthen {S S' : World → Prop} (hSS : ∀ w, S' w → S w) : ∀ (fuel : Nat) (listed : Array Bool) (a : Act) (w : World), wpAnyH P md ops Q S' fuel listed a w → wpAnyH P md ops Q S fuel listed a w
  | 0, _, _, _, h => h
  | fuel + 1, _, _, _, h => ⟨h.1, fun i hi => wpOp_mono (fun a' w' h' => ⟨hSS _ h'.1, wpAnyH_strengthen hSS fuel _ a' w' h'.2⟩) (h.2 i hi)⟩
/-- A call of a Go function that comes up alone. -/
theorem takeCall {i : Nat} {oi : Oper} {fuel : Nat} {listed : Array Bool} {a : Act} {w : World} (hi : ops[i]? = some oi) (hr : Region.ready md ops listed = [i]) (hw : Region.wanted oi (yielded ops a.tmps) = true)
    (h : ∀ K : Act → World → Prop, Shut (∀ a w, C w → wpAnyH P md ops Q C fuel (listed.setIfInBounds i true) a w → K a w) → Oper.wp P oi a w K Q) : wpAnyH P md ops Q C (fuel + 1) listed a w := by
  refine wpAnyH_ready hr (by simp) (AllReadyH.cons hi (fun K hK => ?_) AllReadyH.nil)
  rw [if_pos hw]
  exact h K (fun a w hS hW => hK.out a w hS (fun _ => hW))
theorem callList {l rest : List Oper} {i : Nat} {oi : Oper} {fuel : Nat} {listed : Array Bool} {a : Act} {w : World} (hi : l.drop i = oi :: rest) (hr : Region.ready md l.toArray listed = [i]) (hw : Region.wanted oi (yielded l.toArray a.tmps) = true)
    (h : ∀ K : Act → World → Prop, Shut (∀ a w, C w → wpAnyH P md l.toArray Q C fuel (listed.setIfInBounds i true) a w → K a w) → Oper.wp P oi a w K Q) : wpAnyH P md l.toArray Q C (fuel + 1) listed a w :=
  takeCall (at_of_drop hi) hr hw h
end
end Go.Proofs.Ytglmmhgmdhdleaa

namespace Go.Proofs.Ytglmmhgmdhdleaa
open Go.RowKit Go.Lib
set_option linter.unusedVariables false

section
variable {P : Program} {ops : Array Oper} {Q : Exit → Act → World → Prop} {md : Region.Mode} {C : World → Prop}
theorem takeNil {l rest : List Oper} {i : Nat} {oi : Oper} {x : Operand} {ad : Addr} {fuel : Nat} {listed : Array Bool} {a : Act} {w : World} (hi : l.drop i = oi :: rest) (hop : oi.op = .nilCheck x) (hx : a.eval x = .pointer (some ad))
    (hs : Region.noSelect l.toArray = true) (hf : Region.free md l.toArray listed i = true) (hr : (Region.ready md l.toArray listed).contains i = true)
    (hQ : ∀ v c a w, Q (.panic c) (a.put oi.dst v) w → Q (.panic c) a w) (hw : Region.wanted oi (yielded l.toArray a.tmps) = true) (hS : C w)
    (h : wpAnyH P md l.toArray Q C fuel (listed.setIfInBounds i true) (a.put oi.dst (.pointer (some ad))) w) : wpAnyH P md l.toArray Q C (fuel + 1) listed a w :=
  wpAnyH_take (at_of_drop hi) hs hf hr (hQ _) (Or.inl ⟨hw, fun w' _ => by unfold execOp; rw [hop]; simp only [hx]; rfl⟩) hS h
end
end Go.Proofs.Ytglmmhgmdhdleaa

namespace Go.Proofs.Ytglmmhgmdhdleaa
open Go.RowKit Go.Lib
set_option linter.unusedVariables false

section
variable {P : Program} {ops : Array Oper} {Q : Exit → Act → World → Prop} {md : Region.Mode} {C : World → Prop}
/-- An operation that is known to yield a value and to leave the world. -/
theorem takeVal {l rest : List Oper} {i : Nat} {oi : Oper} (v : Value) {fuel : Nat} {listed : Array Bool} {a : Act} {w : World} (hi : l.drop i = oi :: rest)
    (hs : Region.noSelect l.toArray = true) (hf : Region.free md l.toArray listed i = true) (hr : (Region.ready md l.toArray listed).contains i = true)
    (hQ : ∀ v c a w, Q (.panic c) (a.put oi.dst v) w → Q (.panic c) a w) (hw : Region.wanted oi (yielded l.toArray a.tmps) = true) (hS : C w)
    (hv : ∀ w', C w' → (execOp a.eval oi).run P w' = .ok (.value v) w')
    (h : wpAnyH P md l.toArray Q C fuel (listed.setIfInBounds i true) (a.put oi.dst v) w) : wpAnyH P md l.toArray Q C (fuel + 1) listed a w :=
  wpAnyH_take (at_of_drop hi) hs hf hr (hQ _) (Or.inl ⟨hw, hv⟩) hS h
end
end Go.Proofs.Ytglmmhgmdhdleaa

namespace Go.Proofs.Ytglmmhgmdhdleaa
open Go.RowKit Go.Lib
set_option linter.unusedVariables false

namespace C
/-- Where the first is that does not lie ahead. -/
theorem insL_at (d : Dt) : ∀ (l : List Dt) (k : Nat), (∀ j x, j < k → l[j]? = some x → dlt x d = true) → (∀ x, l[k]? = some x → dlt x d = false) → k ≤ l.length → insL d l = if l[k]? = some d then l else l.take k ++ d :: l.drop k
  | [], k, _, _, hk => by
    obtain rfl : k = 0 := by simpa using hk
    simp [insL]
  | e :: t, 0, _, h2, _ => by
    have h := h2 e rfl
    unfold insL
    rw [if_neg (by rw [h]; simp)]
    by_cases he : e = d
    · simp [he]
    · simp [he]
  | e :: t, k + 1, h1, h2, hk => by
    have h := h1 0 e (by omega) rfl
    have ih := insL_at d t k (fun j x hj hx => h1 (j + 1) x (by omega) (by simpa using hx)) (fun x hx => h2 x (by simpa using hx)) (by simpa using hk)
    unfold insL
    rw [if_pos h, ih]
    by_cases he : t[k]? = some d
    · simp [he]
    · simp [he]
end C
/-- How much room a row has. -/
theorem cap_of {w : World} {p : Option Addr} {n c : Nat} {l : List C.Dt} (h : OwnD w (.slice p n c) l) : l.length ≤ c := by
  rcases h.shape with ⟨h1, rfl⟩ | ⟨g, cap, cur, hv, _, hn, _⟩
  · exact Nat.zero_le _
  · cases hv; exact hn
theorem src_take {w : World} {g n c k : Nat} {l : List C.Dt} (hk : k ≤ l.length) (h : OwnD w (.slice (some ⟨g, 0, none⟩) n c) l) : SrcAt w 2 (.slice (some ⟨g, 0, none⟩) k c) (l.take k).length (rowD (l.take k)) := by
  refine ⟨some ⟨g, 0, none⟩, c, by rw [List.length_take, Nat.min_eq_left hk], rowD_length _, (fun e => by cases e), fun a ha j u hj => ?_⟩
  cases ha
  have h1 := World.ownsRow.cells h rfl j u (by rw [← List.take_append_drop k l, ← rowD_append, List.getElem?_append_left (List.getElem?_eq_some_iff.1 hj).1]; exact hj)
  exact h1
theorem src_drop {w : World} {g n c k : Nat} {l : List C.Dt} (h : OwnD w (.slice (some ⟨g, 0, none⟩) n c) l) : SrcAt w 2 (.slice (some ⟨g, k * 2, none⟩) (l.length - k) (c - k)) (l.drop k).length (rowD (l.drop k)) := by
  refine ⟨some ⟨g, k * 2, none⟩, c - k, by rw [List.length_drop], rowD_length _, (fun e => by cases e), fun a ha j u hj => ?_⟩
  cases ha
  by_cases hk : k ≤ l.length
  · have e : (rowD (l.take k)).length = k * 2 := by rw [rowD_length, List.length_take, Nat.min_eq_left hk]
    have h1 := World.ownsRow.cells h rfl (k * 2 + j) u (by rw [← List.take_append_drop k l, ← rowD_append, List.getElem?_append_right (by omega), e, Nat.add_sub_cancel_left]; exact hj)
    rw [WideShapes.add_plain] at h1 ⊢
    simpa using h1
  · rw [List.drop_eq_nil_of_le (by omega)] at hj
    simp [rowD] at hj
theorem src_zero (W : World) (p : Option Addr) (c : Nat) : SrcAt W 2 (.slice p 0 c) ([] : List C.Dt).length (rowD []) := ⟨p, c, rfl, rfl, fun _ => rfl, fun a _ j u hj => by simp [rowD] at hj⟩
/-- A step that appends dots behind a row that was made since wc. -/
theorem stepD {wc W : World} {ops : Array Oper} {o : Oper} {a : Act} {K : Act → World → Prop} {Q : Exit → Act → World → Prop} {E : Prop} (hgd : o.guard = none) (s y : Operand) (ho : o.op = .call { callee := .builtin .append, args := #[s, y], argTypes := #[37, 37] })
    {vr x : Value} {r ns : List C.Dt} (hs : a.eval s = vr) (hr : OwnD W vr r) (hf : ∀ b, vr.ownBlock = some b → wc.heap.size ≤ b) (hB : Below wc.heap.size wc W) (hy : a.eval y = x) (hx : SrcAt W 2 x ns.length (rowD ns)) (hn : r.length + ns.length ≤ 1000000)
    (h : ∀ v' w', OwnD w' v' (r ++ ns) → (∀ b, v'.ownBlock = some b → wc.heap.size ≤ b) → Below wc.heap.size wc w' → (∀ (b : Nat) (ob : Obj), W.heap[b]? = some ob → vr.ownBlock ≠ some b → w'.heap[b]? = some ob) → K (a.put o.dst v') w') :
    if Region.wanted o (yielded ops a.tmps) = true then Oper.wp Try.prog o a W K Q else E := by
  refine step_append_src u_dots info_dot rfl (by decide) hgd s y ho hs hr hy hx (rowD_one _) (by unfold maxLen; omega) (by omega) fun v' w' h1 h2 h3 => h v' w' ?_ ?_ (bel_grown hB h2 hf) fun b ob hb hne => ?_
  · unfold OwnD; rw [List.length_append, ← rowD_append]; exact h1
  · intro b hb
    rcases h3 with h3 | h3
    · exact hf b (h3.symm.trans hb)
    · rw [h3] at hb; cases hb; exact hB.size
  · rw [h2.block b (Array.getElem?_eq_some_iff.1 hb).1 fun e => hne e.symm]; exact hb
set_option maxRecDepth 100000 in
set_option maxHeartbeats 8000000 in
theorem rinsert_any (v : Value) (l : List C.Dt) (d1 d2 : Int) (w : World) (h : OwnD w v l) (hl : l.length ≤ 100000) :
    Calls Try.prog 43 #[v, .agg #[.int .i64 d1, .int .i64 d2]] w fun e w' => (∃ v', e = .returned v' ∧ OwnD w' v' (C.insL (d1, d2) l) ∧ (v' = v ∨ ∀ b, v'.ownBlock = some b → w.heap.size ≤ b)) ∧ Below w.heap.size w w' := by
  obtain ⟨q1, c1, hv1⟩ := h.len
  subst hv1
  have H1 : Hid (OwnD w (.slice q1 l.length c1) l) := h
  clear h
  obtain ⟨n, hn⟩ : ∃ n, n = l.length := ⟨_, rfl⟩
  have HN : Hid (n = l.length) := hn
  rw [← hn]
  rw [← hn] at hl
  clear hn
  go_enter Try.func43, Try.ntmps43
  have HQ0 : Hid ((w.alloc (.cells #[.int .i64 d1, .int .i64 d2] 29)).heap[w.heap.size]? = some (.cells #[.int .i64 d1, .int .i64 d2] 29)) := heap_alloc_new w _
  go_wp2_with fail
  go_loopw [5] (fun s5 wr => ∃ k : Nat, s5 = .int .i64 k ∧ k ≤ n ∧ Hid (∀ j x, j < k → l[j]? = some x → C.dlt x (d1, d2) = true) ∧ Hid (Below w.heap.size w wr) ∧ Hid (wr.heap[w.heap.size]? = some (.cells #[.int .i64 d1, .int .i64 d2] 29))) (fun s5 _ => n - (intOf s5).toNat)
  case atStart => exact ⟨0, rfl, Nat.zero_le _, fun j x hj => absurd hj (by omega), below_new _ _, HQ0.out⟩
  case round =>
    obtain ⟨k, rfl, hkn, HK, HB, HQ⟩ := hrel
    by_cases hlt : k < n
    · obtain ⟨⟨x1, x2⟩, hx⟩ : ∃ x, l[k]? = some x := ⟨_, List.getElem?_eq_getElem (by have := HN.out; omega)⟩
      obtain ⟨g1, cc1, e1⟩ := OwnD.at H1.out (by have := HN.out; omega)
      cases e1
      have hne : Nonempty (NewW wr) := ⟨NewW.start wr⟩
      have a0 : ∀ m : NewW wr, m.v.cell? ⟨g1, k * 2, none⟩ = some (.int .i64 x1) := fun m => (OwnD.cell (OwnD.below H1.out (bt HB.out m.h)) k (x1, x2) hx).1
      have a1 : ∀ m : NewW wr, m.v.cell? ⟨g1, k * 2 + 1, none⟩ = some (.int .i64 x2) := fun m => (OwnD.cell (OwnD.below H1.out (bt HB.out m.h)) k (x1, x2) hx).2
      have b0 : ∀ m : NewW wr, m.v.cell? ⟨w.heap.size, 0, none⟩ = some (.int .i64 d1) := fun m => (box2 (keep_on m.h HQ.out)).1
      have b1 : ∀ m : NewW wr, m.v.cell? ⟨w.heap.size, 1, none⟩ = some (.int .i64 d2) := fun m => (box2 (keep_on m.h HQ.out)).2
      have HX : Hid (l[k]? = some (x1, x2)) := hx
      clear hx
      obtain ⟨qb, hqb⟩ : ∃ qb, qb = C.dlt (x1, x2) (d1, d2) := ⟨_, rfl⟩
      have HLS : Hid (∀ W, Calls Try.prog 59 #[.agg #[.int .i64 x1, .int .i64 x2], .agg #[.int .i64 d1, .int .i64 d2]] W fun e w' => e = .returned (.bool qb) ∧ Below W.heap.size W w') := fun W => by rw [hqb]; exact rless_any x1 x2 d1 d2 W
      have HD : Hid (C.dlt (x1, x2) (d1, d2) = qb) := hqb.symm
      clear hqb
      cases qb with
      | true =>
        go_wp2_with fail
        refine wp_region_new (by kernel_rfl) (by kernel_rfl) ?_
        repeat (go_big_quiet_step (with_reducible exact new_of (HLS.out _)))
        refine wpQuiet_nil ?_
        rintro _ ⟨w2, rfl⟩
        go_wp2
        go_roundw
        case rel =>
          refine ⟨k + 1, by go_num, by omega, ?_, bt HB.out w2.h, keep_on w2.h HQ.out⟩
          intro j x hj hx
          by_cases e : j = k
          · subst e
            rw [HX.out] at hx
            cases hx
            exact HD.out
          · exact HK.out j x (by omega) hx
        case measure => simp [intOf]; omega
      | false =>
        go_wp2_with fail
        refine wp_region_new (by kernel_rfl) (by kernel_rfl) ?_
        repeat (go_big_quiet_step (with_reducible exact new_of (HLS.out _)))
        refine wpQuiet_nil ?_
        rintro _ ⟨w2, rfl⟩
        have HB2 : Hid (Below w.heap.size w w2.v) := bt HB.out w2.h
        have HQ2 : Hid (w2.v.heap[w.heap.size]? = some (.cells #[.int .i64 d1, .int .i64 d2] 29)) := keep_on w2.h HQ.out
        obtain ⟨wc, hwc⟩ : ∃ wc, w2.v = wc := ⟨_, rfl⟩
        rw [hwc] at HB2 HQ2 ⊢
        clear hwc a0 a1 b0 b1 hne HQ HB w2
        have hne : Nonempty (NewW wc) := ⟨NewW.start wc⟩
        have a0 : ∀ m : NewW wc, m.v.cell? ⟨g1, k * 2, none⟩ = some (.int .i64 x1) := fun m => (OwnD.cell (OwnD.below H1.out (bt HB2.out m.h)) k (x1, x2) HX.out).1
        have a1 : ∀ m : NewW wc, m.v.cell? ⟨g1, k * 2 + 1, none⟩ = some (.int .i64 x2) := fun m => (OwnD.cell (OwnD.below H1.out (bt HB2.out m.h)) k (x1, x2) HX.out).2
        have b0 : ∀ m : NewW wc, m.v.cell? ⟨w.heap.size, 0, none⟩ = some (.int .i64 d1) := fun m => (box2 (keep_on m.h HQ2.out)).1
        have b1 : ∀ m : NewW wc, m.v.cell? ⟨w.heap.size, 1, none⟩ = some (.int .i64 d2) := fun m => (box2 (keep_on m.h HQ2.out)).2
        obtain ⟨qb, hqb⟩ : ∃ qb, qb = (x1 == d1 && x2 == d2) := ⟨_, rfl⟩
        have kq : ∀ W, (Op.equalIn 10000 29 (.agg #[.int .i64 x1, .int .i64 x2]) (.agg #[.int .i64 d1, .int .i64 d2])).run Try.prog W = .ok qb W := fun W => by rw [hqb]; exact eq2_dot x1 x2 d1 d2 W
        have HE : Hid (qb = true ↔ (x1, x2) = (d1, d2)) := by
          show _ ↔ _
          rw [hqb]; simp [Prod.ext_iff]
        have HI : Hid (C.insL (d1, d2) l = if l[k]? = some (d1, d2) then l else l.take k ++ (d1, d2) :: l.drop k) := C.insL_at (d1, d2) l k HK.out (fun x hx => by rw [HX.out] at hx; cases hx; exact HD.out) (by have := HN.out; omega)
        clear hqb
        cases qb with
        | true =>
          go_wp2_with fail
          refine wp_region_new (by kernel_rfl) (by kernel_rfl) ?_
          repeat (go_big_quiet_step (fail))
          refine wpQuiet_nil ?_
          rintro _ ⟨w3, rfl⟩
          go_wp2
          go_ret
          refine ⟨⟨.slice (some ⟨g1, 0, none⟩) n c1, rfl, ?_, Or.inl rfl⟩, bt HB2.out w3.h⟩
          rw [HI.out, HX.out, HE.out.1 (by trivial), if_pos rfl]
          have h1 := H1.out.below (bt HB2.out w3.h)
          rw [← HN.out] at h1
          exact h1
        | false =>
          go_wp2_with fail
          refine wp_region_new (by kernel_rfl) (by kernel_rfl) ?_
          repeat (go_big_quiet_step (fail))
          refine wpQuiet_nil ?_
          rintro _ ⟨w3, rfl⟩
          go_wp2_with fail
          have hcap : n ≤ c1 := by have := cap_of H1.out; have := HN.out; omega
          have hck : ¬ c1 = k := by omega
          have HS3 : Hid (∀ W, Below wc.heap.size wc W → SrcAt W 2 (.slice (some ⟨g1, 0, none⟩) k c1) (l.take k).length (rowD (l.take k))) := fun W hW => src_take (by have := HN.out; omega) (H1.out.below (bt HB2.out hW))
          have HS10 : Hid (∀ W, Below wc.heap.size wc W → SrcAt W 2 (.slice (some ⟨g1, k * 2, none⟩) (n - k) (c1 - k)) (l.drop k).length (rowD (l.drop k))) := fun W hW => by rw [HN.out]; exact src_drop (H1.out.below (bt HB2.out hW))
          have hC : ∃ m : NewW wc, w3.v.drew = m.v := ⟨⟨w3.v.drew, w3.h.drew⟩, rfl⟩
          refine wp_region_held_drew (S := fun w' => ∃ m : NewW wc, w' = m.v) (by kernel_rfl) hC (fun _ => ?_)
          have hB : Below wc.heap.size wc w3.v.drew := w3.h.drew
          generalize hW0 : w3.v.drew = W0 at *
          clear hW0 w3
          refine takeList (i := 1) rfl (by kernel_rfl) (by kernel_rfl) (by kernel_rfl) (fun _ _ _ _ h => h) rfl rfl hC (fun K hK => ?_)
          go_big_quiet_op
          refine hK _ ?_
          clear hK K
          refine takeList (i := 2) rfl (by kernel_rfl) (by kernel_rfl) (by kernel_rfl) (fun _ _ _ _ h => h) rfl rfl hC (fun K hK => ?_)
          go_big_quiet_op
          refine hK _ ?_
          clear hK K
          refine takeVal (i := 3) (.slice (some ⟨g1, 0, none⟩) k c1) rfl (by kernel_rfl) (by kernel_rfl) (by kernel_rfl) (fun _ _ _ _ h => h) rfl hC (fun w' _ => by go_simp; try (intro h; omega)) ?_
          go_simp
          refine takeList (i := 5) rfl (by kernel_rfl) (by kernel_rfl) (by kernel_rfl) (fun _ _ _ _ h => h) rfl rfl hC (fun K hK => ?_)
          go_big_quiet_op
          refine hK _ ?_
          clear hK K
          refine takeList (i := 8) rfl (by kernel_rfl) (by kernel_rfl) (by kernel_rfl) (fun _ _ _ _ h => h) rfl rfl hC (fun K hK => ?_)
          go_big_quiet_op
          refine hK _ ?_
          clear hK K
          refine takeList (i := 9) rfl (by kernel_rfl) (by kernel_rfl) (by kernel_rfl) (fun _ _ _ _ h => h) rfl rfl hC (fun K hK => ?_)
          go_big_quiet_op
          refine hK _ ?_
          clear hK K
          refine takeVal (i := 10) (.slice (some ⟨g1, k * 2, none⟩) (n - k) (c1 - k)) rfl (by kernel_rfl) (by kernel_rfl) (by kernel_rfl) (fun _ _ _ _ h => h) rfl hC (fun w' _ => by go_simp; try (intro h; omega)) ?_
          go_simp
          clear a0 a1 b0 b1 hne
          refine wpAnyH_ready (rs := [0, 6]) (by kernel_rfl) (by simp) (AllReadyH.cons (at_of_drop (i := 0) rfl) (fun K hK => ?_) (AllReadyH.cons (at_of_drop (i := 6) rfl) (fun K hK => ?_) AllReadyH.nil))
          · rw [if_pos (by rfl)]
            go_simp
            have hal := below_new W0 (.cells #[] 29)
            have hr := OwnD.empty W0
            obtain ⟨vr, hvr⟩ : ∃ vr, Value.slice (some ⟨W0.heap.size, 0, none⟩) 0 0 = vr := ⟨_, rfl⟩
            have hrf : ∀ b, vr.ownBlock = some b → wc.heap.size ≤ b := fun b hb => by rw [← hvr] at hb; cases hb; exact hB.size
            rw [hvr] at hr ⊢
            replace hB := bt hB hal
            refine hK.out _ _ ⟨⟨_, hB⟩, rfl⟩ (fun hC => ?_)
            generalize World.alloc W0 (.cells #[] 29) = W1 at *
            clear hK K hal hvr
            refine wpAnyH_ready (rs := [4, 6]) (by kernel_rfl) (by simp) (AllReadyH.cons (at_of_drop (i := 4) rfl) (fun K hK => ?_) (AllReadyH.cons (at_of_drop (i := 6) rfl) (fun K hK => ?_) AllReadyH.nil))
            · refine stepD (ns := l.take k) rfl _ _ rfl rfl hr hrf hB rfl (HS3.out _ hB) (by have := HN.out; simp <;> omega) ?_
              intro vr W2 hr hrf hB hk
              clear hk
              refine hK.out _ _ ⟨⟨_, hB⟩, rfl⟩ (fun hC => ?_)
              go_simp
              clear hK K
              refine wpAnyH_ready (rs := [6]) (by kernel_rfl) (by simp) (AllReadyH.cons (at_of_drop (i := 6) rfl) (fun K hK => ?_) AllReadyH.nil)
              rw [if_pos (by rfl)]
              go_simp
              have hal := below_new W2 (.cells #[.int .i64 d1, .int .i64 d2] 29)
              obtain ⟨vd, hvd⟩ : ∃ vd, W2.heap.size = vd := ⟨_, rfl⟩
              have hd := heap_alloc_new W2 (.cells #[.int .i64 d1, .int .i64 d2] 29)
              have hdn : vr.ownBlock ≠ some vd := fun e => by have := row_lt hr e; omega
              replace hr := OwnD.below hr hal
              rw [hvd] at hd ⊢
              replace hB := bt hB hal
              refine hK.out _ _ ⟨⟨_, hB⟩, rfl⟩ (fun hC => ?_)
              generalize World.alloc W2 (.cells #[.int .i64 d1, .int .i64 d2] 29) = W3 at *
              clear hK K hal hvd
              refine wpAnyH_ready (rs := [7]) (by kernel_rfl) (by simp) (AllReadyH.cons (at_of_drop (i := 7) rfl) (fun K hK => ?_) AllReadyH.nil)
              refine stepD (ns := [(d1, d2)]) rfl _ _ rfl rfl hr hrf hB rfl (two_src (c := 1) hd) (by have := HN.out; simp <;> omega) ?_
              intro vr W4 hr hrf hB hk
              clear hk
              refine hK.out _ _ ⟨⟨_, hB⟩, rfl⟩ (fun hC => ?_)
              go_simp
              clear hK K
              refine wpAnyH_ready (rs := [11]) (by kernel_rfl) (by simp) (AllReadyH.cons (at_of_drop (i := 11) rfl) (fun K hK => ?_) AllReadyH.nil)
              refine stepD (ns := l.drop k) rfl _ _ rfl rfl hr hrf hB rfl (HS10.out _ hB) (by have := HN.out; simp <;> omega) ?_
              intro vr W5 hr hrf hB hk
              clear hk
              refine hK.out _ _ ⟨⟨_, hB⟩, rfl⟩ (fun hC => ?_)
              go_simp
              clear hK K
              refine takeList (i := 12) rfl (by kernel_rfl) (by kernel_rfl) (by kernel_rfl) (fun _ _ _ _ h => h) rfl rfl hC (fun K hK => ?_)
              go_big_quiet_op
              refine hK _ ?_
              clear hK K
              refine wpAnyH_done (by kernel_rfl) ?_ _
              go_wp2
              go_ret
              refine ⟨⟨_, rfl, ?_, Or.inr fun b hb => ?_⟩, bt HB2.out hB⟩
              · rw [HI.out, if_neg (by rw [HX.out]; intro e; have := HE.out.2 (by simpa using e); cases this)]
                simpa using hr
              · exact Nat.le_trans HB2.out.size (hrf b hb)
            · rw [if_pos (by rfl)]
              go_simp
              have hal := below_new W1 (.cells #[.int .i64 d1, .int .i64 d2] 29)
              obtain ⟨vd, hvd⟩ : ∃ vd, W1.heap.size = vd := ⟨_, rfl⟩
              have hd := heap_alloc_new W1 (.cells #[.int .i64 d1, .int .i64 d2] 29)
              have hdn : vr.ownBlock ≠ some vd := fun e => by have := row_lt hr e; omega
              replace hr := OwnD.below hr hal
              rw [hvd] at hd ⊢
              replace hB := bt hB hal
              refine hK.out _ _ ⟨⟨_, hB⟩, rfl⟩ (fun hC => ?_)
              generalize World.alloc W1 (.cells #[.int .i64 d1, .int .i64 d2] 29) = W2 at *
              clear hK K hal hvd
              refine wpAnyH_ready (rs := [4]) (by kernel_rfl) (by simp) (AllReadyH.cons (at_of_drop (i := 4) rfl) (fun K hK => ?_) AllReadyH.nil)
              refine stepD (ns := l.take k) rfl _ _ rfl rfl hr hrf hB rfl (HS3.out _ hB) (by have := HN.out; simp <;> omega) ?_
              intro vr W3 hr hrf hB hk
              replace hd := hk _ _ hd hdn
              clear hk
              refine hK.out _ _ ⟨⟨_, hB⟩, rfl⟩ (fun hC => ?_)
              go_simp
              clear hK K
              refine wpAnyH_ready (rs := [7]) (by kernel_rfl) (by simp) (AllReadyH.cons (at_of_drop (i := 7) rfl) (fun K hK => ?_) AllReadyH.nil)
              refine stepD (ns := [(d1, d2)]) rfl _ _ rfl rfl hr hrf hB rfl (two_src (c := 1) hd) (by have := HN.out; simp <;> omega) ?_
              intro vr W4 hr hrf hB hk
              clear hk
              refine hK.out _ _ ⟨⟨_, hB⟩, rfl⟩ (fun hC => ?_)
              go_simp
              clear hK K
              refine wpAnyH_ready (rs := [11]) (by kernel_rfl) (by simp) (AllReadyH.cons (at_of_drop (i := 11) rfl) (fun K hK => ?_) AllReadyH.nil)
              refine stepD (ns := l.drop k) rfl _ _ rfl rfl hr hrf hB rfl (HS10.out _ hB) (by have := HN.out; simp <;> omega) ?_
              intro vr W5 hr hrf hB hk
              clear hk
              refine hK.out _ _ ⟨⟨_, hB⟩, rfl⟩ (fun hC => ?_)
              go_simp
              clear hK K
              refine takeList (i := 12) rfl (by kernel_rfl) (by kernel_rfl) (by kernel_rfl) (fun _ _ _ _ h => h) rfl rfl hC (fun K hK => ?_)
              go_big_quiet_op
              refine hK _ ?_
              clear hK K
              refine wpAnyH_done (by kernel_rfl) ?_ _
              go_wp2
              go_ret
              refine ⟨⟨_, rfl, ?_, Or.inr fun b hb => ?_⟩, bt HB2.out hB⟩
              · rw [HI.out, if_neg (by rw [HX.out]; intro e; have := HE.out.2 (by simpa using e); cases this)]
                simpa using hr
              · exact Nat.le_trans HB2.out.size (hrf b hb)
          · rw [if_pos (by rfl)]
            go_simp
            have hal := below_new W0 (.cells #[.int .i64 d1, .int .i64 d2] 29)
            obtain ⟨vd, hvd⟩ : ∃ vd, W0.heap.size = vd := ⟨_, rfl⟩
            have hd := heap_alloc_new W0 (.cells #[.int .i64 d1, .int .i64 d2] 29)
            rw [hvd] at hd ⊢
            replace hB := bt hB hal
            refine hK.out _ _ ⟨⟨_, hB⟩, rfl⟩ (fun hC => ?_)
            generalize World.alloc W0 (.cells #[.int .i64 d1, .int .i64 d2] 29) = W1 at *
            clear hK K hal hvd
            refine wpAnyH_ready (rs := [0]) (by kernel_rfl) (by simp) (AllReadyH.cons (at_of_drop (i := 0) rfl) (fun K hK => ?_) AllReadyH.nil)
            rw [if_pos (by rfl)]
            go_simp
            have hal := below_new W1 (.cells #[] 29)
            have hr := OwnD.empty W1
            obtain ⟨vr, hvr⟩ : ∃ vr, Value.slice (some ⟨W1.heap.size, 0, none⟩) 0 0 = vr := ⟨_, rfl⟩
            have hrf : ∀ b, vr.ownBlock = some b → wc.heap.size ≤ b := fun b hb => by rw [← hvr] at hb; cases hb; exact hB.size
            have hdn : vr.ownBlock ≠ some vd := fun e => by rw [← hvr] at e; cases e; exact absurd (Array.getElem?_eq_some_iff.1 hd).1 (Nat.lt_irrefl _)
            replace hd := keep_on hal hd
            rw [hvr] at hr ⊢
            replace hB := bt hB hal
            refine hK.out _ _ ⟨⟨_, hB⟩, rfl⟩ (fun hC => ?_)
            generalize World.alloc W1 (.cells #[] 29) = W2 at *
            clear hK K hal hvr
            refine wpAnyH_ready (rs := [4]) (by kernel_rfl) (by simp) (AllReadyH.cons (at_of_drop (i := 4) rfl) (fun K hK => ?_) AllReadyH.nil)
            refine stepD (ns := l.take k) rfl _ _ rfl rfl hr hrf hB rfl (HS3.out _ hB) (by have := HN.out; simp <;> omega) ?_
            intro vr W3 hr hrf hB hk
            replace hd := hk _ _ hd hdn
            clear hk
            refine hK.out _ _ ⟨⟨_, hB⟩, rfl⟩ (fun hC => ?_)
            go_simp
            clear hK K
            refine wpAnyH_ready (rs := [7]) (by kernel_rfl) (by simp) (AllReadyH.cons (at_of_drop (i := 7) rfl) (fun K hK => ?_) AllReadyH.nil)
            refine stepD (ns := [(d1, d2)]) rfl _ _ rfl rfl hr hrf hB rfl (two_src (c := 1) hd) (by have := HN.out; simp <;> omega) ?_
            intro vr W4 hr hrf hB hk
            clear hk
            refine hK.out _ _ ⟨⟨_, hB⟩, rfl⟩ (fun hC => ?_)
            go_simp
            clear hK K
            refine wpAnyH_ready (rs := [11]) (by kernel_rfl) (by simp) (AllReadyH.cons (at_of_drop (i := 11) rfl) (fun K hK => ?_) AllReadyH.nil)
            refine stepD (ns := l.drop k) rfl _ _ rfl rfl hr hrf hB rfl (HS10.out _ hB) (by have := HN.out; simp <;> omega) ?_
            intro vr W5 hr hrf hB hk
            clear hk
            refine hK.out _ _ ⟨⟨_, hB⟩, rfl⟩ (fun hC => ?_)
            go_simp
            clear hK K
            refine takeList (i := 12) rfl (by kernel_rfl) (by kernel_rfl) (by kernel_rfl) (fun _ _ _ _ h => h) rfl rfl hC (fun K hK => ?_)
            go_big_quiet_op
            refine hK _ ?_
            clear hK K
            refine wpAnyH_done (by kernel_rfl) ?_ _
            go_wp2
            go_ret
            refine ⟨⟨_, rfl, ?_, Or.inr fun b hb => ?_⟩, bt HB2.out hB⟩
            · rw [HI.out, if_neg (by rw [HX.out]; intro e; have := HE.out.2 (by simpa using e); cases this)]
              simpa using hr
            · exact Nat.le_trans HB2.out.size (hrf b hb)
    · obtain rfl : k = n := by omega
      have HI : Hid (C.insL (d1, d2) l = l ++ [(d1, d2)]) := by
        show _ = _
        rw [C.insL_at (d1, d2) l k HK.out (fun x hx => by rw [List.getElem?_eq_none (by have := HN.out; omega)] at hx; cases hx) (by have := HN.out; omega), List.getElem?_eq_none (by have := HN.out; omega), if_neg (by simp), List.take_of_length_le (by have := HN.out; omega), List.drop_eq_nil_of_le (by have := HN.out; omega)]
      have hcap : k ≤ c1 := by have := cap_of H1.out; have := HN.out; omega
      rcases H1.out.shape with ⟨e1, e2⟩ | ⟨g1, cap, cur, e1, -⟩
      · subst e2
        cases e1
        obtain rfl : k = 0 := HN.out
        have HS3 : Hid (∀ {B : Nat} {A : World} (W : World), Below B A W → SrcAt W 2 (.slice none 0 0) ([] : List C.Dt).length (rowD [])) := fun W _ => src_zero W none 0
        have HS10 : Hid (∀ {B : Nat} {A : World} (W : World), Below B A W → SrcAt W 2 (.slice none 0 0) ([] : List C.Dt).length (rowD [])) := fun W _ => src_zero W none 0
        have hne : Nonempty (NewW wr) := ⟨NewW.start wr⟩
        have b0 : ∀ m : NewW wr, m.v.cell? ⟨w.heap.size, 0, none⟩ = some (.int .i64 d1) := fun m => (box2 (keep_on m.h HQ.out)).1
        have b1 : ∀ m : NewW wr, m.v.cell? ⟨w.heap.size, 1, none⟩ = some (.int .i64 d2) := fun m => (box2 (keep_on m.h HQ.out)).2
        go_wp2_with fail
        refine wp_region_new (by kernel_rfl) (by kernel_rfl) ?_
        repeat (go_big_quiet_step (fail))
        refine wpQuiet_nil ?_
        rintro _ ⟨w2, rfl⟩
        have HB2 : Hid (Below w.heap.size w w2.v) := bt HB.out w2.h
        have HQ2 : Hid (w2.v.heap[w.heap.size]? = some (.cells #[.int .i64 d1, .int .i64 d2] 29)) := keep_on w2.h HQ.out
        obtain ⟨wc, hwc⟩ : ∃ wc, w2.v = wc := ⟨_, rfl⟩
        rw [hwc] at HB2 HQ2 ⊢
        clear hwc b0 b1 hne HQ HB w2
        have hne : Nonempty (NewW wc) := ⟨NewW.start wc⟩
        have b0 : ∀ m : NewW wc, m.v.cell? ⟨w.heap.size, 0, none⟩ = some (.int .i64 d1) := fun m => (box2 (keep_on m.h HQ2.out)).1
        have b1 : ∀ m : NewW wc, m.v.cell? ⟨w.heap.size, 1, none⟩ = some (.int .i64 d2) := fun m => (box2 (keep_on m.h HQ2.out)).2
        go_wp2_with fail
        refine wp_region_new (by kernel_rfl) (by kernel_rfl) ?_
        repeat (go_big_quiet_step (fail))
        refine wpQuiet_nil ?_
        rintro _ ⟨w3, rfl⟩
        go_wp2_with fail
        have hC : ∃ m : NewW wc, w3.v.drew = m.v := ⟨⟨w3.v.drew, w3.h.drew⟩, rfl⟩
        refine wp_region_held_drew (S := fun w' => ∃ m : NewW wc, w' = m.v) (by kernel_rfl) hC (fun _ => ?_)
        have hB : Below wc.heap.size wc w3.v.drew := w3.h.drew
        generalize hW0 : w3.v.drew = W0 at *
        clear hW0 w3
        refine takeList (i := 1) rfl (by kernel_rfl) (by kernel_rfl) (by kernel_rfl) (fun _ _ _ _ h => h) rfl rfl hC (fun K hK => ?_)
        go_big_quiet_op
        refine hK _ ?_
        clear hK K
        refine takeList (i := 2) rfl (by kernel_rfl) (by kernel_rfl) (by kernel_rfl) (fun _ _ _ _ h => h) rfl rfl hC (fun K hK => ?_)
        go_big_quiet_op
        refine hK _ ?_
        clear hK K
        refine takeVal (i := 3) (.slice none 0 0) rfl (by kernel_rfl) (by kernel_rfl) (by kernel_rfl) (fun _ _ _ _ h => h) rfl hC (fun w' _ => by go_simp; try (intro h; omega)) ?_
        go_simp
        refine takeList (i := 5) rfl (by kernel_rfl) (by kernel_rfl) (by kernel_rfl) (fun _ _ _ _ h => h) rfl rfl hC (fun K hK => ?_)
        go_big_quiet_op
        refine hK _ ?_
        clear hK K
        refine takeList (i := 8) rfl (by kernel_rfl) (by kernel_rfl) (by kernel_rfl) (fun _ _ _ _ h => h) rfl rfl hC (fun K hK => ?_)
        go_big_quiet_op
        refine hK _ ?_
        clear hK K
        refine takeList (i := 9) rfl (by kernel_rfl) (by kernel_rfl) (by kernel_rfl) (fun _ _ _ _ h => h) rfl rfl hC (fun K hK => ?_)
        go_big_quiet_op
        refine hK _ ?_
        clear hK K
        refine takeVal (i := 10) (.slice none 0 0) rfl (by kernel_rfl) (by kernel_rfl) (by kernel_rfl) (fun _ _ _ _ h => h) rfl hC (fun w' _ => by go_simp; try (intro h; omega)) ?_
        go_simp
        clear b0 b1 hne
        refine wpAnyH_ready (rs := [0, 6]) (by kernel_rfl) (by simp) (AllReadyH.cons (at_of_drop (i := 0) rfl) (fun K hK => ?_) (AllReadyH.cons (at_of_drop (i := 6) rfl) (fun K hK => ?_) AllReadyH.nil))
        · rw [if_pos (by rfl)]
          go_simp
          have hal := below_new W0 (.cells #[] 29)
          have hr := OwnD.empty W0
          obtain ⟨vr, hvr⟩ : ∃ vr, Value.slice (some ⟨W0.heap.size, 0, none⟩) 0 0 = vr := ⟨_, rfl⟩
          have hrf : ∀ b, vr.ownBlock = some b → wc.heap.size ≤ b := fun b hb => by rw [← hvr] at hb; cases hb; exact hB.size
          rw [hvr] at hr ⊢
          replace hB := bt hB hal
          refine hK.out _ _ ⟨⟨_, hB⟩, rfl⟩ (fun hC => ?_)
          generalize World.alloc W0 (.cells #[] 29) = W1 at *
          clear hK K hal hvr
          refine wpAnyH_ready (rs := [4, 6]) (by kernel_rfl) (by simp) (AllReadyH.cons (at_of_drop (i := 4) rfl) (fun K hK => ?_) (AllReadyH.cons (at_of_drop (i := 6) rfl) (fun K hK => ?_) AllReadyH.nil))
          · refine stepD (ns := []) rfl _ _ rfl rfl hr hrf hB rfl (HS3.out _ hB) (by have := HN.out; simp <;> omega) ?_
            intro vr W2 hr hrf hB hk
            clear hk
            refine hK.out _ _ ⟨⟨_, hB⟩, rfl⟩ (fun hC => ?_)
            go_simp
            clear hK K
            refine wpAnyH_ready (rs := [6]) (by kernel_rfl) (by simp) (AllReadyH.cons (at_of_drop (i := 6) rfl) (fun K hK => ?_) AllReadyH.nil)
            rw [if_pos (by rfl)]
            go_simp
            have hal := below_new W2 (.cells #[.int .i64 d1, .int .i64 d2] 29)
            obtain ⟨vd, hvd⟩ : ∃ vd, W2.heap.size = vd := ⟨_, rfl⟩
            have hd := heap_alloc_new W2 (.cells #[.int .i64 d1, .int .i64 d2] 29)
            have hdn : vr.ownBlock ≠ some vd := fun e => by have := row_lt hr e; omega
            replace hr := OwnD.below hr hal
            rw [hvd] at hd ⊢
            replace hB := bt hB hal
            refine hK.out _ _ ⟨⟨_, hB⟩, rfl⟩ (fun hC => ?_)
            generalize World.alloc W2 (.cells #[.int .i64 d1, .int .i64 d2] 29) = W3 at *
            clear hK K hal hvd
            refine wpAnyH_ready (rs := [7]) (by kernel_rfl) (by simp) (AllReadyH.cons (at_of_drop (i := 7) rfl) (fun K hK => ?_) AllReadyH.nil)
            refine stepD (ns := [(d1, d2)]) rfl _ _ rfl rfl hr hrf hB rfl (two_src (c := 1) hd) (by have := HN.out; simp <;> omega) ?_
            intro vr W4 hr hrf hB hk
            clear hk
            refine hK.out _ _ ⟨⟨_, hB⟩, rfl⟩ (fun hC => ?_)
            go_simp
            clear hK K
            refine wpAnyH_ready (rs := [11]) (by kernel_rfl) (by simp) (AllReadyH.cons (at_of_drop (i := 11) rfl) (fun K hK => ?_) AllReadyH.nil)
            refine stepD (ns := []) rfl _ _ rfl rfl hr hrf hB rfl (HS10.out _ hB) (by have := HN.out; simp <;> omega) ?_
            intro vr W5 hr hrf hB hk
            clear hk
            refine hK.out _ _ ⟨⟨_, hB⟩, rfl⟩ (fun hC => ?_)
            go_simp
            clear hK K
            refine takeList (i := 12) rfl (by kernel_rfl) (by kernel_rfl) (by kernel_rfl) (fun _ _ _ _ h => h) rfl rfl hC (fun K hK => ?_)
            go_big_quiet_op
            refine hK _ ?_
            clear hK K
            refine wpAnyH_done (by kernel_rfl) ?_ _
            go_wp2
            go_ret
            refine ⟨⟨_, rfl, ?_, Or.inr fun b hb => ?_⟩, bt HB2.out hB⟩
            · rw [HI.out]
              simpa using hr
            · exact Nat.le_trans HB2.out.size (hrf b hb)
          · rw [if_pos (by rfl)]
            go_simp
            have hal := below_new W1 (.cells #[.int .i64 d1, .int .i64 d2] 29)
            obtain ⟨vd, hvd⟩ : ∃ vd, W1.heap.size = vd := ⟨_, rfl⟩
            have hd := heap_alloc_new W1 (.cells #[.int .i64 d1, .int .i64 d2] 29)
            have hdn : vr.ownBlock ≠ some vd := fun e => by have := row_lt hr e; omega
            replace hr := OwnD.below hr hal
            rw [hvd] at hd ⊢
            replace hB := bt hB hal
            refine hK.out _ _ ⟨⟨_, hB⟩, rfl⟩ (fun hC => ?_)
            generalize World.alloc W1 (.cells #[.int .i64 d1, .int .i64 d2] 29) = W2 at *
            clear hK K hal hvd
            refine wpAnyH_ready (rs := [4]) (by kernel_rfl) (by simp) (AllReadyH.cons (at_of_drop (i := 4) rfl) (fun K hK => ?_) AllReadyH.nil)
            refine stepD (ns := []) rfl _ _ rfl rfl hr hrf hB rfl (HS3.out _ hB) (by have := HN.out; simp <;> omega) ?_
            intro vr W3 hr hrf hB hk
            replace hd := hk _ _ hd hdn
            clear hk
            refine hK.out _ _ ⟨⟨_, hB⟩, rfl⟩ (fun hC => ?_)
            go_simp
            clear hK K
            refine wpAnyH_ready (rs := [7]) (by kernel_rfl) (by simp) (AllReadyH.cons (at_of_drop (i := 7) rfl) (fun K hK => ?_) AllReadyH.nil)
            refine stepD (ns := [(d1, d2)]) rfl _ _ rfl rfl hr hrf hB rfl (two_src (c := 1) hd) (by have := HN.out; simp <;> omega) ?_
            intro vr W4 hr hrf hB hk
            clear hk
            refine hK.out _ _ ⟨⟨_, hB⟩, rfl⟩ (fun hC => ?_)
            go_simp
            clear hK K
            refine wpAnyH_ready (rs := [11]) (by kernel_rfl) (by simp) (AllReadyH.cons (at_of_drop (i := 11) rfl) (fun K hK => ?_) AllReadyH.nil)
            refine stepD (ns := []) rfl _ _ rfl rfl hr hrf hB rfl (HS10.out _ hB) (by have := HN.out; simp <;> omega) ?_
            intro vr W5 hr hrf hB hk
            clear hk
            refine hK.out _ _ ⟨⟨_, hB⟩, rfl⟩ (fun hC => ?_)
            go_simp
            clear hK K
            refine takeList (i := 12) rfl (by kernel_rfl) (by kernel_rfl) (by kernel_rfl) (fun _ _ _ _ h => h) rfl rfl hC (fun K hK => ?_)
            go_big_quiet_op
            refine hK _ ?_
            clear hK K
            refine wpAnyH_done (by kernel_rfl) ?_ _
            go_wp2
            go_ret
            refine ⟨⟨_, rfl, ?_, Or.inr fun b hb => ?_⟩, bt HB2.out hB⟩
            · rw [HI.out]
              simpa using hr
            · exact Nat.le_trans HB2.out.size (hrf b hb)
        · rw [if_pos (by rfl)]
          go_simp
          have hal := below_new W0 (.cells #[.int .i64 d1, .int .i64 d2] 29)
          obtain ⟨vd, hvd⟩ : ∃ vd, W0.heap.size = vd := ⟨_, rfl⟩
          have hd := heap_alloc_new W0 (.cells #[.int .i64 d1, .int .i64 d2] 29)
          rw [hvd] at hd ⊢
          replace hB := bt hB hal
          refine hK.out _ _ ⟨⟨_, hB⟩, rfl⟩ (fun hC => ?_)
          generalize World.alloc W0 (.cells #[.int .i64 d1, .int .i64 d2] 29) = W1 at *
          clear hK K hal hvd
          refine wpAnyH_ready (rs := [0]) (by kernel_rfl) (by simp) (AllReadyH.cons (at_of_drop (i := 0) rfl) (fun K hK => ?_) AllReadyH.nil)
          rw [if_pos (by rfl)]
          go_simp
          have hal := below_new W1 (.cells #[] 29)
          have hr := OwnD.empty W1
          obtain ⟨vr, hvr⟩ : ∃ vr, Value.slice (some ⟨W1.heap.size, 0, none⟩) 0 0 = vr := ⟨_, rfl⟩
          have hrf : ∀ b, vr.ownBlock = some b → wc.heap.size ≤ b := fun b hb => by rw [← hvr] at hb; cases hb; exact hB.size
          have hdn : vr.ownBlock ≠ some vd := fun e => by rw [← hvr] at e; cases e; exact absurd (Array.getElem?_eq_some_iff.1 hd).1 (Nat.lt_irrefl _)
          replace hd := keep_on hal hd
          rw [hvr] at hr ⊢
          replace hB := bt hB hal
          refine hK.out _ _ ⟨⟨_, hB⟩, rfl⟩ (fun hC => ?_)
          generalize World.alloc W1 (.cells #[] 29) = W2 at *
          clear hK K hal hvr
          refine wpAnyH_ready (rs := [4]) (by kernel_rfl) (by simp) (AllReadyH.cons (at_of_drop (i := 4) rfl) (fun K hK => ?_) AllReadyH.nil)
          refine stepD (ns := []) rfl _ _ rfl rfl hr hrf hB rfl (HS3.out _ hB) (by have := HN.out; simp <;> omega) ?_
          intro vr W3 hr hrf hB hk
          replace hd := hk _ _ hd hdn
          clear hk
          refine hK.out _ _ ⟨⟨_, hB⟩, rfl⟩ (fun hC => ?_)
          go_simp
          clear hK K
          refine wpAnyH_ready (rs := [7]) (by kernel_rfl) (by simp) (AllReadyH.cons (at_of_drop (i := 7) rfl) (fun K hK => ?_) AllReadyH.nil)
          refine stepD (ns := [(d1, d2)]) rfl _ _ rfl rfl hr hrf hB rfl (two_src (c := 1) hd) (by have := HN.out; simp <;> omega) ?_
          intro vr W4 hr hrf hB hk
          clear hk
          refine hK.out _ _ ⟨⟨_, hB⟩, rfl⟩ (fun hC => ?_)
          go_simp
          clear hK K
          refine wpAnyH_ready (rs := [11]) (by kernel_rfl) (by simp) (AllReadyH.cons (at_of_drop (i := 11) rfl) (fun K hK => ?_) AllReadyH.nil)
          refine stepD (ns := []) rfl _ _ rfl rfl hr hrf hB rfl (HS10.out _ hB) (by have := HN.out; simp <;> omega) ?_
          intro vr W5 hr hrf hB hk
          clear hk
          refine hK.out _ _ ⟨⟨_, hB⟩, rfl⟩ (fun hC => ?_)
          go_simp
          clear hK K
          refine takeList (i := 12) rfl (by kernel_rfl) (by kernel_rfl) (by kernel_rfl) (fun _ _ _ _ h => h) rfl rfl hC (fun K hK => ?_)
          go_big_quiet_op
          refine hK _ ?_
          clear hK K
          refine wpAnyH_done (by kernel_rfl) ?_ _
          go_wp2
          go_ret
          refine ⟨⟨_, rfl, ?_, Or.inr fun b hb => ?_⟩, bt HB2.out hB⟩
          · rw [HI.out]
            simpa using hr
          · exact Nat.le_trans HB2.out.size (hrf b hb)
      · cases e1
        by_cases hck : c1 = k
        · subst hck
          have hne : Nonempty (NewW wr) := ⟨NewW.start wr⟩
          have b0 : ∀ m : NewW wr, m.v.cell? ⟨w.heap.size, 0, none⟩ = some (.int .i64 d1) := fun m => (box2 (keep_on m.h HQ.out)).1
          have b1 : ∀ m : NewW wr, m.v.cell? ⟨w.heap.size, 1, none⟩ = some (.int .i64 d2) := fun m => (box2 (keep_on m.h HQ.out)).2
          go_wp2_with fail
          refine wp_region_new (by kernel_rfl) (by kernel_rfl) ?_
          repeat (go_big_quiet_step (fail))
          refine wpQuiet_nil ?_
          rintro _ ⟨w2, rfl⟩
          have HB2 : Hid (Below w.heap.size w w2.v) := bt HB.out w2.h
          have HQ2 : Hid (w2.v.heap[w.heap.size]? = some (.cells #[.int .i64 d1, .int .i64 d2] 29)) := keep_on w2.h HQ.out
          obtain ⟨wc, hwc⟩ : ∃ wc, w2.v = wc := ⟨_, rfl⟩
          rw [hwc] at HB2 HQ2 ⊢
          clear hwc b0 b1 hne HQ HB w2
          have hne : Nonempty (NewW wc) := ⟨NewW.start wc⟩
          have b0 : ∀ m : NewW wc, m.v.cell? ⟨w.heap.size, 0, none⟩ = some (.int .i64 d1) := fun m => (box2 (keep_on m.h HQ2.out)).1
          have b1 : ∀ m : NewW wc, m.v.cell? ⟨w.heap.size, 1, none⟩ = some (.int .i64 d2) := fun m => (box2 (keep_on m.h HQ2.out)).2
          go_wp2_with fail
          refine wp_region_new (by kernel_rfl) (by kernel_rfl) ?_
          repeat (go_big_quiet_step (fail))
          refine wpQuiet_nil ?_
          rintro _ ⟨w3, rfl⟩
          go_wp2_with fail
          have HS3 : Hid (∀ W, Below wc.heap.size wc W → SrcAt W 2 (.slice (some ⟨g1, 0, none⟩) c1 c1) l.length (rowD l)) := fun W hW => by rw [show Value.slice (some ⟨g1, 0, none⟩) c1 c1 = .slice (some ⟨g1, 0, none⟩) l.length c1 from by rw [← HN.out]]; exact row_src (H1.out.below (bt HB2.out hW))
          have HS10 : Hid (∀ W, Below wc.heap.size wc W → SrcAt W 2 (.slice (some ⟨g1, 0, none⟩) 0 0) ([] : List C.Dt).length (rowD [])) := fun W _ => src_zero W _ _
          have hC : ∃ m : NewW wc, w3.v.drew = m.v := ⟨⟨w3.v.drew, w3.h.drew⟩, rfl⟩
          refine wp_region_held_drew (S := fun w' => ∃ m : NewW wc, w' = m.v) (by kernel_rfl) hC (fun _ => ?_)
          have hB : Below wc.heap.size wc w3.v.drew := w3.h.drew
          generalize hW0 : w3.v.drew = W0 at *
          clear hW0 w3
          refine takeList (i := 1) rfl (by kernel_rfl) (by kernel_rfl) (by kernel_rfl) (fun _ _ _ _ h => h) rfl rfl hC (fun K hK => ?_)
          go_big_quiet_op
          refine hK _ ?_
          clear hK K
          refine takeList (i := 2) rfl (by kernel_rfl) (by kernel_rfl) (by kernel_rfl) (fun _ _ _ _ h => h) rfl rfl hC (fun K hK => ?_)
          go_big_quiet_op
          refine hK _ ?_
          clear hK K
          refine takeVal (i := 3) (.slice (some ⟨g1, 0, none⟩) c1 c1) rfl (by kernel_rfl) (by kernel_rfl) (by kernel_rfl) (fun _ _ _ _ h => h) rfl hC (fun w' _ => by go_simp; try (intro h; omega)) ?_
          go_simp
          refine takeList (i := 5) rfl (by kernel_rfl) (by kernel_rfl) (by kernel_rfl) (fun _ _ _ _ h => h) rfl rfl hC (fun K hK => ?_)
          go_big_quiet_op
          refine hK _ ?_
          clear hK K
          refine takeList (i := 8) rfl (by kernel_rfl) (by kernel_rfl) (by kernel_rfl) (fun _ _ _ _ h => h) rfl rfl hC (fun K hK => ?_)
          go_big_quiet_op
          refine hK _ ?_
          clear hK K
          refine takeList (i := 9) rfl (by kernel_rfl) (by kernel_rfl) (by kernel_rfl) (fun _ _ _ _ h => h) rfl rfl hC (fun K hK => ?_)
          go_big_quiet_op
          refine hK _ ?_
          clear hK K
          refine takeVal (i := 10) (.slice (some ⟨g1, 0, none⟩) 0 0) rfl (by kernel_rfl) (by kernel_rfl) (by kernel_rfl) (fun _ _ _ _ h => h) rfl hC (fun w' _ => by go_simp; try (intro h; omega)) ?_
          go_simp
          clear b0 b1 hne
          refine wpAnyH_ready (rs := [0, 6]) (by kernel_rfl) (by simp) (AllReadyH.cons (at_of_drop (i := 0) rfl) (fun K hK => ?_) (AllReadyH.cons (at_of_drop (i := 6) rfl) (fun K hK => ?_) AllReadyH.nil))
          · rw [if_pos (by rfl)]
            go_simp
            have hal := below_new W0 (.cells #[] 29)
            have hr := OwnD.empty W0
            obtain ⟨vr, hvr⟩ : ∃ vr, Value.slice (some ⟨W0.heap.size, 0, none⟩) 0 0 = vr := ⟨_, rfl⟩
            have hrf : ∀ b, vr.ownBlock = some b → wc.heap.size ≤ b := fun b hb => by rw [← hvr] at hb; cases hb; exact hB.size
            rw [hvr] at hr ⊢
            replace hB := bt hB hal
            refine hK.out _ _ ⟨⟨_, hB⟩, rfl⟩ (fun hC => ?_)
            generalize World.alloc W0 (.cells #[] 29) = W1 at *
            clear hK K hal hvr
            refine wpAnyH_ready (rs := [4, 6]) (by kernel_rfl) (by simp) (AllReadyH.cons (at_of_drop (i := 4) rfl) (fun K hK => ?_) (AllReadyH.cons (at_of_drop (i := 6) rfl) (fun K hK => ?_) AllReadyH.nil))
            · refine stepD (ns := l) rfl _ _ rfl rfl hr hrf hB rfl (HS3.out _ hB) (by have := HN.out; simp <;> omega) ?_
              intro vr W2 hr hrf hB hk
              clear hk
              refine hK.out _ _ ⟨⟨_, hB⟩, rfl⟩ (fun hC => ?_)
              go_simp
              clear hK K
              refine wpAnyH_ready (rs := [6]) (by kernel_rfl) (by simp) (AllReadyH.cons (at_of_drop (i := 6) rfl) (fun K hK => ?_) AllReadyH.nil)
              rw [if_pos (by rfl)]
              go_simp
              have hal := below_new W2 (.cells #[.int .i64 d1, .int .i64 d2] 29)
              obtain ⟨vd, hvd⟩ : ∃ vd, W2.heap.size = vd := ⟨_, rfl⟩
              have hd := heap_alloc_new W2 (.cells #[.int .i64 d1, .int .i64 d2] 29)
              have hdn : vr.ownBlock ≠ some vd := fun e => by have := row_lt hr e; omega
              replace hr := OwnD.below hr hal
              rw [hvd] at hd ⊢
              replace hB := bt hB hal
              refine hK.out _ _ ⟨⟨_, hB⟩, rfl⟩ (fun hC => ?_)
              generalize World.alloc W2 (.cells #[.int .i64 d1, .int .i64 d2] 29) = W3 at *
              clear hK K hal hvd
              refine wpAnyH_ready (rs := [7]) (by kernel_rfl) (by simp) (AllReadyH.cons (at_of_drop (i := 7) rfl) (fun K hK => ?_) AllReadyH.nil)
              refine stepD (ns := [(d1, d2)]) rfl _ _ rfl rfl hr hrf hB rfl (two_src (c := 1) hd) (by have := HN.out; simp <;> omega) ?_
              intro vr W4 hr hrf hB hk
              clear hk
              refine hK.out _ _ ⟨⟨_, hB⟩, rfl⟩ (fun hC => ?_)
              go_simp
              clear hK K
              refine wpAnyH_ready (rs := [11]) (by kernel_rfl) (by simp) (AllReadyH.cons (at_of_drop (i := 11) rfl) (fun K hK => ?_) AllReadyH.nil)
              refine stepD (ns := []) rfl _ _ rfl rfl hr hrf hB rfl (HS10.out _ hB) (by have := HN.out; simp <;> omega) ?_
              intro vr W5 hr hrf hB hk
              clear hk
              refine hK.out _ _ ⟨⟨_, hB⟩, rfl⟩ (fun hC => ?_)
              go_simp
              clear hK K
              refine takeList (i := 12) rfl (by kernel_rfl) (by kernel_rfl) (by kernel_rfl) (fun _ _ _ _ h => h) rfl rfl hC (fun K hK => ?_)
              go_big_quiet_op
              refine hK _ ?_
              clear hK K
              refine wpAnyH_done (by kernel_rfl) ?_ _
              go_wp2
              go_ret
              refine ⟨⟨_, rfl, ?_, Or.inr fun b hb => ?_⟩, bt HB2.out hB⟩
              · rw [HI.out]
                simpa using hr
              · exact Nat.le_trans HB2.out.size (hrf b hb)
            · rw [if_pos (by rfl)]
              go_simp
              have hal := below_new W1 (.cells #[.int .i64 d1, .int .i64 d2] 29)
              obtain ⟨vd, hvd⟩ : ∃ vd, W1.heap.size = vd := ⟨_, rfl⟩
              have hd := heap_alloc_new W1 (.cells #[.int .i64 d1, .int .i64 d2] 29)
              have hdn : vr.ownBlock ≠ some vd := fun e => by have := row_lt hr e; omega
              replace hr := OwnD.below hr hal
              rw [hvd] at hd ⊢
              replace hB := bt hB hal
              refine hK.out _ _ ⟨⟨_, hB⟩, rfl⟩ (fun hC => ?_)
              generalize World.alloc W1 (.cells #[.int .i64 d1, .int .i64 d2] 29) = W2 at *
              clear hK K hal hvd
              refine wpAnyH_ready (rs := [4]) (by kernel_rfl) (by simp) (AllReadyH.cons (at_of_drop (i := 4) rfl) (fun K hK => ?_) AllReadyH.nil)
              refine stepD (ns := l) rfl _ _ rfl rfl hr hrf hB rfl (HS3.out _ hB) (by have := HN.out; simp <;> omega) ?_
              intro vr W3 hr hrf hB hk
              replace hd := hk _ _ hd hdn
              clear hk
              refine hK.out _ _ ⟨⟨_, hB⟩, rfl⟩ (fun hC => ?_)
              go_simp
              clear hK K
              refine wpAnyH_ready (rs := [7]) (by kernel_rfl) (by simp) (AllReadyH.cons (at_of_drop (i := 7) rfl) (fun K hK => ?_) AllReadyH.nil)
              refine stepD (ns := [(d1, d2)]) rfl _ _ rfl rfl hr hrf hB rfl (two_src (c := 1) hd) (by have := HN.out; simp <;> omega) ?_
              intro vr W4 hr hrf hB hk
              clear hk
              refine hK.out _ _ ⟨⟨_, hB⟩, rfl⟩ (fun hC => ?_)
              go_simp
              clear hK K
              refine wpAnyH_ready (rs := [11]) (by kernel_rfl) (by simp) (AllReadyH.cons (at_of_drop (i := 11) rfl) (fun K hK => ?_) AllReadyH.nil)
              refine stepD (ns := []) rfl _ _ rfl rfl hr hrf hB rfl (HS10.out _ hB) (by have := HN.out; simp <;> omega) ?_
              intro vr W5 hr hrf hB hk
              clear hk
              refine hK.out _ _ ⟨⟨_, hB⟩, rfl⟩ (fun hC => ?_)
              go_simp
              clear hK K
              refine takeList (i := 12) rfl (by kernel_rfl) (by kernel_rfl) (by kernel_rfl) (fun _ _ _ _ h => h) rfl rfl hC (fun K hK => ?_)
              go_big_quiet_op
              refine hK _ ?_
              clear hK K
              refine wpAnyH_done (by kernel_rfl) ?_ _
              go_wp2
              go_ret
              refine ⟨⟨_, rfl, ?_, Or.inr fun b hb => ?_⟩, bt HB2.out hB⟩
              · rw [HI.out]
                simpa using hr
              · exact Nat.le_trans HB2.out.size (hrf b hb)
          · rw [if_pos (by rfl)]
            go_simp
            have hal := below_new W0 (.cells #[.int .i64 d1, .int .i64 d2] 29)
            obtain ⟨vd, hvd⟩ : ∃ vd, W0.heap.size = vd := ⟨_, rfl⟩
            have hd := heap_alloc_new W0 (.cells #[.int .i64 d1, .int .i64 d2] 29)
            rw [hvd] at hd ⊢
            replace hB := bt hB hal
            refine hK.out _ _ ⟨⟨_, hB⟩, rfl⟩ (fun hC => ?_)
            generalize World.alloc W0 (.cells #[.int .i64 d1, .int .i64 d2] 29) = W1 at *
            clear hK K hal hvd
            refine wpAnyH_ready (rs := [0]) (by kernel_rfl) (by simp) (AllReadyH.cons (at_of_drop (i := 0) rfl) (fun K hK => ?_) AllReadyH.nil)
            rw [if_pos (by rfl)]
            go_simp
            have hal := below_new W1 (.cells #[] 29)
            have hr := OwnD.empty W1
            obtain ⟨vr, hvr⟩ : ∃ vr, Value.slice (some ⟨W1.heap.size, 0, none⟩) 0 0 = vr := ⟨_, rfl⟩
            have hrf : ∀ b, vr.ownBlock = some b → wc.heap.size ≤ b := fun b hb => by rw [← hvr] at hb; cases hb; exact hB.size
            have hdn : vr.ownBlock ≠ some vd := fun e => by rw [← hvr] at e; cases e; exact absurd (Array.getElem?_eq_some_iff.1 hd).1 (Nat.lt_irrefl _)
            replace hd := keep_on hal hd
            rw [hvr] at hr ⊢
            replace hB := bt hB hal
            refine hK.out _ _ ⟨⟨_, hB⟩, rfl⟩ (fun hC => ?_)
            generalize World.alloc W1 (.cells #[] 29) = W2 at *
            clear hK K hal hvr
            refine wpAnyH_ready (rs := [4]) (by kernel_rfl) (by simp) (AllReadyH.cons (at_of_drop (i := 4) rfl) (fun K hK => ?_) AllReadyH.nil)
            refine stepD (ns := l) rfl _ _ rfl rfl hr hrf hB rfl (HS3.out _ hB) (by have := HN.out; simp <;> omega) ?_
            intro vr W3 hr hrf hB hk
            replace hd := hk _ _ hd hdn
            clear hk
            refine hK.out _ _ ⟨⟨_, hB⟩, rfl⟩ (fun hC => ?_)
            go_simp
            clear hK K
            refine wpAnyH_ready (rs := [7]) (by kernel_rfl) (by simp) (AllReadyH.cons (at_of_drop (i := 7) rfl) (fun K hK => ?_) AllReadyH.nil)
            refine stepD (ns := [(d1, d2)]) rfl _ _ rfl rfl hr hrf hB rfl (two_src (c := 1) hd) (by have := HN.out; simp <;> omega) ?_
            intro vr W4 hr hrf hB hk
            clear hk
            refine hK.out _ _ ⟨⟨_, hB⟩, rfl⟩ (fun hC => ?_)
            go_simp
            clear hK K
            refine wpAnyH_ready (rs := [11]) (by kernel_rfl) (by simp) (AllReadyH.cons (at_of_drop (i := 11) rfl) (fun K hK => ?_) AllReadyH.nil)
            refine stepD (ns := []) rfl _ _ rfl rfl hr hrf hB rfl (HS10.out _ hB) (by have := HN.out; simp <;> omega) ?_
            intro vr W5 hr hrf hB hk
            clear hk
            refine hK.out _ _ ⟨⟨_, hB⟩, rfl⟩ (fun hC => ?_)
            go_simp
            clear hK K
            refine takeList (i := 12) rfl (by kernel_rfl) (by kernel_rfl) (by kernel_rfl) (fun _ _ _ _ h => h) rfl rfl hC (fun K hK => ?_)
            go_big_quiet_op
            refine hK _ ?_
            clear hK K
            refine wpAnyH_done (by kernel_rfl) ?_ _
            go_wp2
            go_ret
            refine ⟨⟨_, rfl, ?_, Or.inr fun b hb => ?_⟩, bt HB2.out hB⟩
            · rw [HI.out]
              simpa using hr
            · exact Nat.le_trans HB2.out.size (hrf b hb)
        · skip
          have hne : Nonempty (NewW wr) := ⟨NewW.start wr⟩
          have b0 : ∀ m : NewW wr, m.v.cell? ⟨w.heap.size, 0, none⟩ = some (.int .i64 d1) := fun m => (box2 (keep_on m.h HQ.out)).1
          have b1 : ∀ m : NewW wr, m.v.cell? ⟨w.heap.size, 1, none⟩ = some (.int .i64 d2) := fun m => (box2 (keep_on m.h HQ.out)).2
          go_wp2_with fail
          refine wp_region_new (by kernel_rfl) (by kernel_rfl) ?_
          repeat (go_big_quiet_step (fail))
          refine wpQuiet_nil ?_
          rintro _ ⟨w2, rfl⟩
          have HB2 : Hid (Below w.heap.size w w2.v) := bt HB.out w2.h
          have HQ2 : Hid (w2.v.heap[w.heap.size]? = some (.cells #[.int .i64 d1, .int .i64 d2] 29)) := keep_on w2.h HQ.out
          obtain ⟨wc, hwc⟩ : ∃ wc, w2.v = wc := ⟨_, rfl⟩
          rw [hwc] at HB2 HQ2 ⊢
          clear hwc b0 b1 hne HQ HB w2
          have hne : Nonempty (NewW wc) := ⟨NewW.start wc⟩
          have b0 : ∀ m : NewW wc, m.v.cell? ⟨w.heap.size, 0, none⟩ = some (.int .i64 d1) := fun m => (box2 (keep_on m.h HQ2.out)).1
          have b1 : ∀ m : NewW wc, m.v.cell? ⟨w.heap.size, 1, none⟩ = some (.int .i64 d2) := fun m => (box2 (keep_on m.h HQ2.out)).2
          go_wp2_with fail
          refine wp_region_new (by kernel_rfl) (by kernel_rfl) ?_
          repeat (go_big_quiet_step (fail))
          refine wpQuiet_nil ?_
          rintro _ ⟨w3, rfl⟩
          go_wp2_with fail
          have HS3 : Hid (∀ W, Below wc.heap.size wc W → SrcAt W 2 (.slice (some ⟨g1, 0, none⟩) k c1) l.length (rowD l)) := fun W hW => by rw [HN.out]; exact row_src (H1.out.below (bt HB2.out hW))
          have HS10 : Hid (∀ W, Below wc.heap.size wc W → SrcAt W 2 (.slice (some ⟨g1, k * 2, none⟩) 0 (c1 - k)) ([] : List C.Dt).length (rowD [])) := fun W _ => src_zero W _ _
          have hC : ∃ m : NewW wc, w3.v.drew = m.v := ⟨⟨w3.v.drew, w3.h.drew⟩, rfl⟩
          refine wp_region_held_drew (S := fun w' => ∃ m : NewW wc, w' = m.v) (by kernel_rfl) hC (fun _ => ?_)
          have hB : Below wc.heap.size wc w3.v.drew := w3.h.drew
          generalize hW0 : w3.v.drew = W0 at *
          clear hW0 w3
          refine takeList (i := 1) rfl (by kernel_rfl) (by kernel_rfl) (by kernel_rfl) (fun _ _ _ _ h => h) rfl rfl hC (fun K hK => ?_)
          go_big_quiet_op
          refine hK _ ?_
          clear hK K
          refine takeList (i := 2) rfl (by kernel_rfl) (by kernel_rfl) (by kernel_rfl) (fun _ _ _ _ h => h) rfl rfl hC (fun K hK => ?_)
          go_big_quiet_op
          refine hK _ ?_
          clear hK K
          refine takeVal (i := 3) (.slice (some ⟨g1, 0, none⟩) k c1) rfl (by kernel_rfl) (by kernel_rfl) (by kernel_rfl) (fun _ _ _ _ h => h) rfl hC (fun w' _ => by go_simp; try (intro h; omega)) ?_
          go_simp
          refine takeList (i := 5) rfl (by kernel_rfl) (by kernel_rfl) (by kernel_rfl) (fun _ _ _ _ h => h) rfl rfl hC (fun K hK => ?_)
          go_big_quiet_op
          refine hK _ ?_
          clear hK K
          refine takeList (i := 8) rfl (by kernel_rfl) (by kernel_rfl) (by kernel_rfl) (fun _ _ _ _ h => h) rfl rfl hC (fun K hK => ?_)
          go_big_quiet_op
          refine hK _ ?_
          clear hK K
          refine takeList (i := 9) rfl (by kernel_rfl) (by kernel_rfl) (by kernel_rfl) (fun _ _ _ _ h => h) rfl rfl hC (fun K hK => ?_)
          go_big_quiet_op
          refine hK _ ?_
          clear hK K
          refine takeVal (i := 10) (.slice (some ⟨g1, k * 2, none⟩) 0 (c1 - k)) rfl (by kernel_rfl) (by kernel_rfl) (by kernel_rfl) (fun _ _ _ _ h => h) rfl hC (fun w' _ => by go_simp; try (intro h; omega)) ?_
          go_simp
          clear b0 b1 hne
          refine wpAnyH_ready (rs := [0, 6]) (by kernel_rfl) (by simp) (AllReadyH.cons (at_of_drop (i := 0) rfl) (fun K hK => ?_) (AllReadyH.cons (at_of_drop (i := 6) rfl) (fun K hK => ?_) AllReadyH.nil))
          · rw [if_pos (by rfl)]
            go_simp
            have hal := below_new W0 (.cells #[] 29)
            have hr := OwnD.empty W0
            obtain ⟨vr, hvr⟩ : ∃ vr, Value.slice (some ⟨W0.heap.size, 0, none⟩) 0 0 = vr := ⟨_, rfl⟩
            have hrf : ∀ b, vr.ownBlock = some b → wc.heap.size ≤ b := fun b hb => by rw [← hvr] at hb; cases hb; exact hB.size
            rw [hvr] at hr ⊢
            replace hB := bt hB hal
            refine hK.out _ _ ⟨⟨_, hB⟩, rfl⟩ (fun hC => ?_)
            generalize World.alloc W0 (.cells #[] 29) = W1 at *
            clear hK K hal hvr
            refine wpAnyH_ready (rs := [4, 6]) (by kernel_rfl) (by simp) (AllReadyH.cons (at_of_drop (i := 4) rfl) (fun K hK => ?_) (AllReadyH.cons (at_of_drop (i := 6) rfl) (fun K hK => ?_) AllReadyH.nil))
            · refine stepD (ns := l) rfl _ _ rfl rfl hr hrf hB rfl (HS3.out _ hB) (by have := HN.out; simp <;> omega) ?_
              intro vr W2 hr hrf hB hk
              clear hk
              refine hK.out _ _ ⟨⟨_, hB⟩, rfl⟩ (fun hC => ?_)
              go_simp
              clear hK K
              refine wpAnyH_ready (rs := [6]) (by kernel_rfl) (by simp) (AllReadyH.cons (at_of_drop (i := 6) rfl) (fun K hK => ?_) AllReadyH.nil)
              rw [if_pos (by rfl)]
              go_simp
              have hal := below_new W2 (.cells #[.int .i64 d1, .int .i64 d2] 29)
              obtain ⟨vd, hvd⟩ : ∃ vd, W2.heap.size = vd := ⟨_, rfl⟩
              have hd := heap_alloc_new W2 (.cells #[.int .i64 d1, .int .i64 d2] 29)
              have hdn : vr.ownBlock ≠ some vd := fun e => by have := row_lt hr e; omega
              replace hr := OwnD.below hr hal
              rw [hvd] at hd ⊢
              replace hB := bt hB hal
              refine hK.out _ _ ⟨⟨_, hB⟩, rfl⟩ (fun hC => ?_)
              generalize World.alloc W2 (.cells #[.int .i64 d1, .int .i64 d2] 29) = W3 at *
              clear hK K hal hvd
              refine wpAnyH_ready (rs := [7]) (by kernel_rfl) (by simp) (AllReadyH.cons (at_of_drop (i := 7) rfl) (fun K hK => ?_) AllReadyH.nil)
              refine stepD (ns := [(d1, d2)]) rfl _ _ rfl rfl hr hrf hB rfl (two_src (c := 1) hd) (by have := HN.out; simp <;> omega) ?_
              intro vr W4 hr hrf hB hk
              clear hk
              refine hK.out _ _ ⟨⟨_, hB⟩, rfl⟩ (fun hC => ?_)
              go_simp
              clear hK K
              refine wpAnyH_ready (rs := [11]) (by kernel_rfl) (by simp) (AllReadyH.cons (at_of_drop (i := 11) rfl) (fun K hK => ?_) AllReadyH.nil)
              refine stepD (ns := []) rfl _ _ rfl rfl hr hrf hB rfl (HS10.out _ hB) (by have := HN.out; simp <;> omega) ?_
              intro vr W5 hr hrf hB hk
              clear hk
              refine hK.out _ _ ⟨⟨_, hB⟩, rfl⟩ (fun hC => ?_)
              go_simp
              clear hK K
              refine takeList (i := 12) rfl (by kernel_rfl) (by kernel_rfl) (by kernel_rfl) (fun _ _ _ _ h => h) rfl rfl hC (fun K hK => ?_)
              go_big_quiet_op
              refine hK _ ?_
              clear hK K
              refine wpAnyH_done (by kernel_rfl) ?_ _
              go_wp2
              go_ret
              refine ⟨⟨_, rfl, ?_, Or.inr fun b hb => ?_⟩, bt HB2.out hB⟩
              · rw [HI.out]
                simpa using hr
              · exact Nat.le_trans HB2.out.size (hrf b hb)
            · rw [if_pos (by rfl)]
              go_simp
              have hal := below_new W1 (.cells #[.int .i64 d1, .int .i64 d2] 29)
              obtain ⟨vd, hvd⟩ : ∃ vd, W1.heap.size = vd := ⟨_, rfl⟩
              have hd := heap_alloc_new W1 (.cells #[.int .i64 d1, .int .i64 d2] 29)
              have hdn : vr.ownBlock ≠ some vd := fun e => by have := row_lt hr e; omega
              replace hr := OwnD.below hr hal
              rw [hvd] at hd ⊢
              replace hB := bt hB hal
              refine hK.out _ _ ⟨⟨_, hB⟩, rfl⟩ (fun hC => ?_)
              generalize World.alloc W1 (.cells #[.int .i64 d1, .int .i64 d2] 29) = W2 at *
              clear hK K hal hvd
              refine wpAnyH_ready (rs := [4]) (by kernel_rfl) (by simp) (AllReadyH.cons (at_of_drop (i := 4) rfl) (fun K hK => ?_) AllReadyH.nil)
              refine stepD (ns := l) rfl _ _ rfl rfl hr hrf hB rfl (HS3.out _ hB) (by have := HN.out; simp <;> omega) ?_
              intro vr W3 hr hrf hB hk
              replace hd := hk _ _ hd hdn
              clear hk
              refine hK.out _ _ ⟨⟨_, hB⟩, rfl⟩ (fun hC => ?_)
              go_simp
              clear hK K
              refine wpAnyH_ready (rs := [7]) (by kernel_rfl) (by simp) (AllReadyH.cons (at_of_drop (i := 7) rfl) (fun K hK => ?_) AllReadyH.nil)
              refine stepD (ns := [(d1, d2)]) rfl _ _ rfl rfl hr hrf hB rfl (two_src (c := 1) hd) (by have := HN.out; simp <;> omega) ?_
              intro vr W4 hr hrf hB hk
              clear hk
              refine hK.out _ _ ⟨⟨_, hB⟩, rfl⟩ (fun hC => ?_)
              go_simp
              clear hK K
              refine wpAnyH_ready (rs := [11]) (by kernel_rfl) (by simp) (AllReadyH.cons (at_of_drop (i := 11) rfl) (fun K hK => ?_) AllReadyH.nil)
              refine stepD (ns := []) rfl _ _ rfl rfl hr hrf hB rfl (HS10.out _ hB) (by have := HN.out; simp <;> omega) ?_
              intro vr W5 hr hrf hB hk
              clear hk
              refine hK.out _ _ ⟨⟨_, hB⟩, rfl⟩ (fun hC => ?_)
              go_simp
              clear hK K
              refine takeList (i := 12) rfl (by kernel_rfl) (by kernel_rfl) (by kernel_rfl) (fun _ _ _ _ h => h) rfl rfl hC (fun K hK => ?_)
              go_big_quiet_op
              refine hK _ ?_
              clear hK K
              refine wpAnyH_done (by kernel_rfl) ?_ _
              go_wp2
              go_ret
              refine ⟨⟨_, rfl, ?_, Or.inr fun b hb => ?_⟩, bt HB2.out hB⟩
              · rw [HI.out]
                simpa using hr
              · exact Nat.le_trans HB2.out.size (hrf b hb)
          · rw [if_pos (by rfl)]
            go_simp
            have hal := below_new W0 (.cells #[.int .i64 d1, .int .i64 d2] 29)
            obtain ⟨vd, hvd⟩ : ∃ vd, W0.heap.size = vd := ⟨_, rfl⟩
            have hd := heap_alloc_new W0 (.cells #[.int .i64 d1, .int .i64 d2] 29)
            rw [hvd] at hd ⊢
            replace hB := bt hB hal
            refine hK.out _ _ ⟨⟨_, hB⟩, rfl⟩ (fun hC => ?_)
            generalize World.alloc W0 (.cells #[.int .i64 d1, .int .i64 d2] 29) = W1 at *
            clear hK K hal hvd
            refine wpAnyH_ready (rs := [0]) (by kernel_rfl) (by simp) (AllReadyH.cons (at_of_drop (i := 0) rfl) (fun K hK => ?_) AllReadyH.nil)
            rw [if_pos (by rfl)]
            go_simp
            have hal := below_new W1 (.cells #[] 29)
            have hr := OwnD.empty W1
            obtain ⟨vr, hvr⟩ : ∃ vr, Value.slice (some ⟨W1.heap.size, 0, none⟩) 0 0 = vr := ⟨_, rfl⟩
            have hrf : ∀ b, vr.ownBlock = some b → wc.heap.size ≤ b := fun b hb => by rw [← hvr] at hb; cases hb; exact hB.size
            have hdn : vr.ownBlock ≠ some vd := fun e => by rw [← hvr] at e; cases e; exact absurd (Array.getElem?_eq_some_iff.1 hd).1 (Nat.lt_irrefl _)
            replace hd := keep_on hal hd
            rw [hvr] at hr ⊢
            replace hB := bt hB hal
            refine hK.out _ _ ⟨⟨_, hB⟩, rfl⟩ (fun hC => ?_)
            generalize World.alloc W1 (.cells #[] 29) = W2 at *
            clear hK K hal hvr
            refine wpAnyH_ready (rs := [4]) (by kernel_rfl) (by simp) (AllReadyH.cons (at_of_drop (i := 4) rfl) (fun K hK => ?_) AllReadyH.nil)
            refine stepD (ns := l) rfl _ _ rfl rfl hr hrf hB rfl (HS3.out _ hB) (by have := HN.out; simp <;> omega) ?_
            intro vr W3 hr hrf hB hk
            replace hd := hk _ _ hd hdn
            clear hk
            refine hK.out _ _ ⟨⟨_, hB⟩, rfl⟩ (fun hC => ?_)
            go_simp
            clear hK K
            refine wpAnyH_ready (rs := [7]) (by kernel_rfl) (by simp) (AllReadyH.cons (at_of_drop (i := 7) rfl) (fun K hK => ?_) AllReadyH.nil)
            refine stepD (ns := [(d1, d2)]) rfl _ _ rfl rfl hr hrf hB rfl (two_src (c := 1) hd) (by have := HN.out; simp <;> omega) ?_
            intro vr W4 hr hrf hB hk
            clear hk
            refine hK.out _ _ ⟨⟨_, hB⟩, rfl⟩ (fun hC => ?_)
            go_simp
            clear hK K
            refine wpAnyH_ready (rs := [11]) (by kernel_rfl) (by simp) (AllReadyH.cons (at_of_drop (i := 11) rfl) (fun K hK => ?_) AllReadyH.nil)
            refine stepD (ns := []) rfl _ _ rfl rfl hr hrf hB rfl (HS10.out _ hB) (by have := HN.out; simp <;> omega) ?_
            intro vr W5 hr hrf hB hk
            clear hk
            refine hK.out _ _ ⟨⟨_, hB⟩, rfl⟩ (fun hC => ?_)
            go_simp
            clear hK K
            refine takeList (i := 12) rfl (by kernel_rfl) (by kernel_rfl) (by kernel_rfl) (fun _ _ _ _ h => h) rfl rfl hC (fun K hK => ?_)
            go_big_quiet_op
            refine hK _ ?_
            clear hK K
            refine wpAnyH_done (by kernel_rfl) ?_ _
            go_wp2
            go_ret
            refine ⟨⟨_, rfl, ?_, Or.inr fun b hb => ?_⟩, bt HB2.out hB⟩
            · rw [HI.out]
              simpa using hr
            · exact Nat.le_trans HB2.out.size (hrf b hb)
end Go.Proofs.Ytglmmhgmdhdleaa

namespace Go.Proofs.Ytglmmhgmdhdleaa
open Go.RowKit Go.Lib
set_option linter.unusedVariables false

set_option maxRecDepth 100000 in
set_option maxHeartbeats 4000000 in
theorem rhas_any (a : V7) (r n : Int) (w : World) :
    Calls Try.prog 46 #[a.v, .agg #[.int .i64 r, .int .i64 n]] w fun e w' => e = .returned (.bool (C.has a r n)) ∧ Below w.heap.size w w' := by
  obtain ⟨a0, a1, a2, a3, a4, a5, a6⟩ := a
  simp only [V7.v]
  by_cases h0 : 0 ≤ r
  · by_cases h7 : r < 7
    · by_cases hn : 1 ≤ n
      · obtain ⟨k, rfl⟩ := Int.eq_ofNat_of_zero_le h0
        have hc : k = 0 ∨ k = 1 ∨ k = 2 ∨ k = 3 ∨ k = 4 ∨ k = 5 ∨ k = 6 := by omega
        clear h0 h7
        rcases hc with rfl | rfl | rfl | rfl | rfl | rfl | rfl
        all_goals
          go_enter Try.func46, Try.ntmps46
          go_wp2
          go_quiet (fail)
          go_wp2
          go_ret
          exact ⟨ret_bool (by simp [C.has, C.at7, hn]), bel_alike (bt (below_new _ _) (below_new _ _)) rfl rfl rfl rfl⟩
      · have e : C.has ⟨a0, a1, a2, a3, a4, a5, a6⟩ r n = false := by simp [C.has, hn]
        have hn' : decide (1 ≤ n) = false := by simpa using hn
        rw [e]
        clear e
        go_enter Try.func46, Try.ntmps46
        go_wp2
        go_quiet (fail)
        go_wp2
        go_ret
        exact ⟨rfl, bel_alike (bt (below_new _ _) (below_new _ _)) rfl rfl rfl rfl⟩
    · have e : C.has ⟨a0, a1, a2, a3, a4, a5, a6⟩ r n = false := by simp [C.has, h7]
      have h7' : decide (r < 7) = false := by simpa using h7
      rw [e]
      clear e
      go_enter Try.func46, Try.ntmps46
      go_wp2
      go_quiet (fail)
      go_wp2
      go_ret
      exact ⟨rfl, bel_alike (bt (below_new _ _) (below_new _ _)) rfl rfl rfl rfl⟩
  · have e : C.has ⟨a0, a1, a2, a3, a4, a5, a6⟩ r n = false := by simp [C.has, h0]
    have h0' : decide (0 ≤ r) = false := by simpa using h0
    rw [e]
    clear e
    go_enter Try.func46, Try.ntmps46
    go_wp2
    go_quiet (fail)
    go_wp2
    go_ret
    exact ⟨rfl, bel_alike (bt (below_new _ _) (below_new _ _)) rfl rfl rfl rfl⟩
end Go.Proofs.Ytglmmhgmdhdleaa

namespace Go.Proofs.Ytglmmhgmdhdleaa
open Go.RowKit Go.Lib
set_option linter.unusedVariables false

/-- The document's own dots at block g. -/
structure RDAt (w : World) (g : Nat) (c : V7) (v : Value) (l : List C.Dt) : Prop where
  blk : w.heap[g]? = some (.cells (cells8 c v) 42)
  row : OwnD w v l
theorem RDAt.lt {w : World} {g : Nat} {c : V7} {v : Value} {l : List C.Dt} (h : RDAt w g c v l) {b : Nat} (hb : foot g v b) : b < w.heap.size := by
  rcases hb with rfl | hb
  · exact (Array.getElem?_eq_some_iff.1 h.blk).1
  · exact row_lt h.row hb
theorem RDAt.same {w w' : World} {g : Nat} {c : V7} {v : Value} {l : List C.Dt} (h : RDAt w g c v l) (hs : ∀ b, foot g v b → w'.heap[b]? = w.heap[b]?) : RDAt w' g c v l :=
  ⟨(hs g (Or.inl rfl)).trans h.blk, h.row.same fun b hb => hs b (Or.inr hb)⟩
theorem RDAt.below {w w' : World} {g : Nat} {c : V7} {v : Value} {l : List C.Dt} (h : RDAt w g c v l) (hb : Below w.heap.size w w') : RDAt w' g c v l := h.same fun b hf => hb.block b (h.lt hf)
set_option maxRecDepth 100000 in
set_option maxHeartbeats 2000000 in
theorem rlen_any (w : World) (g : Nat) (c : V7) (v : Value) (l : List C.Dt) (z : Int) (h : RDAt w g c v l) (hl : l.length ≤ 1000000) (hc : C.good c = true) (hz : C.lenS ⟨c, l⟩ = z) :
    Calls Try.prog 22 #[.pointer (some ⟨g, 0, none⟩)] w fun e w' => e = .returned (.int .i64 z) ∧ w' = w := by
  obtain ⟨y0, y1, y2, y3, y4, y5, y6, y7⟩ := cells8_at h.blk
  obtain ⟨h0, h1, h2, h3, h4, h5, h6⟩ := (C.good_iff c).1 hc
  have hv : ∃ p cap, v = .slice p l.length cap := by
    rcases h.row.shape with ⟨rfl, rfl⟩ | ⟨b, cap, cur, rfl, _⟩
    · exact ⟨none, 0, rfl⟩
    · exact ⟨_, cap, rfl⟩
  obtain ⟨p, cap, rfl⟩ := hv
  have HZ : Hid (z = (l.length : Int) + c.x0 + c.x1 + c.x2 + c.x3 + c.x4 + c.x5 + c.x6) := by show z = _; rw [← hz]; unfold C.lenS C.sum7; simp only; omega
  clear h hc hz
  generalize l.length = n at *
  obtain ⟨x0, x1, x2, x3, x4, x5, x6⟩ := c
  simp only at *
  go_enter Try.func22, Try.ntmps22
  go_wp2
  refine wp_loop_rounds 8 ?_
  repeat (rw [rounds_succ]; go_wp2)
  go_ret
  exact ⟨by rw [HZ.out]; rfl, rfl⟩
set_option maxRecDepth 100000 in
set_option maxHeartbeats 4000000 in
theorem rhas_obj (w : World) (g : Nat) (c : V7) (v : Value) (l : List C.Dt) (d1 d2 : Int) (x : Bool) (h : RDAt w g c v l) (hl : l.length ≤ 1000000) (hx : C.mem ⟨c, l⟩ (d1, d2) = x) :
    Calls Try.prog 23 #[.pointer (some ⟨g, 0, none⟩), .agg #[.int .i64 d1, .int .i64 d2]] w fun e w' => e = .returned (.bool x) ∧ Below w.heap.size w w' := by
  obtain ⟨isIn, hi⟩ : ∃ isIn, l.contains (d1, d2) = isIn := ⟨_, rfl⟩
  obtain ⟨hs, hh⟩ : ∃ hs, C.has c d1 d2 = hs := ⟨_, rfl⟩
  have HX : Hid (x = (hs || isIn)) := by show x = _; rw [← hx, ← hi, ← hh]; rfl
  obtain ⟨q1, n1, c1, hv⟩ := h.row.slice
  subst hv
  have HD : Hid (RDAt w g c (.slice q1 n1 c1) l) := h
  have HH : Hid (∀ W, Calls Try.prog 46 #[c.v, .agg #[.int .i64 d1, .int .i64 d2]] W fun e w' => e = .returned (.bool hs) ∧ Below W.heap.size W w') := fun W => by rw [← hh]; exact rhas_any c d1 d2 W
  have HI : Hid (∀ W, Below w.heap.size w W → Calls Try.prog 47 #[.slice q1 n1 c1, .agg #[.int .i64 d1, .int .i64 d2]] W fun e w' => e = .returned (.bool isIn) ∧ Below W.heap.size W w') := fun W hW => by rw [← hi]; exact rin_any _ l d1 d2 W (HD.out.row.below hW) hl
  clear h hl hx hi hh
  obtain ⟨x0, x1, x2, x3, x4, x5, x6⟩ := c
  simp only [V7.v] at *
  go_enter Try.func23, Try.ntmps23
  have hB : Below w.heap.size w (w.alloc (.cells #[.int .i64 d1, .int .i64 d2] 29)) := below_new _ _
  have hq := heap_alloc_new w (.cells #[.int .i64 d1, .int .i64 d2] 29)
  obtain ⟨w1, hw1⟩ : ∃ w1, w1 = w.alloc (.cells #[.int .i64 d1, .int .i64 d2] 29) := ⟨_, rfl⟩
  rw [← hw1] at hB hq
  have HB : Hid (Below w.heap.size w w1) := hB
  obtain ⟨z0, z1⟩ := box2_all hq
  obtain ⟨y0, y1, y2, y3, y4, y5, y6, y7⟩ := cells8_all (HD.out.below HB.out).blk
  have hne : Nonempty (NewW w1) := ⟨NewW.start w1⟩
  clear hB hq
  cases hs with
  | true =>
    go_wp2_with fail
    rw [← hw1]
    refine wp_region_new (by kernel_rfl) (by kernel_rfl) ?_
    repeat (go_big_quiet_step ((first | (with_reducible rfl) | (with_reducible exact new_of (HH.out _)) | (with_reducible exact new_of (HI.out _ (bt HB.out (NewW.h _)))))))
    refine wpQuiet_nil ?_
    rintro _ ⟨w2, rfl⟩
    clear hw1
    go_wp2
    go_ret
    exact ⟨by rw [HX.out, Bool.true_or]; rfl, bt HB.out w2.h⟩
  | false =>
    go_wp2_with fail
    rw [← hw1]
    refine wp_region_new (by kernel_rfl) (by kernel_rfl) ?_
    repeat (go_big_quiet_step ((first | (with_reducible rfl) | (with_reducible exact new_of (HH.out _)) | (with_reducible exact new_of (HI.out _ (bt HB.out (NewW.h _)))))))
    refine wpQuiet_nil ?_
    rintro _ ⟨w2, rfl⟩
    clear hw1
    go_wp2
    go_ret
    exact ⟨by rw [HX.out, Bool.false_or]; rfl, bt HB.out w2.h⟩
end Go.Proofs.Ytglmmhgmdhdleaa

namespace Go.Proofs.Ytglmmhgmdhdleaa
open Go.RowKit Go.Lib
set_option linter.unusedVariables false

theorem RDAt.apart {w : World} {g : Nat} {c : V7} {v : Value} {l : List C.Dt} (h : RDAt w g c v l) : v.ownBlock ≠ some g := fun e => by
  obtain ⟨cur, hc⟩ := row_type h.row e
  have := h.blk
  rw [hc] at this
  simp at this
set_option maxRecDepth 100000 in
set_option maxHeartbeats 8000000 in
theorem rclose_any (w : World) (g : Nat) (c : V7) (v : Value) (l : List C.Dt) (h : RDAt w g c v l) (hl : l.length ≤ 100000) (hg : C.good c = true) (hm : ∀ d ∈ l, C.may d = true) :
    Calls Try.prog 44 #[.pointer (some ⟨g, 0, none⟩)] w fun e w' => e = .returned (.tuple #[]) ∧ (∃ v', RDAt w' g (C.settleL c l).1 v' (C.settleL c l).2 ∧ Fresh w v') ∧ Turn w w' (fun b => b = g) := by
  obtain ⟨q, cp, hv⟩ := h.row.len
  subst hv
  obtain ⟨n, hn⟩ : ∃ n, n = l.length := ⟨_, rfl⟩
  have HN : Hid (n = l.length) := hn
  have HO : Hid (RDAt w g c (.slice q n cp) l) := by show RDAt _ _ _ _ _; rw [hn]; exact h
  have HM : Hid (∀ d ∈ l, C.may d = true) := hm
  have HG : Hid (C.good c = true) := hg
  rw [← hn] at hl
  obtain ⟨R, hR⟩ : ∃ R, R = C.settleL c l := ⟨_, rfl⟩
  have HR : Hid (R = C.settleL c (l.drop 0)) := hR
  rw [← hR]
  clear h hm hg hn hR
  go_enter Try.func44, Try.ntmps44
  go_wp2_with fail
  go_loopw [2, 3] (fun s2 s3 wr => ∃ (k : Nat) (ck : V7) (lk : List C.Dt), s3 = .int .i64 k ∧ k ≤ n ∧ Hid (R = ((C.settleL ck (l.drop k)).1, lk ++ (C.settleL ck (l.drop k)).2)) ∧ Hid (C.good ck = true) ∧ Hid (lk.length ≤ k) ∧ Hid (OwnD wr s2 lk) ∧ Hid (Fresh w s2) ∧ Hid (RDAt wr g ck (.slice q n cp) l) ∧ Hid (Turn w wr (fun b => b = g))) (fun _ s3 _ => n - (intOf s3).toNat)
  case atStart => exact ⟨0, _, [], rfl, Nat.zero_le _, by show R = _; rw [HR.out]; rfl, HG.out, Nat.le_refl _, OwnD.nil _, fun b hb => (by cases hb), HO.out, Turn.refl _ _⟩
  case round =>
    clear HR HG
    obtain ⟨k, ck, lk, rfl, hkn, HK, HC, HLK, HOK, HFK, HOW, HT⟩ := hrel
    have hng : g < w.heap.size := (Array.getElem?_eq_some_iff.1 HO.out.blk).1
    have HNG : Hid (g < w.heap.size) := hng
    have y7 : wr.cell? ⟨g, 7, none⟩ = some (.slice q n cp) := (held8 HOW.out.blk (Below.refl _ _) 7).1
    by_cases hlt : k < n
    · obtain ⟨x, hx⟩ : ∃ x, l[k]? = some x := ⟨_, List.getElem?_eq_getElem (by have := HN.out; omega)⟩
      have hmx := (C.may_iff x).1 (HM.out x (List.mem_of_getElem? hx))
      obtain ⟨gb, cap, hvs⟩ := HOW.out.row.at (by have := HN.out; omega)
      rw [← HN.out] at hvs
      cases hvs
      obtain ⟨a0, a1⟩ := OwnD.cell HOW.out.row k x hx
      have HX : Hid (l[k]? = some x) := hx
      clear hx
      have hga := C.good_at7 HC.out x.1.toNat
      obtain ⟨hs, hhs⟩ : ∃ hs, C.hasd ck x = hs := ⟨_, rfl⟩
      obtain ⟨nx, hnx⟩ : ∃ nx, C.nextd ck x = nx := ⟨_, rfl⟩
      have HHS : Hid (C.hasd ck x = hs) := hhs
      have HNX : Hid (C.nextd ck x = nx) := hnx
      clear hhs hnx
      obtain ⟨d1, d2⟩ := x
      simp only at a0 a1 hmx hga
      have hr7 : d1.toNat < 7 := by omega
      have hrx : d1 = (d1.toNat : Nat) := by omega
      have HXN : Hid (C.hasd ck (d1, d2) = false → C.nextd ck (d1, d2) = true → C.settleL ck (l.drop k) = C.settleL (C.inc ck d1.toNat) (l.drop (k + 1))) := fun h1 h2 => C.settle_next HX.out h1 h2
      have HXH : Hid (C.hasd ck (d1, d2) = true → C.settleL ck (l.drop k) = C.settleL ck (l.drop (k + 1))) := fun h1 => C.settle_has HX.out h1
      have HXL : Hid (C.hasd ck (d1, d2) = false → C.nextd ck (d1, d2) = false → C.settleL ck (l.drop k) = ((C.settleL ck (l.drop (k + 1))).1, (d1, d2) :: (C.settleL ck (l.drop (k + 1))).2)) := fun h1 h2 => C.settle_loose HX.out h1 h2
      have HC2 : Hid (C.nextd ck (d1, d2) = true → C.good (C.inc ck d1.toNat) = true) := fun h1 => C.good_inc HC.out hr7 (by have h1 := (C.nextd_iff _ _).1 h1; have h2 := hmx.2.2.2; simp only at h1; omega)
      have hhas : hs = true ↔ d2 ≤ C.at7 ck d1.toNat := by
        rw [← HHS.out, C.hasd_iff]; simp only; omega
      have hnxt : nx = true ↔ d2 = C.at7 ck d1.toNat + 1 := by
        rw [← HNX.out, C.nextd_iff]
      clear HX
      generalize d1.toNat = r at *
      subst hrx
      obtain ⟨y, hy⟩ : ∃ y, C.at7 ck r = y := ⟨_, rfl⟩
      rw [hy] at hga hhas hnxt
      have HY : Hid (C.at7 ck r = y) := hy
      have hr7' : (r : Int) < 7 := by omega
      obtain ⟨W1, hW1⟩ : ∃ W1, W1 = wr.alloc (.cells #[.int .i64 r, .int .i64 d2] 29) := ⟨_, rfl⟩
      have HB1 : Hid (Below wr.heap.size wr W1) := by show Below _ _ _; rw [hW1]; exact below_new _ _
      have HQ1 : Hid (W1.heap[wr.heap.size]? = some (.cells #[.int .i64 r, .int .i64 d2] 29)) := by show _ = _; rw [hW1]; exact heap_alloc_new _ _
      have hne : Nonempty (NewW W1) := ⟨NewW.start W1⟩
      go_wp2_with fail
      rw [← hW1]
      clear hW1 a0 a1
      have cr : ∀ m : NewW W1, m.v.cell? ⟨g, r, none⟩ = some (.int .i64 y) := fun m => by rw [(held8 ((HOW.out.below HB1.out).below m.h).blk (Below.refl _ _) r).1, get_cells8 _ _ hr7, hy]
      have z0 : ∀ m : NewW W1, m.v.cell? ⟨wr.heap.size, 0, none⟩ = some (.int .i64 r) := fun m => (box2 (keep_on m.h HQ1.out)).1
      have z1 : ∀ m : NewW W1, m.v.cell? ⟨wr.heap.size, 1, none⟩ = some (.int .i64 d2) := fun m => (box2 (keep_on m.h HQ1.out)).2
      clear hy
      cases nx with
      | true =>
        obtain rfl : d2 = y + 1 := hnxt.1 rfl
        have hsf : hs = false := by
          cases hs with
          | true => have := hhas.1 rfl; omega
          | false => rfl
        subst hsf
        clear hhas hnxt
        refine wp_region_new (by kernel_rfl) (by kernel_rfl) ?_
        repeat (go_big_quiet_step ((with_reducible rfl)))
        refine wpQuiet_nil ?_
        rintro _ ⟨w2, rfl⟩
        have HB2 : Hid (Below wr.heap.size wr w2.v) := bt HB1.out w2.h
        have HD2 : Hid (RDAt w2.v g ck (.slice (some ⟨gb, 0, none⟩) n cp) l) := HOW.out.below HB2.out
        have cr2 := cr w2
        have fr2 : w2.v.frozen? ⟨g, r, none⟩ = false := (held8 HD2.out.blk (Below.refl _ _) r).2
        have z02 := z0 w2
        have z12 := z1 w2
        clear cr z0 z1 hne y7
        go_wp2_with fail
        go_region
        all_goals
          go_wp2
          go_roundw
          case rel =>
            refine ⟨k + 1, C.inc ck r, lk, by go_num, by omega, by show R = _; rw [HK.out, HXN.out HHS.out HNX.out], HC2.out HNX.out, Nat.le_succ_of_le HLK.out, ?_, HFK.out, ⟨?_, ?_⟩, ?_⟩
            · exact (HOK.out.below HB2.out).same fun b hb => set_other fun e => by have h1 := HFK.out b hb; have h2 := HNG.out; omega
            · rw [← HY.out, ← set_cells8 _ _ hr7]; exact set_block HD2.out.blk
            · exact HD2.out.row.same fun b hv => set_other fun e => by subst e; exact HD2.out.apart hv
            · exact ((HT.out.trans (Turn.of_below HB2.out) fun x hx => Or.inl hx).drew).setCell rfl _
          case measure => simp [intOf]; omega
      | false =>
        have hb : (d2 == y + 1) = false := by
          rw [beq_eq_false_iff_ne]
          intro e
          have := hnxt.2 e
          cases this
        cases hs with
        | true =>
          have hle : d2 ≤ y := hhas.1 rfl
          have hgt : decide (y < d2) = false := by simp; omega
          clear hhas hnxt
          refine wp_region_new (by kernel_rfl) (by kernel_rfl) ?_
          repeat (go_big_quiet_step ((with_reducible rfl)))
          refine wpQuiet_nil ?_
          rintro _ ⟨w2, rfl⟩
          go_wp2_with fail
          refine wp_region_more (n := w2) (by kernel_rfl) (by kernel_rfl) ?_
          repeat (go_big_quiet_step ((with_reducible rfl)))
          refine wpQuiet_nil ?_
          rintro _ ⟨w3, rfl⟩
          have HB3 : Hid (Below wr.heap.size wr w3.v) := bt HB1.out w3.h
          clear cr z0 z1 hne y7
          go_wp2
          go_roundw
          case rel =>
            exact ⟨k + 1, ck, lk, by go_num, by omega, by show R = _; rw [HK.out, HXH.out HHS.out], HC.out, Nat.le_succ_of_le HLK.out, HOK.out.below HB3.out, HFK.out, HOW.out.below HB3.out, HT.out.trans (Turn.of_below HB3.out) fun x hx => Or.inl hx⟩
          case measure => simp [intOf]; omega
        | false =>
          have hgt : decide (y < d2) = true := by
            have : ¬ d2 ≤ y := fun e => by have := hhas.2 e; cases this
            simp; omega
          clear hhas hnxt
          refine wp_region_new (by kernel_rfl) (by kernel_rfl) ?_
          repeat (go_big_quiet_step ((with_reducible rfl)))
          refine wpQuiet_nil ?_
          rintro _ ⟨w2, rfl⟩
          go_wp2_with fail
          refine wp_region_more (n := w2) (by kernel_rfl) (by kernel_rfl) ?_
          repeat (go_big_quiet_step ((with_reducible rfl)))
          refine wpQuiet_nil ?_
          rintro _ ⟨wq, rfl⟩
          have HB3 : Hid (Below wr.heap.size wr wq.v) := bt HB1.out wq.h
          have z02 := z0 wq
          have z12 := z1 wq
          obtain ⟨w3, hw3⟩ : ∃ w3, wq.v = w3 := ⟨_, rfl⟩
          rw [hw3] at HB3 z02 z12 ⊢
          clear hw3 cr z0 z1 hne y7
          go_wp2_with (at_builtin; go_must (refine wpList_append_src u_dots info_dot rfl (by decide) rfl _ _ rfl rfl ((HOK.out.below HB3.out).below (below_new w3 _)) rfl (two_src (heap_alloc_new w3 (.cells #[.int .i64 r, .int .i64 d2] 29))) two_mem (by have := HLK.out; unfold maxLen; omega) (by have := HLK.out; omega) ?_); intro v4 w4 ho4 hg4 hb4)
          have HO4 : Hid (OwnD w4 v4 (lk ++ [((r : Int), d2)])) := by show OwnD _ _ _; unfold OwnD; rw [← rowD_append]; simpa using ho4
          have hB3 := HB3.out.size
          have hTS := HT.out.size
          have HF4 : Hid (Fresh w v4) := fun b hb => by
            rcases hb4 with h | h
            · exact HFK.out b (h.symm.trans hb)
            · rw [h] at hb; cases hb; simp only [World.size_alloc]; omega
          have HT4 : Hid (Turn w w4 (fun b => b = g)) := by
            have t1 := HT.out.trans (Turn.of_below (S := fun b => b = g) HB3.out) fun x hx => Or.inl hx
            have t2 := t1.alloc (.cells #[.int .i64 r, .int .i64 d2] 29)
            exact t2.trans (Turn.of_grown (S := fun b => u2.ownBlock = some b) hg4 fun b hb => hb) fun x hx => Or.inr (HFK.out x hx)
          have HD4 : Hid (RDAt w4 g ck (.slice (some ⟨gb, 0, none⟩) n cp) l) := by
            have h1 := (HOW.out.below HB3.out).below (below_new w3 (.cells #[.int .i64 r, .int .i64 d2] 29))
            refine h1.same fun b hf => hg4.block b (h1.lt hf) fun e => ?_
            have h2 := HFK.out b e.symm
            have h3 := HO.out.lt hf
            omega
          clear ho4 hg4 hb4 hB3 hTS
          go_wp2
          go_roundw
          case rel =>
            refine ⟨k + 1, ck, lk ++ [((r : Int), d2)], by go_num, by omega, ?_, HC.out, by have := HLK.out; show _ ≤ _; simp; omega, HO4.out, HF4.out, HD4.out, HT4.out⟩
            show R = _
            rw [HK.out, HXL.out HHS.out HNX.out]; simp
          case measure => simp [intOf]; omega
    · obtain rfl : k = n := by omega
      have HE : Hid (R = (ck, lk)) := by
        show R = _
        rw [HK.out, List.drop_eq_nil_of_le (by rw [← HN.out]; exact Nat.le_refl _)]
        simp [C.settleL]
      obtain ⟨q2, n2, c2, e2⟩ := HOK.out.slice
      subst e2
      have f7 : wr.frozen? ⟨g, 7, none⟩ = false := (held8 HOW.out.blk (Below.refl _ _) 7).2
      go_wp2
      go_end0
      refine ⟨rfl, ⟨.slice q2 n2 c2, ?_, HFK.out⟩, HT.out.setCell rfl _⟩
      rw [HE.out]
      refine ⟨?_, HOK.out.same fun b hb => set_other fun e => by have h1 := HFK.out b hb; have h2 := HNG.out; omega⟩
      exact set_block HOW.out.blk
end Go.Proofs.Ytglmmhgmdhdleaa

namespace Go.Proofs.Ytglmmhgmdhdleaa
open Go.RowKit Go.Lib
set_option linter.unusedVariables false

/-- What an Add of the document's own leaves. -/
def RAddRet (w : World) (g : Nat) (v : Value) (s' : C.Ds) (w' : World) : Prop := (∃ v', RDAt w' g s'.c v' s'.l ∧ (v' = v ∨ Fresh w v')) ∧ Turn w w' (fun b => b = g)
set_option maxRecDepth 100000 in
set_option maxHeartbeats 4000000 in
theorem radd_no (w : World) (g : Nat) (d1 d2 : Int) (hm : C.may (d1, d2) = false) :
    Calls Try.prog 17 #[.pointer (some ⟨g, 0, none⟩), .agg #[.int .i64 d1, .int .i64 d2]] w fun e w' => e = .returned (.tuple #[.bool false, .int .i64 1]) ∧ Below w.heap.size w w' := by
  have HM : Hid (∀ W, Calls Try.prog 42 #[.agg #[.int .i64 d1, .int .i64 d2]] W fun e w' => e = .returned (.bool false) ∧ Below W.heap.size W w') := fun W => by rw [← hm]; exact rmay_any d1 d2 W
  clear hm
  go_enter Try.func17, Try.ntmps17
  go_wp2_with fail
  refine (HM.out _).mono ?_
  rintro e w1 ⟨rfl, hb⟩
  have HB : Hid (Below w.heap.size w w1) := bt (below_new w _) hb
  clear hb
  go_wp2
  go_ret2
  exact ⟨rfl, HB.out⟩
set_option maxRecDepth 100000 in
set_option maxHeartbeats 4000000 in
theorem radd_there (w : World) (g : Nat) (s : C.Ds) (v : Value) (d1 d2 : Int) (h : RDAt w g s.c v s.l) (hl : s.l.length ≤ 1000000) (hm : C.may (d1, d2) = true) (hn : C.mem s (d1, d2) = true) :
    Calls Try.prog 17 #[.pointer (some ⟨g, 0, none⟩), .agg #[.int .i64 d1, .int .i64 d2]] w fun e w' => e = .returned (.tuple #[.bool false, .int .i64 0]) ∧ Below w.heap.size w w' := by
  have HM : Hid (∀ W, Calls Try.prog 42 #[.agg #[.int .i64 d1, .int .i64 d2]] W fun e w' => e = .returned (.bool true) ∧ Below W.heap.size W w') := fun W => by rw [← hm]; exact rmay_any d1 d2 W
  have HH : Hid (∀ W, Below w.heap.size w W → Calls Try.prog 23 #[.pointer (some ⟨g, 0, none⟩), .agg #[.int .i64 d1, .int .i64 d2]] W fun e w' => e = .returned (.bool true) ∧ Below W.heap.size W w') := fun W hW => rhas_obj W g s.c v s.l d1 d2 true (h.below hW) hl hn
  clear h hm hn
  go_enter Try.func17, Try.ntmps17
  go_wp2_with fail
  refine (HM.out _).mono ?_
  rintro e w1 ⟨rfl, hb⟩
  have q1 := keep_on hb (heap_alloc_new w (.cells #[.int .i64 d1, .int .i64 d2] 29))
  have HB : Hid (Below w.heap.size w w1) := bt (below_new w _) hb
  obtain ⟨z0, z1⟩ := box2 q1
  clear hb q1
  go_wp2_with fail
  refine (HH.out _ HB.out).mono ?_
  rintro e w2 ⟨rfl, hb⟩
  have HB2 : Hid (Below w.heap.size w w2) := bt HB.out hb
  clear hb z0 z1
  go_wp2
  go_ret2
  exact ⟨rfl, HB2.out⟩
theorem cells8_seven (c : V7) (v : Value) : (cells8 c v)[7]? = some v := rfl
/-- Behind insert: the object as it was, the new row beside it. -/
def RIn (w : World) (g : Nat) (c : V7) (v : Value) (l l' : List C.Dt) (v' : Value) (w5 : World) : Prop := Below w.heap.size w w5 ∧ RDAt w5 g c v l ∧ OwnD w5 v' l' ∧ v'.ownBlock ≠ some g ∧ (v' = v ∨ Fresh w v')
theorem rin_of {w w5 : World} {g : Nat} {c : V7} {v v' : Value} {l l' : List C.Dt} (h : RDAt w g c v l) (hb : Below w.heap.size w w5) (h1 : OwnD w5 v' l') (h2 : v' = v ∨ ∀ b, v'.ownBlock = some b → w.heap.size ≤ b) : RIn w g c v l l' v' w5 := by
  refine ⟨hb, h.below hb, h1, fun e => ?_, h2⟩
  rcases h2 with rfl | h2
  · exact h.apart e
  · have h3 := h2 g e
    have h4 := (Array.getElem?_eq_some_iff.1 h.blk).1
    omega
theorem rin_set {w w5 : World} {g : Nat} {c : V7} {v v' : Value} {l l' : List C.Dt} (h : RIn w g c v l l' v' w5) : RDAt (w5.setCell ⟨g, 7, none⟩ v') g c v' l' := by
  obtain ⟨_, h2, h3, h4, _⟩ := h
  exact ⟨set_block h2.blk, h3.same fun b hb => set_other fun e => h4 (by rw [← e]; exact hb)⟩
theorem radd_fin {w w5 w6 : World} {g : Nat} {c c' : V7} {v v' : Value} {l l' r : List C.Dt} (h : RIn w g c v l l' v' w5) (h6 : ∃ u, RDAt w6 g c' u r ∧ Fresh (w5.setCell ⟨g, 7, none⟩ v') u) (h7 : Turn (w5.setCell ⟨g, 7, none⟩ v') w6 (fun b => b = g)) : RAddRet w g v ⟨c', r⟩ w6 := by
  obtain ⟨u, hu, hf⟩ := h6
  have hs := h.1.size
  have t : Turn w (w5.setCell ⟨g, 7, none⟩ v') (fun b => b = g) := (Turn.of_below (S := fun b => b = g) h.1).setCell (b := g) rfl _
  exact ⟨⟨u, hu, Or.inr fun b hb => Nat.le_trans t.size (hf b hb)⟩, t.trans h7 fun x hx => Or.inl hx⟩
set_option maxRecDepth 100000 in
set_option maxHeartbeats 8000000 in
theorem radd_new (w : World) (g : Nat) (s : C.Ds) (v : Value) (d1 d2 : Int) (h : RDAt w g s.c v s.l) (hs : s.Ok) (hl : s.l.length < 1000) (hm : C.may (d1, d2) = true) (hn : C.mem s (d1, d2) = false) :
    Calls Try.prog 17 #[.pointer (some ⟨g, 0, none⟩), .agg #[.int .i64 d1, .int .i64 d2]] w fun e w' => e = .returned (.tuple #[.bool true, .int .i64 0]) ∧ RAddRet w g v (C.addS s (d1, d2)) w' := by
  have hmx := (C.may_iff (d1, d2)).1 hm
  simp only at hmx
  have HM : Hid (∀ W, Calls Try.prog 42 #[.agg #[.int .i64 d1, .int .i64 d2]] W fun e w' => e = .returned (.bool true) ∧ Below W.heap.size W w') := fun W => by rw [← hm]; exact rmay_any d1 d2 W
  have HH : Hid (∀ W, Below w.heap.size w W → Calls Try.prog 23 #[.pointer (some ⟨g, 0, none⟩), .agg #[.int .i64 d1, .int .i64 d2]] W fun e w' => e = .returned (.bool false) ∧ Below W.heap.size W w') := fun W hW => rhas_obj W g s.c v s.l d1 d2 false (h.below hW) (by omega) hn
  have HMAY : Hid (∀ x ∈ C.insL (d1, d2) s.l, C.may x = true) := C.add_may hs hm
  have HIL : Hid ((C.insL (d1, d2) s.l).length ≤ 100000) := by have := (C.ins_len (d1, d2) s.l).2; show _ ≤ _; omega
  have HG : Hid (C.good s.c = true) := hs.good
  obtain ⟨q, cp, hv⟩ := h.row.len
  subst hv
  obtain ⟨n, hnn⟩ : ∃ n, n = s.l.length := ⟨_, rfl⟩
  have HN : Hid (n = s.l.length) := hnn
  have HD : Hid (RDAt w g s.c (.slice q n cp) s.l) := by show RDAt _ _ _ _ _; rw [hnn]; exact h
  rw [← hnn] at hl ⊢
  have hga := C.good_at7 hs.good d1.toNat
  have hr7 : d1.toNat < 7 := by omega
  have hrx : d1 = (d1.toNat : Nat) := by omega
  obtain ⟨S', hS'⟩ : ∃ S', S' = C.addS s (d1, d2) := ⟨_, rfl⟩
  have HS' : Hid (S' = C.addS s (d1, d2)) := hS'
  rw [← hS']
  clear h hm hn hs hnn hS'
  obtain ⟨l', hl'⟩ : ∃ l', l' = C.insL (d1, d2) s.l := ⟨_, rfl⟩
  have HL' : Hid (l' = C.insL (d1, d2) s.l) := hl'
  have HSS : Hid (S' = ⟨(C.settleL s.c l').1, (C.settleL s.c l').2⟩) := by show S' = _; rw [HS'.out, hl']; rfl
  rw [← hl'] at HMAY HIL
  have HINS : Hid (∀ W, Below w.heap.size w W → Calls Try.prog 43 #[.slice q n cp, .agg #[.int .i64 d1, .int .i64 d2]] W fun e w' => (∃ v', e = .returned v' ∧ OwnD w' v' l' ∧ (v' = .slice q n cp ∨ ∀ b, v'.ownBlock = some b → W.heap.size ≤ b)) ∧ Below W.heap.size W w') := fun W hW => by rw [hl']; exact rinsert_any _ s.l d1 d2 W (HD.out.row.below hW) (by have := HN.out; omega)
  clear hl' HS' HL'
  generalize d1.toNat = r at *
  subst hrx
  obtain ⟨y, hy⟩ : ∃ y, C.at7 s.c r = y := ⟨_, rfl⟩
  rw [hy] at hga
  have hr7' : (r : Int) < 7 := by omega
  go_enter Try.func17, Try.ntmps17
  go_wp2_with fail
  refine (HM.out _).mono ?_
  rintro e w1 ⟨rfl, hb⟩
  have q1 := keep_on hb (heap_alloc_new w (.cells #[.int .i64 r, .int .i64 d2] 29))
  have HB : Hid (Below w.heap.size w w1) := bt (below_new w _) hb
  have HQ1 : Hid _ := q1
  obtain ⟨z0, z1⟩ := box2 q1
  clear hb q1
  go_wp2_with fail
  refine (HH.out _ HB.out).mono ?_
  rintro e w2 ⟨rfl, hb⟩
  have HB2 : Hid (Below w.heap.size w w2) := bt HB.out hb
  have HQ2 : Hid (w2.heap[w.heap.size]? = some (.cells #[.int .i64 r, .int .i64 d2] 29)) := keep_on hb HQ1.out
  clear hb z0 z1
  have hne : Nonempty (NewW w2) := ⟨NewW.start w2⟩
  have cr : ∀ m : NewW w2, m.v.cell? ⟨g, r, none⟩ = some (.int .i64 y) := fun m => by rw [(held8 ((HD.out.below HB2.out).below m.h).blk (Below.refl _ _) r).1, get_cells8 _ _ hr7, hy]
  have y7 : ∀ m : NewW w2, m.v.cell? ⟨g, 7, none⟩ = some (.slice q n cp) := fun m => (held8 ((HD.out.below HB2.out).below m.h).blk (Below.refl _ _) 7).1
  have z0 : ∀ m : NewW w2, m.v.cell? ⟨w.heap.size, 0, none⟩ = some (.int .i64 r) := fun m => (box2 (keep_on m.h HQ2.out)).1
  have z1 : ∀ m : NewW w2, m.v.cell? ⟨w.heap.size, 1, none⟩ = some (.int .i64 d2) := fun m => (box2 (keep_on m.h HQ2.out)).2
  have hge : decide (1000 ≤ (n : Int)) = false := by simp; omega
  obtain ⟨qb, hqb⟩ : ∃ qb, (d2 != y + 1) = qb := ⟨_, rfl⟩
  cases qb with
  | true =>
    go_wp2_with fail
    refine wp_region_new (by kernel_rfl) (by kernel_rfl) ?_
    repeat (go_big_quiet_step ((with_reducible rfl)))
    refine wpQuiet_nil ?_
    rintro _ ⟨w3, rfl⟩
    have HB3 : Hid (Below w.heap.size w w3.v) := bt HB2.out w3.h
    have y73 := y7 w3
    have z03 := z0 w3
    have z13 := z1 w3
    obtain ⟨W3, hW3⟩ : ∃ W3, w3.v = W3 := ⟨_, rfl⟩
    rw [hW3] at HB3 y73 z03 z13 ⊢
    clear hW3 w3 cr y7 z0 z1 hne hge hqb
    go_wp2_with fail
    go_region_with ((go_at_call 43; refine (HINS.out W3.drew HB3.out.drew).mono ?_; rintro e w5 ⟨⟨v', rfl, h1, h2⟩, h3⟩; obtain ⟨qq, nn, cc, rfl⟩ := h1.slice; have HR5 : Hid (RIn w g s.c (.slice q n cp) s.l l' (.slice qq nn cc) w5) := rin_of HD.out (bt HB3.out.drew h3) h1 (h2.imp id fun h b hb => Nat.le_trans HB3.out.size (h b hb)); obtain ⟨q7, f7⟩ := held8 HR5.out.2.1.blk (Below.refl _ _) 7; simp only [cells8_seven] at q7; clear h1 h2 h3))
    all_goals
      go_wp2_with fail
      refine (rclose_any _ g s.c (.slice qq nn cc) l' (rin_set HR5.out) HIL.out HG.out HMAY.out).mono ?_
      rintro e w6 ⟨rfl, h6, h7⟩
      have HF : Hid (RAddRet w g (.slice q n cp) S' w6) := by show RAddRet _ _ _ _ _; rw [HSS.out]; exact radd_fin HR5.out h6 h7
      clear h6 h7
      go_wp2
      go_ret2
      exact ⟨rfl, HF.out⟩
  | false =>
    go_wp2_with fail
    refine wp_region_new (by kernel_rfl) (by kernel_rfl) ?_
    repeat (go_big_quiet_step ((with_reducible rfl)))
    refine wpQuiet_nil ?_
    rintro _ ⟨w3, rfl⟩
    have HB3 : Hid (Below w.heap.size w w3.v) := bt HB2.out w3.h
    have y73 := y7 w3
    have z03 := z0 w3
    have z13 := z1 w3
    obtain ⟨W3, hW3⟩ : ∃ W3, w3.v = W3 := ⟨_, rfl⟩
    rw [hW3] at HB3 y73 z03 z13 ⊢
    clear hW3 w3 cr y7 z0 z1 hne hge hqb
    go_wp2_with fail
    go_region_with ((go_at_call 43; refine (HINS.out W3.drew HB3.out.drew).mono ?_; rintro e w5 ⟨⟨v', rfl, h1, h2⟩, h3⟩; obtain ⟨qq, nn, cc, rfl⟩ := h1.slice; have HR5 : Hid (RIn w g s.c (.slice q n cp) s.l l' (.slice qq nn cc) w5) := rin_of HD.out (bt HB3.out.drew h3) h1 (h2.imp id fun h b hb => Nat.le_trans HB3.out.size (h b hb)); obtain ⟨q7, f7⟩ := held8 HR5.out.2.1.blk (Below.refl _ _) 7; simp only [cells8_seven] at q7; clear h1 h2 h3))
    all_goals
      go_wp2_with fail
      refine (rclose_any _ g s.c (.slice qq nn cc) l' (rin_set HR5.out) HIL.out HG.out HMAY.out).mono ?_
      rintro e w6 ⟨rfl, h6, h7⟩
      have HF : Hid (RAddRet w g (.slice q n cp) S' w6) := by show RAddRet _ _ _ _ _; rw [HSS.out]; exact radd_fin HR5.out h6 h7
      clear h6 h7
      go_wp2
      go_ret2
      exact ⟨rfl, HF.out⟩
theorem RAddRet.same {w w' : World} {g : Nat} {v : Value} {s : C.Ds} (h : RDAt w g s.c v s.l) (hb : Below w.heap.size w w') : RAddRet w g v s w' := ⟨⟨v, h.below hb, Or.inl rfl⟩, Turn.of_below hb⟩
/-- An Add of the document's own: it answers as dots' Add does. -/
theorem radd_any (w : World) (g : Nat) (s : C.Ds) (v : Value) (d1 d2 : Int) (h : RDAt w g s.c v s.l) (hs : s.Ok) (hl : s.l.length < 1000) :
    Calls Try.prog 17 #[.pointer (some ⟨g, 0, none⟩), .agg #[.int .i64 d1, .int .i64 d2]] w fun e w' => e = .returned (.tuple #[.bool (C.may (d1, d2) && !C.mem s (d1, d2)), .int .i64 (errM (d1, d2))]) ∧ RAddRet w g v (C.addM s (d1, d2)) w' := by
  unfold errM C.addM
  cases hm : C.may (d1, d2) with
  | false =>
    refine (radd_no w g d1 d2 hm).mono ?_
    rintro e w' ⟨rfl, hb⟩
    exact ⟨by simp, by simpa using RAddRet.same h hb⟩
  | true =>
    cases hn : C.mem s (d1, d2) with
    | true =>
      refine (radd_there w g s v d1 d2 h (by omega) hm hn).mono ?_
      rintro e w' ⟨rfl, hb⟩
      have e1 : C.addS s (d1, d2) = s := C.add_there hs hm hn
      exact ⟨by simp, by simpa [e1] using RAddRet.same h hb⟩
    | false =>
      refine (radd_new w g s v d1 d2 h hs hl hm hn).mono ?_
      rintro e w' ⟨rfl, hr⟩
      exact ⟨by simp, by simpa using hr⟩
end Go.Proofs.Ytglmmhgmdhdleaa
