/-
  The document's own reader: Bytes.
-/
import Derived.Test.YtebfhomopdnkkaaRRead3
namespace Go.Proofs.Ytebfhomopdnkkaa
open Go.RowKit Go.Lib
set_option linter.unusedVariables false

/-- A part appended, at a step of a region that draws its order. -/
theorem step_append_part {w : World} {ops : Array Oper} {o : Oper} {a : Act} {K : Act → World → Prop} {Q : Exit → Act → World → Prop} {E : Prop} (hgd : o.guard = none) (s x : Operand)
    (ho : o.op = .call { callee := .builtin .append, args := #[s, x], argTypes := #[32, 32] })
    (base : Nat) (v : Value) (l : List UInt8) (hs : a.eval s = v) (hown : Own w base v l) (y : Part) (m : Nat) (hx : a.eval x = .slice y.p m y.cap) (hm : m = y.l.length) (hy : y.ok w) (hn : l.length + y.l.length ≤ 100000) (hB : base ≤ w.heap.size)
    (h : ∀ v' w', Own w' base v' (l ++ y.l) → w.grownBy w' v.ownBlock → K (a.put o.dst v') w') : if Region.wanted o (yielded ops a.tmps) = true then Oper.wp Try.prog o a w K Q else E := by
  have hw : Region.wanted o (yielded ops a.tmps) = true := by simp [Region.wanted, hgd]
  rw [if_pos hw]
  obtain ⟨v', w', hr, h2, h3⟩ := run_append_part hown o.type y hy (Nat.le_trans hn (by decide)) hB
  subst hm
  unfold Oper.wp execOp
  have hr' : (Builtin.append_ #[32, 32] o.type #[v, .slice y.p y.l.length y.cap]).run Try.prog w = .ok v' w' := hr
  simp only [ho, resolve, invoke, builtin, Sem.run_bind, Sem.run_pure, Result.andThen_ok, List.map_toArray, List.map_cons, List.map_nil, hs, hx, hr']
  exact h v' w' h2 h3
set_option maxHeartbeats 4000000 in
theorem refbytes_bad (w : World) (g : Nat) (p : Option Addr) (n c : Nat) (l : List UInt8) (s s1 : Option (List UInt8)) (m : Int) (k : Nat) (h : Rs w g p n c l s) (hl : l.length ≤ 100000) (hr : C.rnum s 0 m = ((k : Int), s1)) (hk : s1 = none ∨ (s1.getD []).length < k) :
    Calls Try.prog 40 #[.pointer (some ⟨g, 0, none⟩), .int .i64 m] w fun e w' => e = .returned (.slice none 0 0) ∧ Rs w' g p n c l none ∧ w.grownBy w' (some g) := by
  have H : Hid _ := h
  have HR : Hid _ := hr
  have HK : Hid _ := hk
  clear h hr hk
  go_enter Try.func40, Try.ntmps40
  go_wp2_with fail
  refine (refrnum_at w g p n c l s s1 0 m k H.out hl HR.out).mono ?_
  rintro e w1 ⟨rfl, ⟨a1, hr1, hs1⟩, hg1⟩
  have h0 := hr1.c0
  have h1 := hr1.c1
  have f2 := hr1.fz 2
  have hal := hr1.al
  have hnl := hr1.is.1
  have hnc : n ≤ 100000 := by omega
  have HR1 : Hid _ := hr1
  cases s1 with
  | none =>
    have h2 : w1.cell? ⟨g, 2, none⟩ = some (.bool true) := hr1.c2
    clear hr1 hs1 hnl
    go_wp2_with fail
    go_quiet (fail)
    go_wp2
    go_ret
    exact ⟨rfl, ⟨a1, (HR1.out.below (drawn_below _ _)).spoilt, fun r hr => by cases hr⟩, gtrans hg1 (gtrans (gbelow (drawn_below _ _)) (set_grown _ _ _ _))⟩
  | some r =>
    have h2 : w1.cell? ⟨g, 2, none⟩ = some (.bool false) := hr1.c2
    have hkk : n - a1 < k := by
      rcases HK.out with h | h
      · cases h
      · rw [hs1 r rfl] at h
        simp only [Option.getD_some, List.length_drop] at h
        omega
    have hd : decide ((n : Int) - (a1 : Int) < (k : Int)) = true := by simp; omega
    clear hr1 hs1 hnl
    go_wp2_with fail
    go_quiet (fail)
    go_wp2
    go_ret
    exact ⟨rfl, ⟨a1, (HR1.out.below (drawn_below _ _)).spoilt, fun r hr => by cases hr⟩, gtrans hg1 (gtrans (gbelow (drawn_below _ _)) (set_grown _ _ _ _))⟩
set_option maxHeartbeats 8000000 in
theorem refbytes_ok (w : World) (g : Nat) (p : Option Addr) (n c : Nat) (l : List UInt8) (s : Option (List UInt8)) (r : List UInt8) (m : Int) (k : Nat) (h : Rs w g p n c l s) (hl : l.length ≤ 100000) (hr : C.rnum s 0 m = ((k : Int), some r)) (hk : ¬ r.length < k) :
    Calls Try.prog 40 #[.pointer (some ⟨g, 0, none⟩), .int .i64 m] w fun e w' => (∃ px nx cx, e = .returned (.slice px nx cx) ∧ Is w' px nx cx (r.take k)) ∧ Rs w' g p n c l (some (r.drop k)) ∧ w.grownBy w' (some g) := by
  have H : Hid _ := h
  have HR : Hid _ := hr
  clear h hr
  go_enter Try.func40, Try.ntmps40
  go_wp2_with fail
  refine (refrnum_at w g p n c l s (some r) 0 m k H.out hl HR.out).mono ?_
  rintro e w1 ⟨rfl, ⟨a1, hr1, hs1⟩, hg1⟩
  have h0 := hr1.c0
  have h1 := hr1.c1
  have h2 : w1.cell? ⟨g, 2, none⟩ = some (.bool false) := hr1.c2
  have f1 := hr1.fz 1
  have hal := hr1.al
  have hnl := hr1.is.1
  have hcc := hr1.nc
  have hnc : n ≤ 100000 := by omega
  have hcm : c ≤ 9223372036854775807 := Nat.le_trans hr1.cm (by decide)
  have HR1 : Hid _ := hr1
  have HS1 : Hid (r = l.drop a1) := hs1 r rfl
  have hkk : a1 + k ≤ n := by
    have := congrArg List.length HS1.out
    rw [List.length_drop] at this
    omega
  have hd : decide ((n : Int) - (a1 : Int) < (k : Int)) = false := by simp; omega
  have HPA : Hid _ := hr1.pa
  have HLL : Hid (n = l.length) := hnl
  clear hr1 hs1 hnl hk
  by_cases hca : c = a1
  · obtain rfl : k = 0 := by omega
    subst hca
    obtain rfl : n = c := by omega
    have hwr : IntKind.i64.wrap (n : Int) = (n : Int) := by rw [IntKind.wrap_i64]; omega
    have HRK : Hid (r = l.drop (n + 0)) := HS1.out
    clear hd
    have hd : decide ((n : Int) - (n : Int) < 0) = false := by simp
    go_wp2_with fail
    go_quiet (fail)
    generalize hw2 : w1.drewN nq = w2
    have HB2 : Hid (Below w1.heap.size w1 w2) := by rw [← hw2]; exact drawn_below _ _
    have HR2 : Hid (Rr w2 g p n n l n false) := HR1.out.below HB2.out
    clear hw2 h0 h1 h2 f1
    have HE0 : Hid (Own (w2.drew.alloc (.cells #[] 5)) w2.heap.size (.slice (some ⟨w2.heap.size, 0, none⟩) 0 0) []) := Own.empty w2.drew w2.heap.size (Nat.le_refl _)
    have HD0 : Hid (Below w2.heap.size w2 (w2.drew.alloc (.cells #[] 5))) := (Below.refl _ w2).drew.alloc (by simp) _
    have HSW : Hid (∀ w', Below w2.heap.size w2 w' → w'.cell? ⟨g, 0, none⟩ = some (.slice p n n) ∧ w'.cell? ⟨g, 1, none⟩ = some (.int .i64 (n : Nat))) := fun w' hb => ⟨(HR2.out.below hb).c0, (HR2.out.below hb).c1⟩
    go_wp2_with fail
    go_region_held_law (fun w' => w'.cell? ⟨g, 0, none⟩ = some (.slice p n n) ∧ w'.cell? ⟨g, 1, none⟩ = some (.int .i64 (n : Nat)))
      ((refine HSW.out _ ?_; repeat (first | exact Below.refl _ _ | assumption | refine Below.drew ?_ | refine Below.alloc ?_ (by simp) _)))
      ((refine step_append_part (by rfl) _ _ (by rfl) w2.heap.size _ [] (by rfl) HE0.out ⟨p, [], 0⟩ _ (by rfl) rfl (ok_nil _ _ _) (by simp) (by simp) ?_; intro v3 w3 ho3 hg3; have h3 : Below w2.heap.size w2 w3 := Own.grown HE0.out HD0.out (by simp) hg3; clear hg3))
    have hc0 := (HSW.out w3 h3).1
    have hc1 := (HSW.out w3 h3).2
    have f3 := (HR2.out.below h3).fz 1
    obtain ⟨p4, n4, c4, rfl, hi4⟩ := Own.is ho3
    have HI4 : Hid _ := hi4
    have HR3 : Hid _ := HR2.out.below h3
    clear ho3 hi4
    go_wp2
    go_ret
    refine ⟨⟨p4, n4, c4, rfl, ?_⟩, ⟨n + 0, ?_, ?_⟩, gtrans hg1 (gtrans (gbelow (bt HB2.out h3)) (set_grown _ _ _ _))⟩
    · have := Is.grown HI4.out (set_grown w3 g 1 (.int .i64 (n : Int))) HR3.out.nb
      exact this
    · exact HR3.out.at (n + 0) _ (by simp) (Nat.le_refl _)
    · intro r' hr'
      rw [← Option.some.inj hr']; exact HRK.out
  · obtain ⟨b, o, rfl⟩ := HPA.out (by omega)
    have hi1 : (a1 : Int) + (k : Int) ≤ (c : Int) := by omega
    have hi2 : (a1 : Int) ≤ (a1 : Int) + (k : Int) := by omega
    have hi3 : (0 : Int) ≤ (a1 : Int) + (k : Int) := by omega
    have hi4 : (a1 : Int) ≤ (c : Int) := by omega
    have hi5 : ¬ c - a1 = 0 := by omega
    have hwr : IntKind.i64.wrap ((a1 : Int) + (k : Int)) = (a1 : Int) + (k : Int) := by rw [IntKind.wrap_i64]; omega
    have hi7 : (a1 : Int) + (k : Int) ≤ 9223372036854775807 := by omega
    have hi8 : -9223372036854775808 ≤ (a1 : Int) + (k : Int) := by omega
    have hi9 : ¬ ((a1 : Int) + (k : Int) < 0) := by omega
    have hi6 : ((a1 : Int) + (k : Int)).toNat = a1 + k := by omega
    have HRK : Hid (r.take k = (l.drop a1).take k ∧ r.drop k = l.drop (a1 + k) ∧ ((l.drop a1).take k).length = k) := by
      have h1 := HS1.out
      have h2 := HLL.out
      refine ⟨by rw [h1], by rw [h1, List.drop_drop], by rw [List.length_take, List.length_drop]; omega⟩
    have HP : Hid (∀ w', Rr w' g (some ⟨b, o, none⟩) n c l a1 false → Part.ok w' ⟨some ⟨b, o + a1, none⟩, (l.drop a1).take k, c - a1⟩) := fun w' h' => (Is.take (Is.drop h'.is a1 (c - a1)) k (c - a1) (by omega)).2
    go_wp2_with fail
    go_quiet (fail)
    generalize hw2 : w1.drewN nq = w2
    have HB2 : Hid (Below w1.heap.size w1 w2) := by rw [← hw2]; exact drawn_below _ _
    have HR2 : Hid (Rr w2 g (some ⟨b, o, none⟩) n c l a1 false) := HR1.out.below HB2.out
    clear hw2 h0 h1 h2 f1
    have HE0 : Hid (Own (w2.drew.alloc (.cells #[] 5)) w2.heap.size (.slice (some ⟨w2.heap.size, 0, none⟩) 0 0) []) := Own.empty w2.drew w2.heap.size (Nat.le_refl _)
    have HD0 : Hid (Below w2.heap.size w2 (w2.drew.alloc (.cells #[] 5))) := (Below.refl _ w2).drew.alloc (by simp) _
    have HSW : Hid (∀ w', Below w2.heap.size w2 w' → w'.cell? ⟨g, 0, none⟩ = some (.slice (some ⟨b, o, none⟩) n c) ∧ w'.cell? ⟨g, 1, none⟩ = some (.int .i64 (a1 : Nat))) := fun w' hb => ⟨(HR2.out.below hb).c0, (HR2.out.below hb).c1⟩
    go_wp2_with fail
    go_region_held_law (fun w' => w'.cell? ⟨g, 0, none⟩ = some (.slice (some ⟨b, o, none⟩) n c) ∧ w'.cell? ⟨g, 1, none⟩ = some (.int .i64 (a1 : Nat)))
      ((refine HSW.out _ ?_; repeat (first | exact Below.refl _ _ | assumption | refine Below.drew ?_ | refine Below.alloc ?_ (by simp) _)))
      ((refine step_append_part (by rfl) _ _ (by rfl) w2.heap.size _ [] (by rfl) HE0.out ⟨some ⟨b, o + a1, none⟩, (l.drop a1).take k, c - a1⟩ _ (by rfl) HRK.out.2.2.symm (HP.out _ (HR2.out.below HD0.out)) (by show 0 + ((l.drop a1).take k).length ≤ 100000; rw [HRK.out.2.2]; omega) (by simp) ?_; intro v3 w3 ho3 hg3; have h3 : Below w2.heap.size w2 w3 := Own.grown HE0.out HD0.out (by simp) hg3; clear hg3))
    have hc0 := (HSW.out w3 h3).1
    have hc1 := (HSW.out w3 h3).2
    have f3 := (HR2.out.below h3).fz 1
    obtain ⟨p4, n4, c4, rfl, hi4⟩ := Own.is ho3
    have HI4 : Hid _ := hi4
    have HR3 : Hid _ := HR2.out.below h3
    clear ho3 hi4
    go_wp2
    go_ret
    refine ⟨⟨p4, n4, c4, rfl, ?_⟩, ⟨a1 + k, ?_, ?_⟩, gtrans hg1 (gtrans (gbelow (bt HB2.out h3)) (set_grown _ _ _ _))⟩
    · have := Is.grown HI4.out (set_grown w3 g 1 (.int .i64 ((a1 : Int) + (k : Int)))) HR3.out.nb
      rw [List.nil_append] at this
      rw [HRK.out.1]
      exact this
    · exact HR3.out.at (a1 + k) _ (by push_cast; rfl) hkk
    · intro r' hr'
      rw [← Option.some.inj hr', HRK.out.2.1]
theorem refbytes_at (w : World) (g : Nat) (p : Option Addr) (n c : Nat) (l : List UInt8) (s s1 : Option (List UInt8)) (m : Int) (x : List UInt8) (h : Rs w g p n c l s) (hl : l.length ≤ 100000) (hr : C.rbytes s m = (x, s1)) :
    Calls Try.prog 40 #[.pointer (some ⟨g, 0, none⟩), .int .i64 m] w fun e w' => (∃ px nx cx, e = .returned (.slice px nx cx) ∧ Is w' px nx cx x) ∧ Rs w' g p n c l s1 ∧ w.grownBy w' (some g) := by
  obtain ⟨v, s2, hr2⟩ : ∃ v s2, C.rnum s 0 m = (v, s2) := ⟨_, _, rfl⟩
  rw [rbytes_all s m v s2 hr2] at hr
  have h0 := rnum_zero s m
  rw [hr2] at h0
  obtain ⟨h0, hz⟩ := h0
  obtain ⟨k, rfl⟩ := Int.eq_ofNat_of_zero_le (show 0 ≤ v from h0)
  by_cases hk : (s2.getD []).length < k
  · rw [if_pos (by omega)] at hr
    obtain ⟨rfl, rfl⟩ := Prod.mk.inj hr
    exact (refbytes_bad w g p n c l s s2 m k h hl hr2 (Or.inr hk)).mono fun e w' ⟨h1, h2, h3⟩ => ⟨⟨_, _, _, h1, Is.nil _⟩, h2, h3⟩
  · rw [if_neg (by omega)] at hr
    cases s2 with
    | none =>
      have : (k : Int) = 0 := hz rfl
      obtain rfl : k = 0 := by omega
      obtain ⟨rfl, rfl⟩ := Prod.mk.inj hr
      exact (refbytes_bad w g p n c l s none m 0 h hl hr2 (Or.inl rfl)).mono fun e w' ⟨h1, h2, h3⟩ => ⟨⟨_, _, _, h1, Is.nil _⟩, h2, h3⟩
    | some r =>
      obtain ⟨rfl, rfl⟩ := Prod.mk.inj hr
      exact refbytes_ok w g p n c l s r m k h hl hr2 hk
end Go.Proofs.Ytebfhomopdnkkaa
