/-
  Several texts in one: BTake2, BTake3, WNew3.
-/
import Derived.Test.YtnhplbdbgiimkaaGreatDoorZ17
namespace Go.Proofs.YtnhplbdbgiimkaaGreatDoor
open Go.RowKit Go.Lib
set_option linter.unusedVariables false

section
variable {P : Program} {ops : Array Oper} {Q : Exit → Act → World → Prop} {md : Region.Mode} {C : World → Prop}
theorem takeNil {l rest : List Oper} {i : Nat} {oi : Oper} {x : Operand} {ad : Addr} {fuel : Nat} {listed : Array Bool} {a : Act} {w : World} (hi : l.drop i = oi :: rest) (hop : oi.op = .nilCheck x) (hx : a.eval x = .pointer (some ad))
    (hs : Region.noSelect l.toArray = true) (hf : Region.free md l.toArray listed i = true) (hr : (Region.ready md l.toArray listed).contains i = true)
    (hQ : ∀ v c a w, Q (.panic c) (a.put oi.dst v) w → Q (.panic c) a w) (hw : Region.wanted oi (yielded l.toArray a.tmps) = true) (hS : C w)
    (h : wpAnyH P md l.toArray Q C fuel (listed.setIfInBounds i true) (a.put oi.dst (.pointer (some ad))) w) : wpAnyH P md l.toArray Q C (fuel + 1) listed a w :=
  wpAnyH_take (at_of_drop hi) hs hf hr (hQ _) (Or.inl ⟨hw, fun w' _ => by unfold execOp; rw [hop]; simp only [hx]; rfl⟩) hS h
end
end Go.Proofs.YtnhplbdbgiimkaaGreatDoor

namespace Go.Proofs.YtnhplbdbgiimkaaGreatDoor
open Go.RowKit Go.Lib
set_option linter.unusedVariables false

section
variable {P : Program} {ops : Array Oper} {Q : Exit → Act → World → Prop} {md : Region.Mode} {C : World → Prop}
/-- An operation that is known to yield a value and to leave the world. -/
theorem takeVal {l rest : List Oper} {i : Nat} {oi : Oper} (v : Value) {fuel : Nat} {listed : Array Bool} {a : Act} {w : World} (hi : l.drop i = oi :: rest)
    (hs : Region.noSelect l.toArray = true) (hf : Region.free md l.toArray listed i = true) (hr : (Region.ready md l.toArray listed).contains i = true)
    (hQ : ∀ v c a w, Q (.panic c) (a.put oi.dst v) w → Q (.panic c) a w) (hw : Region.wanted oi (yielded l.toArray a.tmps) = true) (hS : C w)
    (hv : ∀ w', C w' → (execOp a.eval oi).run P w' = .ok (.value v) w')
    (h : wpAnyH P md l.toArray Q C fuel (listed.setIfInBounds i true) (a.put oi.dst v) w) : wpAnyH P md l.toArray Q C (fuel + 1) listed a w :=
  wpAnyH_take (at_of_drop hi) hs hf hr (hQ _) (Or.inl ⟨hw, hv⟩) hS h
end
end Go.Proofs.YtnhplbdbgiimkaaGreatDoor

namespace Go.Proofs.YtnhplbdbgiimkaaGreatDoor
open Go.RowKit Go.Lib Go.Maps Go.Sort
set_option linter.unusedVariables false

theorem keep_w {w w' : World} {b : Nat} {o : Obj} (h : Below w.heap.size w w') (hb : w.heap[b]? = some o) : w'.heap[b]? = some o := (h.block b (Array.getElem?_eq_some_iff.1 hb).1).trans hb
/-- A piece as it lies, its records a slice. -/
structure Pq where
  c : C.Pc
  p : Option Addr
  k : Nat
def Pq.m (x : Pq) : Pm := ⟨x.c, .slice x.p x.c.recs.length x.k⟩
def encQ (x : Pq) : List Value := encP x.m
def cmpQ (x y : Pq) : Int := if Lib.compareInt (x.c.first : Nat) (y.c.first : Nat) = 0 then Lib.compareInt (y.c.recs.length : Nat) (x.c.recs.length : Nat) else Lib.compareInt (x.c.first : Nat) (y.c.first : Nat)
set_option maxRecDepth 100000 in
set_option maxHeartbeats 4000000 in
theorem n2_any (x y : Pq) (W : World) : Calls Tryz.prog 50 #[.agg (encQ x).toArray, .agg (encQ y).toArray] W fun e w' => e = .returned (.int .i64 (cmpQ x y)) ∧ ∃ q os', w' = grow (W.drewN q) os' := by
  obtain ⟨r1, hr1⟩ : ∃ r1, r1 = Lib.compareInt (x.c.first : Nat) (y.c.first : Nat) := ⟨_, rfl⟩
  obtain ⟨r2, hr2⟩ : ∃ r2, r2 = Lib.compareInt (y.c.recs.length : Nat) (x.c.recs.length : Nat) := ⟨_, rfl⟩
  have HC1 : Hid (∀ W', Calls Tryz.prog 52 #[.int .i64 (x.c.first : Nat), .int .i64 (y.c.first : Nat)] W' fun e w' => e = .returned (.int .i64 r1) ∧ w' = W') := fun W' => by rw [hr1]; exact AnyG.cmp_Compare_int Tryz.cmpI (x.c.first : Nat) (y.c.first : Nat) W'
  have HC2 : Hid (∀ W', Calls Tryz.prog 52 #[.int .i64 (y.c.recs.length : Nat), .int .i64 (x.c.recs.length : Nat)] W' fun e w' => e = .returned (.int .i64 r2) ∧ w' = W') := fun W' => by rw [hr2]; exact AnyG.cmp_Compare_int Tryz.cmpI (y.c.recs.length : Nat) (x.c.recs.length : Nat) W'
  have hcm : cmpQ x y = if r1 = 0 then r2 else r1 := by unfold cmpQ; rw [← hr1, ← hr2]
  have HCM : Hid (∀ r, r = (if r1 = 0 then r2 else r1) → r = cmpQ x y) := fun r h => by rw [h, hcm]
  rw [hcm]
  obtain ⟨r, hr⟩ : ∃ r, r = (if r1 = 0 then r2 else r1) := ⟨_, rfl⟩
  have HR : Hid (r = (if r1 = 0 then r2 else r1)) := hr
  rw [← hr]
  clear hr1 hr2 hcm HCM hr
  obtain ⟨⟨f1, a1, n1, rs1, t1⟩, p1, k1⟩ := x
  obtain ⟨⟨f2, a2, n2, rs2, t2⟩, p2, k2⟩ := y
  simp only [encQ, Pq.m, encP] at HC1 HC2 ⊢
  generalize C.Pc.fin _ = e1
  generalize C.Pc.torn _ = b1
  generalize C.Pc.fin _ = e2
  generalize C.Pc.torn _ = b2
  generalize rs1.length = m1 at HC2 ⊢
  generalize rs2.length = m2 at HC2 ⊢
  obtain ⟨OA, hOA⟩ : ∃ OA : Obj, OA = .cells #[.int .i64 (f1 : Nat), .int .i64 (a1 : Nat), .int .i64 (n1 : Nat), .slice p1 m1 k1, .int .i64 (e1 : Nat), .bool b1] 66 := ⟨_, rfl⟩
  obtain ⟨OB, hOB⟩ : ∃ OB : Obj, OB = .cells #[.int .i64 (f2 : Nat), .int .i64 (a2 : Nat), .int .i64 (n2 : Nat), .slice p2 m2 k2, .int .i64 (e2 : Nat), .bool b2] 66 := ⟨_, rfl⟩
  obtain ⟨ga, hga⟩ : ∃ ga, ga = W.heap.size := ⟨_, rfl⟩
  obtain ⟨gb, hgb⟩ : ∃ gb, gb = (W.alloc OA).heap.size := ⟨_, rfl⟩
  obtain ⟨W3, hW3⟩ : ∃ W3, W3 = (W.alloc OA).alloc OB := ⟨_, rfl⟩
  have ha3 : W3.heap[ga]? = some OA := by rw [hW3]; exact ((below_new (W.alloc OA) OB).block ga (by rw [hga]; simp)).trans (by rw [hga]; exact heap_alloc_new W OA)
  have hb3 : W3.heap[gb]? = some OB := by rw [hW3, hgb]; exact heap_alloc_new _ _
  have HA3 : Hid (W3.heap[ga]? = some OA) := ha3
  have HB3 : Hid (W3.heap[gb]? = some OB) := hb3
  have HW3 : Hid (W3 = (W.alloc OA).alloc OB) := hW3
  have hgb1 : W.heap.size + 1 = gb := by rw [hgb]; simp
  clear ha3 hb3 hgb
  go_enter Tryz.func50, Tryz.ntmps50
  go_wp2_with fail
  rw [← hOA]
  rw [← hOB]
  rw [← hW3]
  try rw [hgb1]
  try rw [← hga]
  have hne : Nonempty (NewW W3) := ⟨NewW.start W3⟩
  have z0 : ∀ t : NewW W3, t.v.cell? ⟨ga, 2, none⟩ = some (.int .i64 (n1 : Nat)) := fun t => by have h1 := keep_w t.h HA3.out; simp [World.cell?, h1, hOA]
  have z1 : ∀ t : NewW W3, t.v.cell? ⟨ga, 3, none⟩ = some (.slice p1 m1 k1) := fun t => by have h1 := keep_w t.h HA3.out; simp [World.cell?, h1, hOA]
  have z2 : ∀ t : NewW W3, t.v.cell? ⟨gb, 2, none⟩ = some (.int .i64 (n2 : Nat)) := fun t => by have h1 := keep_w t.h HB3.out; simp [World.cell?, h1, hOB]
  have z3 : ∀ t : NewW W3, t.v.cell? ⟨gb, 3, none⟩ = some (.slice p2 m2 k2) := fun t => by have h1 := keep_w t.h HB3.out; simp [World.cell?, h1, hOB]
  clear hOA hOB hW3 hgb1 hga
  have hC : ∃ m : NewW W3, W3.drew = m.v := ⟨⟨W3.drew, (Below.refl _ W3).drew⟩, rfl⟩
  refine wp_region_held_drew (S := fun w' => ∃ m : NewW W3, w' = m.v) (by kernel_rfl) hC (fun _ => ?_)
  have hB : Below W3.heap.size W3 W3.drew := (Below.refl _ W3).drew
  obtain ⟨W0, hW0⟩ : ∃ W0, W0 = W3.drew := ⟨_, rfl⟩
  have HW0 : Hid (W0 = W3.drew) := hW0
  rw [← hW0] at hB hC ⊢
  clear hW0
  refine takeList (i := 0) rfl (by kernel_rfl) (by kernel_rfl) (by kernel_rfl) (fun _ _ _ _ h => h) rfl rfl hC (fun K hK => ?_)
  go_big_quiet_op
  refine hK _ ?_
  clear hK K
  refine takeList (i := 1) rfl (by kernel_rfl) (by kernel_rfl) (by kernel_rfl) (fun _ _ _ _ h => h) rfl rfl hC (fun K hK => ?_)
  go_big_quiet_op
  refine hK _ ?_
  clear hK K
  refine takeList (i := 2) rfl (by kernel_rfl) (by kernel_rfl) (by kernel_rfl) (fun _ _ _ _ h => h) rfl rfl hC (fun K hK => ?_)
  go_big_quiet_op
  refine hK _ ?_
  clear hK K
  refine takeList (i := 3) rfl (by kernel_rfl) (by kernel_rfl) (by kernel_rfl) (fun _ _ _ _ h => h) rfl rfl hC (fun K hK => ?_)
  go_big_quiet_op
  refine hK _ ?_
  clear hK K
  refine takeList (i := 5) rfl (by kernel_rfl) (by kernel_rfl) (by kernel_rfl) (fun _ _ _ _ h => h) rfl rfl hC (fun K hK => ?_)
  go_big_quiet_op
  refine hK _ ?_
  clear hK K
  refine takeList (i := 6) rfl (by kernel_rfl) (by kernel_rfl) (by kernel_rfl) (fun _ _ _ _ h => h) rfl rfl hC (fun K hK => ?_)
  go_big_quiet_op
  refine hK _ ?_
  clear hK K
  refine takeVal (i := 7) (.int .i64 (m2 : Int)) rfl (by kernel_rfl) (by kernel_rfl) (by kernel_rfl) (fun _ _ _ _ h => h) rfl hC (fun w' _ => by go_simp) ?_
  go_simp
  refine takeList (i := 8) rfl (by kernel_rfl) (by kernel_rfl) (by kernel_rfl) (fun _ _ _ _ h => h) rfl rfl hC (fun K hK => ?_)
  go_big_quiet_op
  refine hK _ ?_
  clear hK K
  refine takeList (i := 9) rfl (by kernel_rfl) (by kernel_rfl) (by kernel_rfl) (fun _ _ _ _ h => h) rfl rfl hC (fun K hK => ?_)
  go_big_quiet_op
  refine hK _ ?_
  clear hK K
  refine takeVal (i := 10) (.int .i64 (m1 : Int)) rfl (by kernel_rfl) (by kernel_rfl) (by kernel_rfl) (fun _ _ _ _ h => h) rfl hC (fun w' _ => by go_simp) ?_
  go_simp
  clear z0 z1 z2 z3
  refine callList (i := 4) rfl (by kernel_rfl) rfl (fun K hK => ?_)
  go_simp
  refine (HC1.out _).mono ?_
  rintro e w1 ⟨rfl, hw⟩
  subst w1
  refine hK.out _ _ hC ?_
  try go_simp
  clear hK K
  refine callList (i := 11) rfl (by kernel_rfl) rfl (fun K hK => ?_)
  go_simp
  refine (HC2.out _).mono ?_
  rintro e w1 ⟨rfl, hw⟩
  subst w1
  refine hK.out _ _ hC ?_
  try go_simp
  clear hK K
  refine callList (i := 12) rfl (by kernel_rfl) rfl (fun K hK => ?_)
  go_simp
  have hal := below_new W0 (.cells #[.int .i64 r1, .int .i64 r2] 3)
  have hd := heap_alloc_new W0 (.cells #[.int .i64 r1, .int .i64 r2] 3)
  have y0 : (W0.alloc (.cells #[.int .i64 r1, .int .i64 r2] 3)).cell? ⟨W0.heap.size, 0, none⟩ = some (.int .i64 r1) := (blk_cell hd 0).trans rfl
  have y1 : (W0.alloc (.cells #[.int .i64 r1, .int .i64 r2] 3)).cell? ⟨W0.heap.size, 1, none⟩ = some (.int .i64 r2) := (blk_cell hd 1).trans rfl
  have HO := or_any W0.heap.size r1 r2 _ y0 y1
  rw [← HR.out] at HO
  replace hB := bt hB hal
  refine hK.out _ _ ⟨⟨_, hB⟩, rfl⟩ ?_
  try go_simp
  clear hK K hC hal hd y0 y1
  have hC : ∃ m : NewW W3, W0.alloc (.cells #[.int .i64 r1, .int .i64 r2] 3) = m.v := ⟨⟨_, hB⟩, rfl⟩
  refine callList (i := 13) rfl (by kernel_rfl) rfl (fun K hK => ?_)
  go_simp
  refine HO.mono ?_
  rintro e w1 ⟨rfl, hw⟩
  subst w1
  refine hK.out _ _ hC ?_
  try go_simp
  clear hK K
  refine takeList (i := 14) rfl (by kernel_rfl) (by kernel_rfl) (by kernel_rfl) (fun _ _ _ _ h => h) rfl rfl hC (fun K hK => ?_)
  go_big_quiet_op
  refine hK _ ?_
  clear hK K
  refine wpAnyH_done (by kernel_rfl) ?_ _
  clear hC hne HO hB
  go_wp2
  go_ret
  refine ⟨rfl, 1, #[OA, OB, .cells #[.int .i64 r1, .int .i64 r2] 3], ?_⟩
  rw [HW0.out, HW3.out, alloc_eq_grow, alloc_eq_grow, alloc_eq_grow, grow_grow, drew_grow, grow_grow]
  rfl
end Go.Proofs.YtnhplbdbgiimkaaGreatDoor
