/-
  Several texts in one: KTabs6, KCom6.
-/
import Derived.Test.YtnhplbdbgiimkaaGreatDoorCards
import Derived.Test.YtnhplbdbgiimkaaGreatDoorTie
import Derived.Test.YtnhplbdbgiimkaaGreatDoorZ4
import Derived.Test.YtnhplbdbgiimkaaGreatDoorZ31
import Derived.WalkKit
import Derived.ProofKit
import Derived.OpenShut
import Derived.ShutString
import Derived.LaidMore
import Derived.Lay
import Derived.SevenTiedAt
import Derived.Stop.Joined
import Derived.MakeChecks
import Derived.Lib.LaidTab
import Derived.Test.YtnhplbdbgiimkaaGreatDoorZ30
namespace Go.Proofs.YtnhplbdbgiimkaaGreatDoor
open Go.ChangeShapes Go.WideShapes Go.ChangeAt Go.RowKit Go.Lib
set_option linter.unusedVariables false

def laidL : List (String × DataW Unit) := [("rostrum/crc.halves", Rows.laid_rostrum_crc_halves)]
theorem halves_eq : (Rows.laid_rostrum_crc_halves : DataW Unit) = Lib.tabData .u32 tabI := by kernel_rfl
theorem plainL : (laidL.all fun x => x.2.handleName?.isNone) = true := by kernel_rfl
theorem tabs_of {W : World} (h : laidMetH Tryz.prog laidL W) : Tabs W := by
  rw [MakeChecks.laidMetH_plain _ _ _ plainL] at h
  unfold laidL at h
  rw [halves_eq] at h
  exact Lib.tabIs_of_head glHalves (t := 162) (by kernel_rfl) Tryz.underlying162 Tryz.underlying119 (by kernel_rfl) (by kernel_rfl) h
end Go.Proofs.YtnhplbdbgiimkaaGreatDoor

namespace Go.Proofs.YtnhplbdbgiimkaaGreatDoor
open Go.RowKit Go.Lib
set_option linter.unusedVariables false

theorem wf_i64 {m : Int} (h : (Lit.int .i64 m).wf = true) : -9223372036854775808 ≤ m ∧ m ≤ 9223372036854775807 := by
  have h1 : IntKind.i64.min = -9223372036854775808 := rfl
  have h2 : IntKind.i64.max = 9223372036854775807 := rfl
  simp only [Lit.wf, Bool.and_eq_true, decide_eq_true_eq] at h
  omega
theorem one_stay {w0 w : World} {S : Nat → Prop} {x : Part} (t : TypeId) (m : Nat × Nat) (hx : x.ok w0) (hb : Below w0.heap.size w0 w) (hn : ∀ b, S b → w0.heap.size ≤ b) (hlt : ∀ b, S b → b < w.heap.size) : Stay (w.alloc (.cells #[x.v] t m)) S (some ⟨w.heap.size, 0, none⟩) [x] := fun W hW => by
  have h1 : Below w0.heap.size w0 (w.alloc (.cells #[x.v] t m)) := bt hb (below_new _ _)
  refine ⟨PAt.turn (pat_new w [x] t m) hW fun a ha _ hs => ?_, fun y hy => ?_⟩
  · cases ha
    have := hlt _ hs
    simp only at this
    omega
  · obtain rfl := List.mem_singleton.1 hy
    exact hx.below (h1.trans (hW.below h1.size hn))
theorem args_stay {w0 w : World} {S : Nat → Prop} {p : Option Addr} {ps : List Part} (h : PAt w0 p ps) (ho : ∀ x ∈ ps, x.ok w0) (hb : Below w0.heap.size w0 w) (hn : ∀ b, S b → w0.heap.size ≤ b) : Stay w S p ps := Stay.of h ho hb hn
theorem args_cell {w0 w : World} {b o : Nat} {k : Nat} {x : Part} (h : w0.cell? ⟨b, o + k, none⟩ = some x.v) (hb : Below w0.heap.size w0 w) : w.cell? ⟨b, o + k, none⟩ = some x.v := by
  rw [hb.cell (p := ⟨b, o + k, none⟩) (World.block_lt_of_cell? _ _ h)]; exact h
theorem Rows.pre {w : World} {p : Option Addr} {ps : List Part} {cap : Nat} (hP : PAt w p ps) (hA : ∀ x ∈ ps, x.ok w) (hc : ps.length ≤ cap) (hm : cap ≤ maxLen) (k n : Nat) (hk : k ≤ ps.length) (hn : n = k) : Rows w (.slice p n cap) ((ps.map Part.l).take k) := by
  subst hn
  have hl : (ps.take n).length = n := by rw [List.length_take]; omega
  refine ⟨p, ps.take n, cap, by rw [hl], fun h => ?_, fun x hx => hA x (List.mem_of_mem_take hx), List.map_take, by omega, hm⟩
  obtain ⟨b, o, hp, hc'⟩ := hP (by omega)
  refine ⟨b, o, hp, fun i x hi => hc' i x ?_⟩
  rw [List.getElem?_take] at hi
  split at hi
  · exact hi
  · cases hi
theorem map_take_succ {ps : List Part} {k : Nat} {x : Part} (hx : ps[k]? = some x) : (ps.map Part.l).take (k + 1) = (ps.map Part.l).take k ++ [x.l] := by
  rw [List.take_add_one, List.getElem?_map, hx]; rfl
theorem takeConv {P : Program} {md : Region.Mode} {Q : Exit → Act → World → Prop} {Cl : World → Prop} {l rest : List Oper} {i : Nat} {oi : Oper} (x : Operand) (s d : TypeId) (bv v : Value) {fuel : Nat} {listed : Array Bool} {a : Act} {w : World} (hi : l.drop i = oi :: rest) (hop : oi.op = .convert s d x) (hx : a.eval x = bv)
    (hs : Region.noSelect l.toArray = true) (hf : Region.free md l.toArray listed i = true) (hr : (Region.ready md l.toArray listed).contains i = true)
    (hQ : ∀ v c a w, Q (.panic c) (a.put oi.dst v) w → Q (.panic c) a w) (hw : Region.wanted oi (yielded l.toArray a.tmps) = true) (hS : Cl w)
    (hrun : ∀ w', Cl w' → (convert s d bv).run P w' = .ok v w')
    (h : wpAnyH P md l.toArray Q Cl fuel (listed.setIfInBounds i true) (a.put oi.dst v) w) : wpAnyH P md l.toArray Q Cl (fuel + 1) listed a w :=
  takeVal v hi hs hf hr hQ hw hS (fun w' hw' => by unfold execOp; rw [hop]; simp only [hx, Sem.run_bind, hrun w' hw', Result.andThen_ok, Sem.run_pure]) h
/-- Two logs beside each other: what the one makes new is not the other's. -/
theorem apart_ext {w w' : World} {S T : Nat → Prop} (hd : ∀ b, S b → ¬ T b) (h2 : ∀ b, T b → b < w.heap.size) : ∀ b, Ext w w' S b → ¬ T b := fun b hb ht => by
  rcases hb with hb | hb
  · exact hd b hb ht
  · have := h2 b ht
    omega
theorem apart_sub {S S' T : Nat → Prop} (hd : ∀ b, S b → ¬ T b) (h : ∀ b, S' b → S b) : ∀ b, S' b → ¬ T b := fun b hb => hd b (h b hb)
theorem apart_sym {S T : Nat → Prop} (hd : ∀ b, S b → ¬ T b) : ∀ b, T b → ¬ S b := fun b hb hs => hd b hs hb
theorem Rows.take {w : World} {p : Option Addr} {n cap : Nat} {L : List (List UInt8)} (h : Rows w (.slice p n cap) L) (k : Nat) (hk : k ≤ n) : Rows w (.slice p k cap) (L.take k) := by
  obtain ⟨p', ps, cap', e, h1, h2, rfl, h4, h5⟩ := h
  cases e
  exact Rows.pre h1 h2 h4 h5 k k hk rfl
theorem pat_src {w : World} {p : Option Addr} {ps : List Part} (cap : Nat) (h : PAt w p ps) : SrcAt w 1 (.slice p ps.length cap) ps.length (ps.map Part.v) := by
  refine ⟨p, cap, rfl, by rw [List.length_map, Nat.mul_one], fun hp => ?_, fun a ha j u hj => ?_⟩
  · rcases Nat.eq_zero_or_pos ps.length with h0 | h0
    · exact h0
    · obtain ⟨b, o, e, _⟩ := h h0
      rw [hp] at e
      cases e
  · obtain ⟨b, o, e, hc⟩ := h (by have := (List.getElem?_eq_some_iff.1 hj).1; rw [List.length_map] at this; omega)
    rw [ha] at e
    cases e
    rw [List.getElem?_map] at hj
    cases hx : ps[j]? with
    | none => rw [hx] at hj; cases hj
    | some x =>
      rw [hx] at hj
      obtain rfl : x.v = u := by simpa using hj
      rw [WideShapes.add_plain]
      exact hc j x hx
theorem row_empty6 (w : World) : (w.alloc (.cells #[] 31)).ownsRow 0 31 1 (.slice (some ⟨w.heap.size, 0, none⟩) 0 0) 0 [] := World.ownsRow_lit w #[] 0 (Nat.zero_le _) (Nat.zero_le _) rfl
theorem one_src1 (w : World) (o : Obj) (x : Part) : SrcAt ((w.alloc o).alloc (.cells #[x.v] 31)) 1 (.slice (some ⟨w.heap.size + 1, 0, none⟩) 1 1) 1 [x.v] := by
  have h := one_src (w.alloc o) x
  rw [World.size_alloc] at h
  exact h
/-- An append to an empty row of the call's own: new memory alone. -/
theorem app_first {wa W2 : World} {va : Value} (hg : (wa.alloc (.cells #[] 31)).grownBy W2 (some wa.heap.size)) (hl : va.ownBlock = some wa.heap.size ∨ va.ownBlock = some (wa.alloc (.cells #[] 31)).heap.size) : Below wa.heap.size wa W2 ∧ (∀ b, va.ownBlock = some b → wa.heap.size ≤ b) := by
  refine ⟨((Below.refl _ wa).alloc (Nat.le_refl _) _).grown hg (by simp) (fun k e => by cases e; exact Nat.le_refl _), fun b hb => ?_⟩
  rcases hl with h | h
  · rw [h] at hb; cases hb; exact Nat.le_refl _
  · rw [h] at hb; cases hb; simp
theorem row_two {w : World} {e size n : Nat} {v : Value} {xs : List Value} (h : w.ownsRow 0 e size v n xs) (a b : Obj) : ((w.alloc a).alloc b).ownsRow 0 e size v n xs := row_same h fun k hk => (below_two w a b).block k (row_lt h hk)
/-- A row of one's own, then one more behind it: what it holds. -/
theorem app_last {W W6 : World} {va vb : Value} {ps : List Part} {n : Nat} {l : List UInt8} {c : Nat} {t : TypeId} {m m2 : Nat × Nat} (hra : W.ownsRow 0 31 1 va n ([] ++ ps.map Part.v)) (hok : ∀ x ∈ ps, x.ok W6) (hl : l.length ≤ maxLen) (hn : n = ps.length)
    (hg : ((W.alloc (.cells (l.map fun b => Value.int .u8 (b.toNat : Nat)).toArray 5 m)).alloc (.cells #[.slice (some ⟨W.heap.size, 0, none⟩) l.length c] t m2)).grownBy W6 va.ownBlock) (hrb : W6.ownsRow 0 31 1 vb (n + 1) ([] ++ ps.map Part.v ++ [(⟨some ⟨W.heap.size, 0, none⟩, l, c⟩ : Part).v])) : Rows W6 vb (ps.map Part.l ++ [l]) := by
  have ht : Turn ((W.alloc (.cells (l.map fun b => Value.int .u8 (b.toNat : Nat)).toArray 5 m)).alloc (.cells #[.slice (some ⟨W.heap.size, 0, none⟩) l.length c] t m2)) W6 (fun b => va.ownBlock = some b) := Turn.of_grown hg fun b hb => hb
  have h1 : (⟨some ⟨W.heap.size, 0, none⟩, l, c⟩ : Part).ok W6 := Part.ok.turn (Part.ok.below (x := ⟨some ⟨W.heap.size, 0, none⟩, l, c⟩) ⟨hl, bat_new W l _ _⟩ (below_new _ _)) ht fun a ha _ hs => by
    cases ha
    have := row_lt hra hs
    simp only at this
    omega
  have h2 : OwnP W6 0 vb (ps ++ [⟨some ⟨W.heap.size, 0, none⟩, l, c⟩]) := by
    unfold OwnP
    rw [List.length_append, List.length_singleton, List.map_append, ← hn]
    exact hrb
  have h3 := h2.rows fun x hx => by
    rcases List.mem_append.1 hx with hx | hx
    · exact hok x hx
    · obtain rfl := List.mem_singleton.1 hx
      exact h1
  rw [List.map_append] at h3
  exact h3
end Go.Proofs.YtnhplbdbgiimkaaGreatDoor
