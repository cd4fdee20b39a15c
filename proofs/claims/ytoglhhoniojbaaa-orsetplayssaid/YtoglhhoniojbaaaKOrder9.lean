/-
  OrsetOrder: adds and removes in whatever order make the same set, if no dot is of two texts.
-/
import Derived.Test.YtoglhhoniojbaaaZ7
import Derived.Test.YtoglhhoniojbaaaBVec
import Derived.Test.YtoglhhoniojbaaaZ5
import Derived.Deep.CutRange
import Derived.Deep.RegionHeldLaw
import Derived.Deep.RegionLaw
import Derived.BigRegion
namespace Go.Proofs.Ytoglhhoniojbaaa
open Go.RowKit Go.Lib Go.Sort Go.Shelf
set_option linter.unusedVariables false

namespace C
/-- Acts i and k are no adds of one dot for two texts. -/
def NoC (l : List ActO) (i k : Nat) : Prop := ∀ a b, l[i]? = some a → l[k]? = some b → ¬ (a.op = 0 ∧ b.op = 0 ∧ a.d = b.d ∧ a.x ≠ b.x)
theorem cons_of {l : List ActO} {n : Nat} (hn : n = l.length) (h : ∀ i, i < n → ∀ k, k < i → NoC l i k) : ConsO fun z => z ∈ l := by
  intro a b ha hb h1 h2 hd
  obtain ⟨i, hi⟩ := List.getElem?_of_mem ha
  obtain ⟨k, hk⟩ := List.getElem?_of_mem hb
  have hil := (List.getElem?_eq_some_iff.1 hi).1
  have hkl := (List.getElem?_eq_some_iff.1 hk).1
  rcases Nat.lt_trichotomy k i with hlt | rfl | hlt
  · have := h i (by omega) k hlt a b hi hk
    exact Classical.byContradiction fun hx => this ⟨h1, h2, hd, hx⟩
  · rw [hi] at hk; cases hk; rfl
  · have := h k (by omega) i hlt b a hk hi
    exact Classical.byContradiction fun hx => this ⟨h2, h1, hd.symm, fun e => hx e.symm⟩
end C
theorem bA9 {w1 c : World} {o : Obj} (h : Below w1.heap.size w1 c) : Below w1.heap.size w1 (c.alloc o) := bt h (below_new _ _)
theorem bS9 {w1 c : World} {b k : Nat} {v : Value} (h : Below w1.heap.size w1 c) (hb : w1.heap.size ≤ b) : Below w1.heap.size w1 (c.setCell ⟨b, k, none⟩ v) := Below.setCell h hb v
theorem heap_of_drew9 (w : World) : w.drew.heap = w.heap := rfl
theorem heap_of_alloc9 (w : World) (o : Obj) (k : Nat) : (w.alloc o).heap[k]? = if k = w.heap.size then some o else w.heap[k]? := by
  by_cases h : k = w.heap.size
  · rw [if_pos h, h]; exact heap_alloc_new _ _
  · rw [if_neg h]
    rcases Nat.lt_or_ge k w.heap.size with h1 | h1
    · exact (below_new w o).block k h1
    · rw [Array.getElem?_eq_none h1, Array.getElem?_eq_none (by simp; omega)]
theorem size_of_alloc9 (w : World) (o : Obj) : (w.alloc o).heap.size = w.heap.size + 1 := by simp
theorem takeConv {P : Program} {md : Region.Mode} {Q : Exit → Act → World → Prop} {Cl : World → Prop} {l rest : List Oper} {i : Nat} {oi : Oper} (x : Operand) (s d : TypeId) (bv v : Value) {fuel : Nat} {listed : Array Bool} {a : Act} {w : World} (hi : l.drop i = oi :: rest) (hop : oi.op = .convert s d x) (hx : a.eval x = bv)
    (hs : Region.noSelect l.toArray = true) (hf : Region.free md l.toArray listed i = true) (hr : (Region.ready md l.toArray listed).contains i = true)
    (hQ : ∀ v c a w, Q (.panic c) (a.put oi.dst v) w → Q (.panic c) a w) (hw : Region.wanted oi (yielded l.toArray a.tmps) = true) (hS : Cl w)
    (hrun : ∀ w', Cl w' → (convert s d bv).run P w' = .ok v w')
    (h : wpAnyH P md l.toArray Q Cl fuel (listed.setIfInBounds i true) (a.put oi.dst v) w) : wpAnyH P md l.toArray Q Cl (fuel + 1) listed a w :=
  takeVal v hi hs hf hr hQ hw hS (fun w' hw' => by unfold execOp; rw [hop]; simp only [hx, Sem.run_bind, hrun w' hw', Result.andThen_ok, Sem.run_pure]) h
theorem rot_all {l : List ActO} {n t : Nat} (hn : n = l.length) (ht : t < n) (z : ActO) : z ∈ l.take n ↔ ∃ j', j' < n ∧ l[(j' + t) % n]? = some z := by
  rw [List.take_of_length_le (Nat.le_of_eq hn.symm)]
  constructor
  · intro hz
    obtain ⟨k, hk⟩ := List.getElem?_of_mem hz
    have hkl := (List.getElem?_eq_some_iff.1 hk).1
    by_cases htk : t ≤ k
    · exact ⟨k - t, by omega, by rw [show k - t + t = k from by omega, Nat.mod_eq_of_lt (by omega)]; exact hk⟩
    · exact ⟨k + n - t, by omega, by rw [show k + n - t + t = k + n from by omega, Nat.add_mod_right, Nat.mod_eq_of_lt (by omega)]; exact hk⟩
  · rintro ⟨j', _, h⟩
    exact List.mem_of_getElem? h
theorem tx_dec (y x : Tx) : (y.toList == x.toList) = decide (y = x) := tx_eq y x
set_option maxRecDepth 100000 in
set_option maxHeartbeats 16000000 in
theorem order_walk (pa : Option Addr) (l : List ActO) (ca : Nat) (turn : Int) (w : World) (ha : ArgO w pa l) (hla : l.length ≤ maxLen) (hxl : ∀ x ∈ l, x.x.size ≤ maxLen) (htf : C.fits turn) :
    Calls Try.prog 5 #[.slice pa l.length ca, .int .i64 turn] w fun e w' => e = .returned (.bool true) ∧ Below w.heap.size w w' := by
  have HA : Hid (ArgO w pa l) := ha
  have HXL : Hid (∀ x ∈ l, x.x.size ≤ maxLen) := hxl
  have HTF : Hid (C.fits turn) := htf
  clear ha hxl htf
  unfold maxLen at hla
  obtain ⟨n, hn⟩ : ∃ n, n = l.length := ⟨_, rfl⟩
  have HN : Hid (n = l.length) := hn
  rw [← hn] at hla ⊢
  clear hn
  have HK : Hid (∀ n, n ≤ 1000 → n + 2 < maxLen) := fun n hn => by unfold maxLen; omega
  go_enter Try.func5, Try.ntmps5
  go_wp2_with fail
  refine (awake9_any w).mono ?_
  rintro e w2 ⟨rfl, hb2⟩
  have HB2 : Hid (Below w.heap.size w w2) := hb2
  clear hb2
  by_cases h1 : (n : Int) < 1
  · have g1 : decide ((n : Int) < 1) = true := decide_eq_true h1
    go_wp2
    go_ret
    exact ⟨rfl, HB2.out⟩
  by_cases h2 : (40 : Int) < n
  · have g1 : decide ((n : Int) < 1) = false := decide_eq_false h1
    have g2 : decide ((40 : Int) < n) = true := decide_eq_true h2
    go_wp2
    go_ret
    exact ⟨rfl, HB2.out⟩
  by_cases h3 : turn < 0
  · have g1 : decide ((n : Int) < 1) = false := decide_eq_false h1
    have g2 : decide ((40 : Int) < n) = false := decide_eq_false h2
    have g3 : decide (turn < 0) = true := decide_eq_true h3
    go_wp2
    go_ret
    exact ⟨rfl, HB2.out⟩
  have HN1 : Hid (1 ≤ n ∧ n ≤ 40 ∧ 0 ≤ turn) := by constructor <;> omega
  have g1 : decide ((n : Int) < 1) = false := decide_eq_false h1
  have g2 : decide ((40 : Int) < n) = false := decide_eq_false h2
  have g3 : decide (turn < 0) = false := decide_eq_false h3
  go_wp2_with fail
  clear g1 g2 g3 h1 h2 h3
  refine (s_new (OObjs.nil (Below.refl _ w2))).mono ?_
  rintro e w3 ⟨ga, L3, rfl, h3, -⟩
  have H3 : Hid (OObjs w2 w3 ([] ++ [⟨ga, 0, L3, C.Os.zero⟩])) := h3
  clear h3
  go_wp2_with fail
  refine (s_new H3.out).mono ?_
  rintro e w4 ⟨gb, L4, rfl, h4, -⟩
  have H4 : Hid (OObjs w2 w4 ([] ++ ⟨ga, 0, L3, C.Os.zero⟩ :: [⟨gb, 0, L4, C.Os.zero⟩])) := h4
  clear h4 H3
  go_wp2_with fail
  go_loopw [7] (fun s7 wr => ∃ (i : Nat), s7 = .int .i64 i ∧ i ≤ n ∧ Hid (∀ i', i' < i → ∀ k, k < i' → C.NoC l i' k) ∧ Hid (OObjs w2 wr ([] ++ ⟨ga, 0, L3, C.Os.zero⟩ :: [⟨gb, 0, L4, C.Os.zero⟩]))) (fun s7 _ => n - (intOf s7).toNat)
  case atStart => exact ⟨0, rfl, Nat.zero_le _, (fun i' h => absurd h (Nat.not_lt_zero _)), H4.out⟩
  case round =>
    clear H4
    obtain ⟨i, rfl, hin, HI, HO⟩ := hrel
    by_cases hlt : i < n
    · go_wp2_with fail
      go_loopw [8] (fun s8 wr => ∃ (k : Nat), s8 = .int .i64 k ∧ k ≤ i ∧ Hid (∀ k', k' < k → C.NoC l i k') ∧ Hid (OObjs w2 wr ([] ++ ⟨ga, 0, L3, C.Os.zero⟩ :: [⟨gb, 0, L4, C.Os.zero⟩]))) (fun s8 _ => i - (intOf s8).toNat)
      case atStart => exact ⟨0, rfl, Nat.zero_le _, (fun i' h => absurd h (Nat.not_lt_zero _)), HO.out⟩
      case round =>
        clear HO
        obtain ⟨k, rfl, hki, HKN, HO⟩ := hrel
        by_cases hltk : k < i
        · obtain ⟨a, hia⟩ : ∃ a, l[i]? = some a := ⟨_, List.getElem?_eq_getElem (by have := HN.out; omega)⟩
          obtain ⟨a2, hka⟩ : ∃ a2, l[k]? = some a2 := ⟨_, List.getElem?_eq_getElem (by have := HN.out; omega)⟩
          obtain ⟨b, o, rfl, hat⟩ := HA.out.at hia
          obtain ⟨b', o', hbe, hat2⟩ := HA.out.at hka
          cases hbe
          have HIA : Hid (l[i]? = some a) := hia
          have HKA : Hid (l[k]? = some a2) := hka
          have HATI : Hid (∀ W, Below w2.heap.size w2 W → AtO a b (o + i * 11) W) := fun W hW => hat.below (bt HB2.out hW)
          have HATK : Hid (∀ W, Below w2.heap.size w2 W → AtO a2 b (o + k * 11) W) := fun W hW => hat2.below (bt HB2.out hW)
          clear hat hat2 hia hka
          obtain ⟨op, ⟨d1, d2⟩, x, ⟨v0, v1, v2, v3, v4, v5, v6⟩⟩ := a
          obtain ⟨qp, ⟨e1, e2⟩, y, ⟨u0, u1, u2, u3, u4, u5, u6⟩⟩ := a2
          have hF : ∀ t : NewW wr, _ := fun t => (HATI.out t.v (bt HO.out.bel t.h)).cells
          have hG : ∀ t : NewW wr, _ := fun t => (HATK.out t.v (bt HO.out.bel t.h)).cells
          have z0 := fun t => (hF t).1
          have z1 := fun t => (hF t).2.1
          have z2 := fun t => (hF t).2.2.1
          have z3 := fun t => (hF t).2.2.2.1
          have y0 := fun t => (hG t).1
          have y1 := fun t => (hG t).2.1
          have y2 := fun t => (hG t).2.2.1
          have y3 := fun t => (hG t).2.2.2.1
          have hne : Nonempty (NewW wr) := ⟨NewW.start wr⟩
          clear hF hG
          obtain ⟨qb, hqb⟩ : ∃ qb, qb = (d1 == e1 && d2 == e2) := ⟨_, rfl⟩
          have kq : ∀ W, (Op.equalIn 10000 31 (.agg #[.int .i64 d1, .int .i64 d2]) (.agg #[.int .i64 e1, .int .i64 e2])).run Try.prog W = .ok qb W := fun W => by rw [hqb]; exact eq2_dot d1 d2 e1 e2 W
          have HQB : Hid (qb = true ↔ d1 = e1 ∧ d2 = e2) := by show _ ↔ _; rw [hqb]; simp
          obtain ⟨zs, hzs⟩ : ∃ zs, (x.toList == y.toList) = zs := ⟨_, rfl⟩
          have HZS : Hid (zs = true ↔ x = y) := by show _ ↔ _; rw [← hzs, tx_dec]; simp
          clear hqb
          by_cases hop : op = 0
          · subst hop
            by_cases hqp : qp = 0
            · subst hqp
              cases qb with
              | false =>
                go_wp2_with fail
                refine wp_region_new (by kernel_rfl) (by kernel_rfl) ?_
                repeat (go_big_quiet_step (fail))
                refine wpQuiet_nil ?_
                rintro _ ⟨w6, rfl⟩
                have H6 : Hid (OObjs w2 w6.v ([] ++ ⟨ga, 0, L3, C.Os.zero⟩ :: [⟨gb, 0, L4, C.Os.zero⟩])) := HO.out.below w6.h
                clear z0 z1 z2 z3 y0 y1 y2 y3 hne kq hzs
                have HNC : Hid (C.NoC l i k) := fun a b ha hb => by
                  rw [HIA.out] at ha
                  rw [HKA.out] at hb
                  cases ha
                  cases hb
                  exact fun hh => by have := HQB.out.2 ⟨congrArg Prod.fst hh.2.2.1, congrArg Prod.snd hh.2.2.1⟩; cases this
                go_wp2
                go_roundw
                case rel => exact ⟨k + 1, by go_num, by omega, (fun k' hk' => by
                    by_cases e : k' = k
                    · rw [e]; exact HNC.out
                    · exact HKN.out k' (by omega)), H6.out⟩
                case measure => simp [intOf]; omega
              | true =>
                cases zs with
                | true =>
                  go_wp2_with fail
                  refine wp_region_new (by kernel_rfl) (by kernel_rfl) ?_
                  repeat (go_big_quiet_step (fail))
                  refine wpQuiet_nil ?_
                  rintro _ ⟨w6, rfl⟩
                  have H6 : Hid (OObjs w2 w6.v ([] ++ ⟨ga, 0, L3, C.Os.zero⟩ :: [⟨gb, 0, L4, C.Os.zero⟩])) := HO.out.below w6.h
                  clear z0 z1 z2 z3 y0 y1 y2 y3 hne kq hzs
                  have HNC : Hid (C.NoC l i k) := fun a b ha hb => by
                    rw [HIA.out] at ha
                    rw [HKA.out] at hb
                    cases ha
                    cases hb
                    exact fun hh => hh.2.2.2 (HZS.out.1 (by trivial))
                  go_wp2
                  go_roundw
                  case rel => exact ⟨k + 1, by go_num, by omega, (fun k' hk' => by
                      by_cases e : k' = k
                      · rw [e]; exact HNC.out
                      · exact HKN.out k' (by omega)), H6.out⟩
                  case measure => simp [intOf]; omega
                | false =>
                  go_wp2_with fail
                  refine wp_region_new (by kernel_rfl) (by kernel_rfl) ?_
                  repeat (go_big_quiet_step (fail))
                  refine wpQuiet_nil ?_
                  rintro _ ⟨w6, rfl⟩
                  have H6 : Hid (OObjs w2 w6.v ([] ++ ⟨ga, 0, L3, C.Os.zero⟩ :: [⟨gb, 0, L4, C.Os.zero⟩])) := HO.out.below w6.h
                  clear z0 z1 z2 z3 y0 y1 y2 y3 hne kq hzs
                  go_wp2
                  go_ret
                  exact ⟨rfl, bt HB2.out H6.out.bel⟩
            · have hqpb : (qp == 0) = false := by simpa using hqp
              go_wp2_with fail
              refine wp_region_new (by kernel_rfl) (by kernel_rfl) ?_
              repeat (go_big_quiet_step (fail))
              refine wpQuiet_nil ?_
              rintro _ ⟨w6, rfl⟩
              have H6 : Hid (OObjs w2 w6.v ([] ++ ⟨ga, 0, L3, C.Os.zero⟩ :: [⟨gb, 0, L4, C.Os.zero⟩])) := HO.out.below w6.h
              clear z0 z1 z2 z3 y0 y1 y2 y3 hne kq hzs
              have HNC : Hid (C.NoC l i k) := fun a b ha hb => by
                rw [HIA.out] at ha
                rw [HKA.out] at hb
                cases ha
                cases hb
                exact fun hh => hqp hh.2.1
              go_wp2
              go_roundw
              case rel => exact ⟨k + 1, by go_num, by omega, (fun k' hk' => by
                  by_cases e : k' = k
                  · rw [e]; exact HNC.out
                  · exact HKN.out k' (by omega)), H6.out⟩
              case measure => simp [intOf]; omega
          · have hopb : (op == 0) = false := by simpa using hop
            go_wp2_with fail
            refine wp_region_new (by kernel_rfl) (by kernel_rfl) ?_
            repeat (go_big_quiet_step (fail))
            refine wpQuiet_nil ?_
            rintro _ ⟨w6, rfl⟩
            have H6 : Hid (OObjs w2 w6.v ([] ++ ⟨ga, 0, L3, C.Os.zero⟩ :: [⟨gb, 0, L4, C.Os.zero⟩])) := HO.out.below w6.h
            clear z0 z1 z2 z3 y0 y1 y2 y3 hne kq hzs
            have HNC : Hid (C.NoC l i k) := fun a b ha hb => by
              rw [HIA.out] at ha
              rw [HKA.out] at hb
              cases ha
              cases hb
              exact fun hh => hop hh.1
            go_wp2
            go_roundw
            case rel => exact ⟨k + 1, by go_num, by omega, (fun k' hk' => by
                by_cases e : k' = k
                · rw [e]; exact HNC.out
                · exact HKN.out k' (by omega)), H6.out⟩
            case measure => simp [intOf]; omega
        · obtain rfl : k = i := by omega
          go_wp2
          go_roundw
          case rel => exact ⟨k + 1, by go_num, by omega, (fun i' hi' => by
            by_cases e : i' = k
            · rw [e]; exact HKN.out
            · exact HI.out i' (by omega)), HO.out⟩
          case measure => simp [intOf]; omega
    · obtain rfl : i = n := by omega
      have HCO : Hid (C.ConsO fun z => z ∈ l) := C.cons_of HN.out HI.out
      clear HI hin hlt hla
      obtain ⟨t, ht⟩ : ∃ t : Nat, t = turn.toNat % i := ⟨_, rfl⟩
      have HT : Hid (turn.tmod (i : Int) = (t : Int) ∧ t < i) := by
        obtain ⟨p1, p2, p3⟩ := HN1.out
        rw [ht]
        refine ⟨?_, Nat.mod_lt _ (by omega)⟩
        obtain ⟨q, hq⟩ := Int.eq_ofNat_of_zero_le p3
        rw [hq, Int.ofNat_tmod]
        rfl
      have HMOD : Hid (∀ j : Nat, ((j : Int) + (t : Int)).tmod (i : Int) = (((j + t) % i : Nat) : Int)) := fun j => by
        rw [show (j : Int) + (t : Int) = ((j + t : Nat) : Int) from by omega, Int.ofNat_tmod]
      clear ht
      go_wp2_with fail
      go_loopw [9] (fun s9 wr => ∃ (j ma mb : Nat) (La Lb : OLay) (Sa Sb : C.Os), s9 = .int .i64 j ∧ j ≤ i ∧ ma ≤ 2 * j ∧ mb ≤ 4 * j ∧ Hid (OObjs w2 wr ([] ++ ⟨ga, ma, La, Sa⟩ :: [⟨gb, mb, Lb, Sb⟩])) ∧ Hid (C.Tidy Sa j) ∧ Hid (C.Tidy Sb (2 * j)) ∧ Hid (C.InvO Sa fun z => z ∈ l.take j) ∧ Hid (C.InvO Sb fun z => ∃ j', j' < j ∧ l[(j' + t) % i]? = some z)) (fun s9 _ => i - (intOf s9).toNat)
      case atStart => exact ⟨0, 0, 0, L3, L4, _, _, rfl, Nat.zero_le _, Nat.zero_le _, Nat.zero_le _, HO.out, C.zero_tidy, C.zero_tidy, C.InvO.zero fun a h => by simp at h, C.InvO.zero fun a ⟨j', h, _⟩ => absurd h (Nat.not_lt_zero _)⟩
      case round =>
        clear HO
        obtain ⟨j, ma, mb, La, Lb, Sa, Sb, rfl, hji, hma, hmb, HO, HTA, HTB, HIA, HIB⟩ := hrel
        by_cases hltj : j < i
        · obtain ⟨a, hja⟩ : ∃ a, l[j]? = some a := ⟨_, List.getElem?_eq_getElem (by have := HN.out; omega)⟩
          obtain ⟨jm, hjm⟩ : ∃ jm, jm = (j + t) % i := ⟨_, rfl⟩
          have hjl : jm < i := by rw [hjm]; exact Nat.mod_lt _ (by omega)
          obtain ⟨a2, hka⟩ : ∃ a2, l[jm]? = some a2 := ⟨_, List.getElem?_eq_getElem (by have := HN.out; omega)⟩
          obtain ⟨b, o, rfl, hat⟩ := HA.out.at hja
          obtain ⟨b', o', hbe, hat2⟩ := HA.out.at hka
          cases hbe
          have HAJ : Hid (l[j]? = some a) := hja
          have HAK : Hid (l[(j + t) % i]? = some a2) := by rw [← hjm]; exact hka
          have HXA : Hid (a.x.size ≤ maxLen) := HXL.out a (List.mem_of_getElem? hja)
          have HXB : Hid (a2.x.size ≤ maxLen) := HXL.out a2 (List.mem_of_getElem? hka)
          have HATI : Hid (∀ W, Below w2.heap.size w2 W → AtO a b (o + j * 11) W) := fun W hW => hat.below (bt HB2.out hW)
          have HATK : Hid (∀ W, Below w2.heap.size w2 W → AtO a2 b (o + jm * 11) W) := fun W hW => hat2.below (bt HB2.out hW)
          have hm0 : 0 ≤ turn := HN1.out.2.2
          have hm1 : turn % (i : Int) = (t : Int) := by rw [← HT.out.1, Int.tmod_eq_emod_of_nonneg hm0]
          have hm2 : ((j : Int) + (t : Int)) % (i : Int) = (jm : Int) := by rw [hjm, ← HMOD.out j, Int.tmod_eq_emod_of_nonneg (by omega)]
          have hm3 : 0 ≤ (j : Int) + (t : Int) := by omega
          have hi0 : ¬ i = 0 := by omega
          have hi1 : ¬ (i : Int) = 0 := by omega
          have hid1 : Op.intDiv .rem .i64 turn (i : Int) = pure (.int .i64 (t : Int)) := by
            unfold Op.intDiv
            rw [if_neg hi1, HT.out.1]
          have hid2 : Op.intDiv .rem .i64 ((j : Int) + (t : Int)) (i : Int) = pure (.int .i64 (jm : Int)) := by
            unfold Op.intDiv
            rw [if_neg hi1, HMOD.out j, hjm]
          have ht40 : t < i ∧ i ≤ 40 := ⟨HT.out.2, HN1.out.2.1⟩
          clear hat hat2 hja hka hjm
          obtain ⟨op, ⟨d1, d2⟩, x, ⟨v0, v1, v2, v3, v4, v5, v6⟩⟩ := a
          obtain ⟨qp, ⟨e1, e2⟩, y, ⟨p0, p1, p2, p3, p4, p5, p6⟩⟩ := a2
          have HQ1 : Hid (∀ w', Below wr.heap.size wr w' → _) := fun w' hb => (HATI.out w' (bt HO.out.bel hb)).cells
          have HQ2 : Hid (∀ w', Below wr.heap.size wr w' → _) := fun w' hb => (HATK.out w' (bt HO.out.bel hb)).cells
          go_wp2_with fail
          go_cut [10, 11] from 79 to 136 (fun r10 r11 wx => ∃ g1 g2, r10 = .pointer (some ⟨g1, 0, none⟩) ∧ r11 = .pointer (some ⟨g2, 0, none⟩) ∧ Below wr.heap.size wr wx ∧ wr.heap.size ≤ g1 ∧ wr.heap.size ≤ g2 ∧ wx.heap[g1]? = some (.cells #[.int .i64 op, .int .i64 d1, .int .i64 d2, .string x, .int .i64 v0, .int .i64 v1, .int .i64 v2, .int .i64 v3, .int .i64 v4, .int .i64 v5, .int .i64 v6] 42) ∧ wx.heap[g2]? = some (.cells #[.int .i64 qp, .int .i64 e1, .int .i64 e2, .string y, .int .i64 p0, .int .i64 p1, .int .i64 p2, .int .i64 p3, .int .i64 p4, .int .i64 p5, .int .i64 p6] 42))
          case first =>
            obtain ⟨z0, z1, z2, z3, z4, z5, z6, z7, z8, z9, z10⟩ := HQ1.out wr (Below.refl _ _)
            obtain ⟨y0, y1, y2, y3, y4, y5, y6, y7, y8, y9, y10⟩ := HQ2.out wr (Below.refl _ _)
            have hblk := World.block_lt_of_cell? _ _ z0
            simp only at hblk
            go_region
            all_goals
              go_wp2_with fail
              go_meet
            all_goals
              refine ⟨_, _, rfl, rfl, ?_, by first | (exact Nat.le_refl _) | (simp), by first | (exact Nat.le_refl _) | (simp), ?_, ?_⟩
              · (repeat' (first | (with_reducible refine bA9 ?_) | (with_reducible refine Below.drew ?_) | (with_reducible exact Below.refl _ _) | (with_reducible refine bS9 ?_ (by simp <;> omega))))
              all_goals
                simp only [heap_of_drew9, heap_of_alloc9, size_of_alloc9]
                repeat' split
                all_goals first | rfl | (exfalso; omega) | exact absurd trivial ‹¬True›
          case rest =>
            obtain ⟨g1, g2, rfl, rfl, hbx, hg1, hg2, q1, q2⟩ := hcut
            have H0 : Hid (OObjs w2 wc ([] ++ ⟨ga, ma, La, Sa⟩ :: [⟨gb, mb, Lb, Sb⟩])) := HO.out.below hbx
            have HC1 : Hid (AtO ⟨op, (d1, d2), x, ⟨v0, v1, v2, v3, v4, v5, v6⟩⟩ g1 0 wc) := AtO.boxed q1
            have HC2 : Hid (AtO ⟨qp, (e1, e2), y, ⟨p0, p1, p2, p3, p4, p5, p6⟩⟩ g2 0 wc) := AtO.boxed q2
            have HF2 : Hid (OFree ([] ++ ⟨ga, ma, La, Sa⟩ :: [⟨gb, mb, Lb, Sb⟩]) g2) := free_new HO.out hg2
            have HL2 : Hid (g2 < wc.heap.size) := (Array.getElem?_eq_some_iff.1 q2).1
            have HSA : Hid (C.InvO (C.stepO Sa ⟨op, (d1, d2), x, ⟨v0, v1, v2, v3, v4, v5, v6⟩⟩) fun z => z ∈ l.take (j + 1)) := HIA.out.step (fun z => by rw [List.take_add_one, HAJ.out]; simp) fun a b ha hb => HCO.out a b (List.mem_of_mem_take ha) (List.mem_of_mem_take hb)
            have hM1 : ∀ z, (∃ j', j' < j + 1 ∧ l[(j' + t) % i]? = some z) ↔ (∃ j', j' < j ∧ l[(j' + t) % i]? = some z) ∨ z = ⟨qp, (e1, e2), y, ⟨p0, p1, p2, p3, p4, p5, p6⟩⟩ := fun z => by
              constructor
              · rintro ⟨j', h1, h2⟩
                by_cases e : j' = j
                · subst e
                  rw [HAK.out] at h2
                  cases h2
                  exact Or.inr rfl
                · exact Or.inl ⟨j', by omega, h2⟩
              · rintro (⟨j', h1, h2⟩ | rfl)
                · exact ⟨j', by omega, h2⟩
                · exact ⟨j, by omega, HAK.out⟩
            have hcb : C.ConsO fun z => ∃ j', j' < j + 1 ∧ l[(j' + t) % i]? = some z := fun a b ⟨_, _, ha⟩ ⟨_, _, hb⟩ => HCO.out a b (List.mem_of_getElem? ha) (List.mem_of_getElem? hb)
            have hSB := HIB.out.step hM1 hcb
            have HSB1 : Hid (C.InvO (C.stepO Sb ⟨qp, (e1, e2), y, ⟨p0, p1, p2, p3, p4, p5, p6⟩⟩) fun z => ∃ j', j' < j + 1 ∧ l[(j' + t) % i]? = some z) := hSB
            have HSB2 : Hid (C.InvO (C.stepO (C.stepO Sb ⟨qp, (e1, e2), y, ⟨p0, p1, p2, p3, p4, p5, p6⟩⟩) ⟨qp, (e1, e2), y, ⟨p0, p1, p2, p3, p4, p5, p6⟩⟩) fun z => ∃ j', j' < j + 1 ∧ l[(j' + t) % i]? = some z) := hSB.step (fun z => ⟨Or.inl, fun h => h.elim id fun e => ⟨j, by omega, by rw [e]; exact HAK.out⟩⟩) hcb
            have HTA1 : Hid (C.Tidy (C.stepO Sa ⟨op, (d1, d2), x, ⟨v0, v1, v2, v3, v4, v5, v6⟩⟩) (j + 1)) := C.stepO_tidy HTA.out _
            have HTB1 : Hid (C.Tidy (C.stepO Sb ⟨qp, (e1, e2), y, ⟨p0, p1, p2, p3, p4, p5, p6⟩⟩) (2 * j + 1)) := C.stepO_tidy HTB.out _
            have HTB2 : Hid (C.Tidy (C.stepO (C.stepO Sb ⟨qp, (e1, e2), y, ⟨p0, p1, p2, p3, p4, p5, p6⟩⟩) ⟨qp, (e1, e2), y, ⟨p0, p1, p2, p3, p4, p5, p6⟩⟩) (2 * j + 1 + 1)) := C.stepO_tidy HTB1.out _
            have HFA : Hid (C.Few Sa 100000) := C.few_mono HTA.out.few (by omega)
            have HFB : Hid (C.Few Sb 100000) := C.few_mono HTB.out.few (by omega)
            have HFB1 : Hid (C.Few (C.stepO Sb ⟨qp, (e1, e2), y, ⟨p0, p1, p2, p3, p4, p5, p6⟩⟩) 100000) := C.few_mono HTB1.out.few (by omega)
            have HMA : Hid (ma ≤ 1000 ∧ mb + 2 ≤ 1000) := by show _ ∧ _; omega
            clear hbx hg1 hg2 q1 q2 hM1 hcb hSB HQ1 HQ2 HATI HATK HO hm0 hm1 hm2 hm3 hi0 hi1 hid1 hid2
            obtain ⟨c0, c1, c2, c3, c4, c5, c6, c7, c8, c9, c10⟩ := HC1.out.cells
            simp only [Nat.zero_add] at c0 c1 c2 c3 c4 c5 c6 c7 c8 c9 c10
            by_cases hop : op = 0
            · subst hop
              have ee : C.stepO Sa ⟨0, (d1, d2), x, ⟨v0, v1, v2, v3, v4, v5, v6⟩⟩ = C.addO Sa (d1, d2) x := if_pos rfl
              rw [ee] at HSA HTA1
              clear ee
              go_wp2_with fail
              refine (k_add [] [⟨gb, mb, Lb, Sb⟩] ga ma La Sa x d1 d2 H0.out (HK.out _ HMA.out.1) HXA.out HFA.out).mono ?_
              rintro e w5 ⟨er5, rfl, La5, h5, hk5⟩
              have H5 : Hid (OObjs w2 w5 ([⟨ga, ma + 2, La5, C.addO Sa (d1, d2) x⟩] ++ ⟨gb, mb, Lb, Sb⟩ :: [])) := h5
              obtain ⟨hc5, hf5, hl5⟩ := hk5.act HL2.out HF2.out HC2.out
              have HC5 : Hid (AtO ⟨qp, (e1, e2), y, ⟨p0, p1, p2, p3, p4, p5, p6⟩⟩ g2 0 w5) := hc5
              have HF5 : Hid (OFree ([⟨ga, ma + 2, La5, C.addO Sa (d1, d2) x⟩] ++ ⟨gb, mb, Lb, Sb⟩ :: []) g2) := hf5
              have HL5 : Hid (g2 < w5.heap.size) := hl5
              clear h5 hk5 hc5 hf5 hl5 c0 c1 c2 c3 c4 c5 c6 c7 c8 c9 c10 H0 HC1 HC2 HF2 HL2
              obtain ⟨c0, c1, c2, c3, c4, c5, c6, c7, c8, c9, c10⟩ := HC5.out.cells
              simp only [Nat.zero_add] at c0 c1 c2 c3 c4 c5 c6 c7 c8 c9 c10
              by_cases hqp : qp = 0
              · subst hqp
                have ee : C.stepO Sb ⟨0, (e1, e2), y, ⟨p0, p1, p2, p3, p4, p5, p6⟩⟩ = C.addO Sb (e1, e2) y := if_pos rfl
                have ee2 : C.stepO (C.addO Sb (e1, e2) y) ⟨0, (e1, e2), y, ⟨p0, p1, p2, p3, p4, p5, p6⟩⟩ = C.addO (C.addO Sb (e1, e2) y) (e1, e2) y := if_pos rfl
                rw [ee, ee2] at HSB2 HTB2
                rw [ee] at HFB1
                clear ee ee2
                go_wp2_with fail
                refine (k_add [⟨ga, ma + 2, La5, C.addO Sa (d1, d2) x⟩] [] gb mb Lb Sb y e1 e2 H5.out (HK.out _ (by have := HMA.out; omega)) HXB.out HFB.out).mono ?_
                rintro e w6 ⟨er6, rfl, Lb6, h6, hk6⟩
                obtain ⟨hc6, -, -⟩ := hk6.act HL5.out HF5.out HC5.out
                have H6 : Hid (OObjs w2 w6 ([⟨ga, ma + 2, La5, C.addO Sa (d1, d2) x⟩] ++ ⟨gb, mb + 2, Lb6, C.addO Sb (e1, e2) y⟩ :: [])) := h6
                clear h6 hk6 c0 c1 c2 c3 c4 c5 c6 c7 c8 c9 c10
                obtain ⟨c0, c1, c2, c3, c4, c5, c6, c7, c8, c9, c10⟩ := hc6.cells
                simp only [Nat.zero_add] at c0 c1 c2 c3 c4 c5 c6 c7 c8 c9 c10
                clear hc6
                go_wp2_with fail
                refine (k_add [⟨ga, ma + 2, La5, C.addO Sa (d1, d2) x⟩] [] gb (mb + 2) Lb6 _ y e1 e2 H6.out (HK.out _ HMA.out.2) HXB.out HFB1.out).mono ?_
                rintro e w7 ⟨er7, rfl, Lb7, h7, -⟩
                have H7 : Hid (OObjs w2 w7 ([] ++ ⟨ga, ma + 2, La5, C.addO Sa (d1, d2) x⟩ :: [⟨gb, mb + 2 + 2, Lb7, C.addO (C.addO Sb (e1, e2) y) (e1, e2) y⟩])) := h7
                clear h7 H6 H5 c0 c1 c2 c3 c4 c5 c6 c7 c8 c9 c10
                go_wp2
                go_roundw
                case rel => exact ⟨j + 1, ma + 2, mb + 2 + 2, La5, Lb7, _, _, by go_num, by omega, by omega, by omega, H7.out, HTA1.out, HTB2.out, HSA.out, HSB2.out⟩
                case measure => simp [intOf]; omega
              · have hqpb : (qp == 0) = false := by simpa using hqp
                have ee : C.stepO Sb ⟨qp, (e1, e2), y, ⟨p0, p1, p2, p3, p4, p5, p6⟩⟩ = C.remO Sb y ⟨p0, p1, p2, p3, p4, p5, p6⟩ := if_neg hqp
                rw [ee] at HSB1 HTB1
                clear ee
                go_wp2_with fail
                refine (k_rem [⟨ga, ma + 2, La5, C.addO Sa (d1, d2) x⟩] [] gb mb Lb Sb y ⟨p0, p1, p2, p3, p4, p5, p6⟩ H5.out (HK.out _ (by have := HMA.out; omega)) HXB.out HFB.out).mono ?_
                rintro e w7 ⟨er7, rfl, Lb7, h7, -⟩
                have H7 : Hid (OObjs w2 w7 ([] ++ ⟨ga, ma + 2, La5, C.addO Sa (d1, d2) x⟩ :: [⟨gb, mb + 2, Lb7, C.remO Sb y ⟨p0, p1, p2, p3, p4, p5, p6⟩⟩])) := h7
                clear h7 H5 c0 c1 c2 c3 c4 c5 c6 c7 c8 c9 c10
                go_wp2
                go_roundw
                case rel => exact ⟨j + 1, ma + 2, mb + 2, La5, Lb7, _, _, by go_num, by omega, by omega, by omega, H7.out, HTA1.out, HTB1.out.mono (by omega), HSA.out, HSB1.out⟩
                case measure => simp [intOf]; omega
            · have hopb : (op == 0) = false := by simpa using hop
              have ee : C.stepO Sa ⟨op, (d1, d2), x, ⟨v0, v1, v2, v3, v4, v5, v6⟩⟩ = C.remO Sa x ⟨v0, v1, v2, v3, v4, v5, v6⟩ := if_neg hop
              rw [ee] at HSA HTA1
              clear ee
              go_wp2_with fail
              refine (k_rem [] [⟨gb, mb, Lb, Sb⟩] ga ma La Sa x ⟨v0, v1, v2, v3, v4, v5, v6⟩ H0.out (HK.out _ HMA.out.1) HXA.out HFA.out).mono ?_
              rintro e w5 ⟨er5, rfl, La5, h5, hk5⟩
              have H5 : Hid (OObjs w2 w5 ([⟨ga, ma + 2, La5, C.remO Sa x ⟨v0, v1, v2, v3, v4, v5, v6⟩⟩] ++ ⟨gb, mb, Lb, Sb⟩ :: [])) := h5
              obtain ⟨hc5, hf5, hl5⟩ := hk5.act HL2.out HF2.out HC2.out
              have HC5 : Hid (AtO ⟨qp, (e1, e2), y, ⟨p0, p1, p2, p3, p4, p5, p6⟩⟩ g2 0 w5) := hc5
              have HF5 : Hid (OFree ([⟨ga, ma + 2, La5, C.remO Sa x ⟨v0, v1, v2, v3, v4, v5, v6⟩⟩] ++ ⟨gb, mb, Lb, Sb⟩ :: []) g2) := hf5
              have HL5 : Hid (g2 < w5.heap.size) := hl5
              clear h5 hk5 hc5 hf5 hl5 c0 c1 c2 c3 c4 c5 c6 c7 c8 c9 c10 H0 HC1 HC2 HF2 HL2
              obtain ⟨c0, c1, c2, c3, c4, c5, c6, c7, c8, c9, c10⟩ := HC5.out.cells
              simp only [Nat.zero_add] at c0 c1 c2 c3 c4 c5 c6 c7 c8 c9 c10
              by_cases hqp : qp = 0
              · subst hqp
                have ee : C.stepO Sb ⟨0, (e1, e2), y, ⟨p0, p1, p2, p3, p4, p5, p6⟩⟩ = C.addO Sb (e1, e2) y := if_pos rfl
                have ee2 : C.stepO (C.addO Sb (e1, e2) y) ⟨0, (e1, e2), y, ⟨p0, p1, p2, p3, p4, p5, p6⟩⟩ = C.addO (C.addO Sb (e1, e2) y) (e1, e2) y := if_pos rfl
                rw [ee, ee2] at HSB2 HTB2
                rw [ee] at HFB1
                clear ee ee2
                go_wp2_with fail
                refine (k_add [⟨ga, ma + 2, La5, C.remO Sa x ⟨v0, v1, v2, v3, v4, v5, v6⟩⟩] [] gb mb Lb Sb y e1 e2 H5.out (HK.out _ (by have := HMA.out; omega)) HXB.out HFB.out).mono ?_
                rintro e w6 ⟨er6, rfl, Lb6, h6, hk6⟩
                obtain ⟨hc6, -, -⟩ := hk6.act HL5.out HF5.out HC5.out
                have H6 : Hid (OObjs w2 w6 ([⟨ga, ma + 2, La5, C.remO Sa x ⟨v0, v1, v2, v3, v4, v5, v6⟩⟩] ++ ⟨gb, mb + 2, Lb6, C.addO Sb (e1, e2) y⟩ :: [])) := h6
                clear h6 hk6 c0 c1 c2 c3 c4 c5 c6 c7 c8 c9 c10
                obtain ⟨c0, c1, c2, c3, c4, c5, c6, c7, c8, c9, c10⟩ := hc6.cells
                simp only [Nat.zero_add] at c0 c1 c2 c3 c4 c5 c6 c7 c8 c9 c10
                clear hc6
                go_wp2_with fail
                refine (k_add [⟨ga, ma + 2, La5, C.remO Sa x ⟨v0, v1, v2, v3, v4, v5, v6⟩⟩] [] gb (mb + 2) Lb6 _ y e1 e2 H6.out (HK.out _ HMA.out.2) HXB.out HFB1.out).mono ?_
                rintro e w7 ⟨er7, rfl, Lb7, h7, -⟩
                have H7 : Hid (OObjs w2 w7 ([] ++ ⟨ga, ma + 2, La5, C.remO Sa x ⟨v0, v1, v2, v3, v4, v5, v6⟩⟩ :: [⟨gb, mb + 2 + 2, Lb7, C.addO (C.addO Sb (e1, e2) y) (e1, e2) y⟩])) := h7
                clear h7 H6 H5 c0 c1 c2 c3 c4 c5 c6 c7 c8 c9 c10
                go_wp2
                go_roundw
                case rel => exact ⟨j + 1, ma + 2, mb + 2 + 2, La5, Lb7, _, _, by go_num, by omega, by omega, by omega, H7.out, HTA1.out, HTB2.out, HSA.out, HSB2.out⟩
                case measure => simp [intOf]; omega
              · have hqpb : (qp == 0) = false := by simpa using hqp
                have ee : C.stepO Sb ⟨qp, (e1, e2), y, ⟨p0, p1, p2, p3, p4, p5, p6⟩⟩ = C.remO Sb y ⟨p0, p1, p2, p3, p4, p5, p6⟩ := if_neg hqp
                rw [ee] at HSB1 HTB1
                clear ee
                go_wp2_with fail
                refine (k_rem [⟨ga, ma + 2, La5, C.remO Sa x ⟨v0, v1, v2, v3, v4, v5, v6⟩⟩] [] gb mb Lb Sb y ⟨p0, p1, p2, p3, p4, p5, p6⟩ H5.out (HK.out _ (by have := HMA.out; omega)) HXB.out HFB.out).mono ?_
                rintro e w7 ⟨er7, rfl, Lb7, h7, -⟩
                have H7 : Hid (OObjs w2 w7 ([] ++ ⟨ga, ma + 2, La5, C.remO Sa x ⟨v0, v1, v2, v3, v4, v5, v6⟩⟩ :: [⟨gb, mb + 2, Lb7, C.remO Sb y ⟨p0, p1, p2, p3, p4, p5, p6⟩⟩])) := h7
                clear h7 H5 c0 c1 c2 c3 c4 c5 c6 c7 c8 c9 c10
                go_wp2
                go_roundw
                case rel => exact ⟨j + 1, ma + 2, mb + 2, La5, Lb7, _, _, by go_num, by omega, by omega, by omega, H7.out, HTA1.out, HTB1.out.mono (by omega), HSA.out, HSB1.out⟩
                case measure => simp [intOf]; omega
        · obtain rfl : j = i := by omega
          have hth : Sa.th = Sb.th := C.InvO.th HIA.out HIB.out fun z => rot_all HN.out HT.out.2 z
          have HSM : Hid (∀ x : Tx, x.size ≤ maxLen → Sa.th x = Sb.th x) := fun x _ => by rw [hth]
          have HTH : Hid (Sa.th = Sb.th) := hth
          have HM : Hid (j ≤ 40 ∧ ma ≤ 1000 ∧ mb ≤ 1000) := by have := HN1.out; show _ ∧ _ ∧ _; omega
          clear hth HIA HIB
          go_wp2_with fail
          have hne : Nonempty (NewW wr) := ⟨NewW.start wr⟩
          have hC : ∃ m : NewW wr, wr.drew = m.v := ⟨⟨wr.drew, (Below.refl _ wr).drew⟩, rfl⟩
          refine wp_region_held_drew (S := fun w' => ∃ m : NewW wr, w' = m.v) (by kernel_rfl) hC (fun _ => ?_)
          have hB : Below wr.heap.size wr wr.drew := (Below.refl _ wr).drew
          generalize hW0 : wr.drew = W0 at *
          clear hW0
          refine takeList (i := 0) rfl (by kernel_rfl) (by kernel_rfl) (by kernel_rfl) (fun _ _ _ _ h => h) rfl rfl hC (fun K hK => ?_)
          go_big_quiet_op
          refine hK _ ?_
          clear hK K
          refine takeList (i := 1) rfl (by kernel_rfl) (by kernel_rfl) (by kernel_rfl) (fun _ _ _ _ h => h) rfl rfl hC (fun K hK => ?_)
          go_big_quiet_op
          refine hK _ ?_
          clear hK K
          refine callList (i := 2) rfl (by kernel_rfl) rfl (fun K hK => ?_)
          go_simp
          refine (same9_any W0 ga gb ma mb La Lb Sa Sb ((HO.out.below hB).at_ ⟨ga, ma, La, Sa⟩ (by simp)).1 ((HO.out.below hB).at_ ⟨gb, mb, Lb, Sb⟩ (by simp)).1 true ⟨fun _ => HSM.out, fun _ => rfl⟩).mono ?_
          rintro e W1 ⟨rfl, hk⟩
          replace hB := bt hB hk
          refine hK.out _ _ ⟨⟨_, hB⟩, rfl⟩ ?_
          try go_simp
          clear hK K hC hk
          have hC : ∃ m : NewW wr, W1 = m.v := ⟨⟨_, hB⟩, rfl⟩
          refine takeList (i := 3) rfl (by kernel_rfl) (by kernel_rfl) (by kernel_rfl) (fun _ _ _ _ h => h) rfl rfl hC (fun K hK => ?_)
          go_big_quiet_op
          refine hK _ ?_
          clear hK K
          refine takeList (i := 4) rfl (by kernel_rfl) (by kernel_rfl) (by kernel_rfl) (fun _ _ _ _ h => h) rfl rfl hC (fun K hK => ?_)
          go_big_quiet_op
          refine hK _ ?_
          clear hK K
          refine takeList (i := 7) rfl (by kernel_rfl) (by kernel_rfl) (by kernel_rfl) (fun _ _ _ _ h => h) rfl rfl hC (fun K hK => ?_)
          go_big_quiet_op
          refine hK _ ?_
          clear hK K
          refine callList (i := 5) rfl (by kernel_rfl) rfl (fun K hK => ?_)
          go_simp
          refine (s_put [] [⟨gb, mb, Lb, Sb⟩] ga ma j La Sa (HO.out.below hB) HTA.out (by have := HM.out; omega) (by have := HM.out; omega)).mono ?_
          rintro e W2 ⟨⟨q5, n5, k5, ks5, rfl, hks5, -, hcw5⟩, hk⟩
          replace hB := bt hB hk
          refine hK.out _ _ ⟨⟨_, hB⟩, rfl⟩ ?_
          try go_simp
          clear hK K hC hk
          have hC : ∃ m : NewW wr, W2 = m.v := ⟨⟨_, hB⟩, rfl⟩
          have HB2r : Hid (Below wr.heap.size wr W2) := hB
          obtain ⟨st, hst⟩ : ∃ st : ByteArray, st = ⟨(C.putB Sa ks5).toArray⟩ := ⟨_, rfl⟩
          rw [← hst] at hcw5
          refine wpAnyH_strengthen (S' := fun w' => ∃ m : NewW W2, w' = m.v) (fun w' ⟨m, hm⟩ => ⟨⟨w', by rw [hm]; exact bt hB m.h⟩, rfl⟩) _ _ _ _ ?_
          clear hC hne
          have hC : ∃ m : NewW W2, W2 = m.v := ⟨⟨W2, Below.refl _ _⟩, rfl⟩
          have hne : Nonempty (NewW W2) := ⟨NewW.start W2⟩
          refine takeConv (i := 6) _ _ _ _ (.string st) rfl rfl rfl (by kernel_rfl) (by kernel_rfl) (by kernel_rfl) (fun _ _ _ _ h => h) rfl hC (fun w' ⟨m, hm⟩ => by rw [hm]; exact hcw5 _ m.h) ?_
          go_simp
          replace hB := Below.refl W2.heap.size W2
          refine callList (i := 8) rfl (by kernel_rfl) rfl (fun K hK => ?_)
          go_simp
          refine (s_put [⟨ga, ma, La, Sa⟩] [] gb mb (2 * j) Lb Sb (HO.out.below HB2r.out) HTB.out (by have := HM.out; omega) (by have := HM.out; omega)).mono ?_
          rintro e W3 ⟨⟨q8, n8, k8, ks8, rfl, hks8, -, hcw8⟩, hk⟩
          replace hB := bt hB hk
          refine hK.out _ _ ⟨⟨_, hB⟩, rfl⟩ ?_
          try go_simp
          clear hK K hC hk
          have hC : ∃ m : NewW W2, W3 = m.v := ⟨⟨_, hB⟩, rfl⟩
          rw [IsAll.uniq hks8 (C.all_th HTH.out hks5), ← C.put_th HTH.out ks5, ← hst] at hcw8
          refine wpAnyH_strengthen (S' := fun w' => ∃ m : NewW W3, w' = m.v) (fun w' ⟨m, hm⟩ => ⟨⟨w', by rw [hm]; exact bt hB m.h⟩, rfl⟩) _ _ _ _ ?_
          clear hC hne
          have hC : ∃ m : NewW W3, W3 = m.v := ⟨⟨W3, Below.refl _ _⟩, rfl⟩
          have hne : Nonempty (NewW W3) := ⟨NewW.start W3⟩
          refine takeConv (i := 9) _ _ _ _ (.string st) rfl rfl rfl (by kernel_rfl) (by kernel_rfl) (by kernel_rfl) (fun _ _ _ _ h => h) rfl hC (fun w' ⟨m, hm⟩ => by rw [hm]; exact hcw8 _ m.h) ?_
          go_simp
          refine takeList (i := 10) rfl (by kernel_rfl) (by kernel_rfl) (by kernel_rfl) (fun _ _ _ _ h => h) rfl rfl hC (fun K hK => ?_)
          go_big_quiet_op
          refine hK _ ?_
          clear hK K
          refine takeList (i := 11) rfl (by kernel_rfl) (by kernel_rfl) (by kernel_rfl) (fun _ _ _ _ h => h) rfl rfl hC (fun K hK => ?_)
          go_big_quiet_op
          refine hK _ ?_
          clear hK K
          refine takeList (i := 12) rfl (by kernel_rfl) (by kernel_rfl) (by kernel_rfl) (fun _ _ _ _ h => h) rfl rfl hC (fun K hK => ?_)
          go_big_quiet_op
          refine hK _ ?_
          clear hK K
          refine wpAnyH_done (by kernel_rfl) ?_ _
          have HBF : Hid (Below w.heap.size w W3) := bt HB2.out (bt HO.out.bel (bt HB2r.out hB))
          clear hC hne hcw5 hcw8 hks5 hks8 hB
          go_wp2
          go_ret
          exact ⟨by simp, HBF.out⟩
theorem order_all (pa : Option Addr) (l : List ActO) (ca : Nat) (turn : Int) (ht : (Lit.int .i64 turn).wf = true) (w : World) (ha : ArgO w pa l) (hxl : ∀ x ∈ l, x.x.size ≤ maxLen) (h1 : l.length ≤ ca) (h2 : ca ≤ maxLen) :
    Calls Try.prog 5 #[.slice pa l.length ca, .int .i64 turn] w fun e w' => e = .returned (.bool true) ∧ Below w.heap.size w w' :=
  order_walk pa l ca turn w ha (Nat.le_trans h1 h2) hxl (fits_wf ht)
end Go.Proofs.Ytoglhhoniojbaaa
