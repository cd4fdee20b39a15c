/-
  LastOrder: texts written in whatever order leave the same one.
-/
import Derived.Test.YtebfhomopdnkkaaEAwake
import Derived.Test.YtebfhomopdnkkaaEArg
import Derived.BigRegion
import Derived.Deep.CutRange
namespace Go.Proofs.Ytebfhomopdnkkaa
open Go.RowKit Go.Lib
set_option linter.unusedVariables false

namespace C
/-- Acts i and k are no two unlike ones of one time and dot. -/
def NoL (l : List La) (i k : Nat) : Prop := ∀ a b, l[i]? = some a → l[k]? = some b → eqL a b = true → a.x = b.x
theorem eqL_symm {a b : La} (h : eqL a b = true) : eqL b a = true := by
  rw [eqL_is] at *; exact ⟨h.1.symm, h.2.1.symm, h.2.2.symm⟩
theorem noL_of {l : List La} {n : Nat} (hn : n = l.length) (h : ∀ i, i < n → ∀ k, k < i → NoL l i k) : ∀ a b, a ∈ l → b ∈ l → eqL a b = true → a.x = b.x := by
  intro a b ha hb he
  obtain ⟨i, hi⟩ := List.getElem?_of_mem ha
  obtain ⟨k, hk⟩ := List.getElem?_of_mem hb
  have hil := (List.getElem?_eq_some_iff.1 hi).1
  have hkl := (List.getElem?_eq_some_iff.1 hk).1
  rcases Nat.lt_trichotomy k i with hlt | rfl | hlt
  · exact h i (by omega) k hlt a b hi hk he
  · rw [hi] at hk; cases hk; rfl
  · exact (h k (by omega) i hlt b a hk hi (eqL_symm he)).symm
end C
theorem bA11 {w1 c : World} {o : Obj} (h : Below w1.heap.size w1 c) : Below w1.heap.size w1 (c.alloc o) := bt h (below_new _ _)
theorem bS11 {w1 c : World} {b k : Nat} {v : Value} (h : Below w1.heap.size w1 c) (hb : w1.heap.size ≤ b) : Below w1.heap.size w1 (c.setCell ⟨b, k, none⟩ v) := Below.setCell h hb v
theorem heap_of_drew11 (w : World) : w.drew.heap = w.heap := rfl
theorem heap_of_alloc11 (w : World) (o : Obj) (k : Nat) : (w.alloc o).heap[k]? = if k = w.heap.size then some o else w.heap[k]? := by
  by_cases h : k = w.heap.size
  · rw [if_pos h, h]; exact heap_alloc_new _ _
  · rw [if_neg h]
    rcases Nat.lt_or_ge k w.heap.size with h1 | h1
    · exact (below_new w o).block k h1
    · rw [Array.getElem?_eq_none h1, Array.getElem?_eq_none (by simp; omega)]
theorem size_of_alloc11 (w : World) (o : Obj) : (w.alloc o).heap.size = w.heap.size + 1 := by simp
theorem rot_all11 {l : List C.La} {n t : Nat} (hn : n = l.length) (ht : t < n) (z : C.La) : z ∈ l.take n ↔ ∃ j', j' < n ∧ l[(j' + t) % n]? = some z := by
  rw [List.take_of_length_le (Nat.le_of_eq hn.symm)]
  constructor
  · intro hz
    obtain ⟨k, hk⟩ := List.getElem?_of_mem hz
    have hkl := (List.getElem?_eq_some_iff.1 hk).1
    by_cases htk : t ≤ k
    · exact ⟨k - t, by omega, by rw [show k - t + t = k from by omega, Nat.mod_eq_of_lt (by omega)]; exact hk⟩
    · exact ⟨k + n - t, by omega, by rw [show k + n - t + t = k + n from by omega, Nat.add_mod_right, Nat.mod_eq_of_lt (by omega)]; exact hk⟩
  · rintro ⟨j', _, h⟩
    exact List.mem_of_getElem? h
set_option maxRecDepth 100000 in
set_option maxHeartbeats 16000000 in
theorem order_all (pa : Option Addr) (l : List C.La) (ca : Nat) (turn : Int) (w : World) (ha : ArgL w pa l) (hxl : ∀ x ∈ l, x.x.size ≤ maxLen) (hla : l.length ≤ ca) (hca : ca ≤ maxLen) (htf : C.fits turn) :
    Calls Try.prog 5 #[.slice pa l.length ca, .int .i64 turn] w fun e w' => e = .returned (.bool true) ∧ Below w.heap.size w w' := by
  have HA : Hid (ArgL w pa l) := ha
  have HXL : Hid (∀ x ∈ l, x.x.size ≤ maxLen) := hxl
  have HTF : Hid (C.fits turn) := htf
  unfold maxLen at hca
  clear ha hxl htf
  obtain ⟨n, hn⟩ : ∃ n, n = l.length := ⟨_, rfl⟩
  have HN : Hid (n = l.length) := hn
  rw [← hn] at hla ⊢
  clear hn
  have hnb : n ≤ 9223372036854775807 := by omega
  clear hla hca
  go_enter Try.func5, Try.ntmps5
  go_wp2_with fail
  refine (awake11_any w).mono ?_
  rintro e w2 ⟨rfl, hb2⟩
  have HB2 : Hid (Below w.heap.size w w2) := hb2
  clear hb2
  by_cases h1 : (n : Int) < 1
  · have g1 : decide ((n : Int) < 1) = true := decide_eq_true h1
    go_wp2
    go_ret
    exact ⟨rfl, HB2.out⟩
  by_cases h2 : (40 : Int) < n
  · have g1 : decide ((n : Int) < 1) = false := decide_eq_false h1
    have g2 : decide ((40 : Int) < n) = true := decide_eq_true h2
    go_wp2
    go_ret
    exact ⟨rfl, HB2.out⟩
  by_cases h3 : turn < 0
  · have g1 : decide ((n : Int) < 1) = false := decide_eq_false h1
    have g2 : decide ((40 : Int) < n) = false := decide_eq_false h2
    have g3 : decide (turn < 0) = true := decide_eq_true h3
    go_wp2
    go_ret
    exact ⟨rfl, HB2.out⟩
  have HN1 : Hid (1 ≤ n ∧ n ≤ 40 ∧ 0 ≤ turn) := by constructor <;> omega
  have g1 : decide ((n : Int) < 1) = false := decide_eq_false h1
  have g2 : decide ((40 : Int) < n) = false := decide_eq_false h2
  have g3 : decide (turn < 0) = false := decide_eq_false h3
  go_wp2_with fail
  clear g1 g2 g3 h1 h2 h3
  go_loopw [5] (fun s5 wr => ∃ (i : Nat), s5 = .int .i64 i ∧ i ≤ n ∧ Hid (∀ i', i' < i → ∀ k, k < i' → C.NoL l i' k) ∧ Hid (Below w2.heap.size w2 wr)) (fun s5 _ => n - (RowKit.intOf s5).toNat)
  case atStart => exact ⟨0, rfl, Nat.zero_le _, (fun i' h => absurd h (Nat.not_lt_zero _)), Below.refl _ _⟩
  case round =>
    obtain ⟨i, rfl, hin, HI, HO⟩ := hrel
    by_cases hlt : i < n
    · go_wp2_with fail
      go_loopw [6] (fun s6 wr => ∃ (k : Nat), s6 = .int .i64 k ∧ k ≤ i ∧ Hid (∀ k', k' < k → C.NoL l i k') ∧ Hid (Below w2.heap.size w2 wr)) (fun s6 _ => i - (RowKit.intOf s6).toNat)
      case atStart => exact ⟨0, rfl, Nat.zero_le _, (fun i' h => absurd h (Nat.not_lt_zero _)), HO.out⟩
      case round =>
        clear HO
        obtain ⟨k, rfl, hki, HKN, HO⟩ := hrel
        by_cases hltk : k < i
        · obtain ⟨a, hia⟩ : ∃ a, l[i]? = some a := ⟨_, List.getElem?_eq_getElem (by have := HN.out; omega)⟩
          obtain ⟨a2, hka⟩ : ∃ a2, l[k]? = some a2 := ⟨_, List.getElem?_eq_getElem (by have := HN.out; omega)⟩
          obtain ⟨b, o, rfl, hat⟩ := HA.out.at hia
          obtain ⟨b', o', hbe, hat2⟩ := HA.out.at hka
          cases hbe
          have HIA : Hid (l[i]? = some a) := hia
          have HKA : Hid (l[k]? = some a2) := hka
          have HATI : Hid (∀ W, Below w2.heap.size w2 W → AtL a b (o + i * 4) W) := fun W hW => hat.below (bt HB2.out hW)
          have HATK : Hid (∀ W, Below w2.heap.size w2 W → AtL a2 b (o + k * 4) W) := fun W hW => hat2.below (bt HB2.out hW)
          clear hat hat2 hia hka
          obtain ⟨x, t, d1, d2⟩ := a
          obtain ⟨y, u, e1, e2⟩ := a2
          have hF : ∀ T : NewW wr, _ := fun T => (HATI.out T.v (bt HO.out T.h)).cells
          have hG : ∀ T : NewW wr, _ := fun T => (HATK.out T.v (bt HO.out T.h)).cells
          have z0 := fun T => (hF T).1
          have z1 := fun T => (hF T).2.1
          have z2 := fun T => (hF T).2.2.1
          have z3 := fun T => (hF T).2.2.2
          have y0 := fun T => (hG T).1
          have y1 := fun T => (hG T).2.1
          have y2 := fun T => (hG T).2.2.1
          have y3 := fun T => (hG T).2.2.2
          have hne : Nonempty (NewW wr) := ⟨NewW.start wr⟩
          clear hF hG
          obtain ⟨qb, hqb⟩ : ∃ qb, qb = (d1 == e1 && d2 == e2) := ⟨_, rfl⟩
          have kq : ∀ W, (Op.equalIn 10000 31 (.agg #[.int .i64 d1, .int .i64 d2]) (.agg #[.int .i64 e1, .int .i64 e2])).run Try.prog W = .ok qb W := fun W => by rw [hqb]; exact eq_dot d1 d2 e1 e2 W
          have HQB : Hid (qb = true ↔ d1 = e1 ∧ d2 = e2) := by show _ ↔ _; rw [hqb]; simp
          obtain ⟨zs, hzs⟩ : ∃ zs, (x.toList == y.toList) = zs := ⟨_, rfl⟩
          have HZS : Hid (zs = true ↔ x = y) := by show _ ↔ _; rw [← hzs, txt_eq]; simp
          clear hqb
          have HGO : Hid (∀ k', (C.NoL l i k) → (∀ k', k' < k → C.NoL l i k') → k' < k + 1 → C.NoL l i k') := fun k' h1 h2 h3 => by
            by_cases e : k' = k
            · rw [e]; exact h1
            · exact h2 k' (by omega)
          by_cases htu : t = u
          · subst htu
            cases qb with
            | false =>
              go_wp2_with fail
              refine wp_region_new (by kernel_rfl) (by kernel_rfl) ?_
              repeat (go_big_quiet_step (fail))
              refine wpQuiet_nil ?_
              rintro _ ⟨w6, rfl⟩
              have H6 : Hid (Below w2.heap.size w2 w6.v) := bt HO.out w6.h
              clear z0 z1 z2 z3 y0 y1 y2 y3 hne kq hzs
              have HNC : Hid (C.NoL l i k) := fun a b ha hb he => by
                rw [HIA.out] at ha
                rw [HKA.out] at hb
                cases ha
                cases hb
                have := (C.eqL_is _ _).1 he
                have := HQB.out.2 this.2
                cases this
              go_wp2
              go_roundw
              case rel => exact ⟨k + 1, by go_num, by omega, (fun k' hk' => HGO.out k' HNC.out HKN.out hk'), H6.out⟩
              case measure => simp [RowKit.intOf]; omega
            | true =>
              cases zs with
              | true =>
                go_wp2_with fail
                refine wp_region_new (by kernel_rfl) (by kernel_rfl) ?_
                repeat (go_big_quiet_step (fail))
                refine wpQuiet_nil ?_
                rintro _ ⟨w6, rfl⟩
                have H6 : Hid (Below w2.heap.size w2 w6.v) := bt HO.out w6.h
                clear z0 z1 z2 z3 y0 y1 y2 y3 hne kq hzs
                have HNC : Hid (C.NoL l i k) := fun a b ha hb he => by
                  rw [HIA.out] at ha
                  rw [HKA.out] at hb
                  cases ha
                  cases hb
                  exact HZS.out.1 (by trivial)
                go_wp2
                go_roundw
                case rel => exact ⟨k + 1, by go_num, by omega, (fun k' hk' => HGO.out k' HNC.out HKN.out hk'), H6.out⟩
                case measure => simp [RowKit.intOf]; omega
              | false =>
                go_wp2_with fail
                refine wp_region_new (by kernel_rfl) (by kernel_rfl) ?_
                repeat (go_big_quiet_step (fail))
                refine wpQuiet_nil ?_
                rintro _ ⟨w6, rfl⟩
                have H6 : Hid (Below w2.heap.size w2 w6.v) := bt HO.out w6.h
                clear z0 z1 z2 z3 y0 y1 y2 y3 hne kq hzs
                go_wp2
                go_ret
                exact ⟨rfl, bt HB2.out H6.out⟩
          · have htub : (t == u) = false := by simpa using htu
            go_wp2_with fail
            refine wp_region_new (by kernel_rfl) (by kernel_rfl) ?_
            repeat (go_big_quiet_step (fail))
            refine wpQuiet_nil ?_
            rintro _ ⟨w6, rfl⟩
            have H6 : Hid (Below w2.heap.size w2 w6.v) := bt HO.out w6.h
            clear z0 z1 z2 z3 y0 y1 y2 y3 hne kq hzs
            have HNC : Hid (C.NoL l i k) := fun a b ha hb he => by
              rw [HIA.out] at ha
              rw [HKA.out] at hb
              cases ha
              cases hb
              exact absurd ((C.eqL_is _ _).1 he).1 htu
            go_wp2
            go_roundw
            case rel => exact ⟨k + 1, by go_num, by omega, (fun k' hk' => HGO.out k' HNC.out HKN.out hk'), H6.out⟩
            case measure => simp [RowKit.intOf]; omega
        · obtain rfl : k = i := by omega
          go_wp2
          go_roundw
          case rel => exact ⟨k + 1, by go_num, by omega, (fun i' hi' => by
            by_cases e : i' = k
            · rw [e]; exact HKN.out
            · exact HI.out i' (by omega)), HO.out⟩
          case measure => simp [RowKit.intOf]; omega
    · obtain rfl : i = n := by omega
      have HCO : Hid (∀ a b, a ∈ l → b ∈ l → C.eqL a b = true → a.x = b.x) := C.noL_of HN.out HI.out
      clear HI hin hlt
      obtain ⟨t, ht⟩ : ∃ t : Nat, t = turn.toNat % i := ⟨_, rfl⟩
      have HT : Hid (turn.tmod (i : Int) = (t : Int) ∧ t < i) := by
        obtain ⟨p1, p2, p3⟩ := HN1.out
        rw [ht]
        refine ⟨?_, Nat.mod_lt _ (by omega)⟩
        obtain ⟨q, hq⟩ := Int.eq_ofNat_of_zero_le p3
        rw [hq, Int.ofNat_tmod]
        rfl
      have HMOD : Hid (∀ j : Nat, ((j : Int) + (t : Int)).tmod (i : Int) = (((j + t) % i : Nat) : Int)) := fun j => by
        rw [show (j : Int) + (t : Int) = ((j + t : Nat) : Int) from by omega, Int.ofNat_tmod]
      clear ht
      have HO2 : Hid (Below w2.heap.size w2 wr) := HO.out
      clear HO
      go_wp2_with fail
      refine (e_new (Els.nil HO2.out)).mono ?_
      rintro e w3 ⟨ga, rfl, h3, -⟩
      have H3 : Hid (Els w2 w3 [⟨ga, C.La.zero, false⟩]) := h3
      clear h3
      go_wp2_with fail
      refine (e_new H3.out).mono ?_
      rintro e w4 ⟨gb, rfl, h4, -⟩
      have H4 : Hid (Els w2 w4 ([] ++ ⟨ga, C.La.zero, false⟩ :: [⟨gb, C.La.zero, false⟩])) := h4
      clear h4 H3 HO2
      go_wp2_with fail
      go_loopw [9] (fun s9 wr => ∃ (j : Nat) (Sa Sb : C.La), s9 = .int .i64 j ∧ j ≤ i ∧ Hid (Els w2 wr ([] ++ ⟨ga, Sa, false⟩ :: [⟨gb, Sb, false⟩])) ∧ Hid (C.InvL Sa fun z => z ∈ l.take j) ∧ Hid (C.InvL Sb fun z => ∃ j', j' < j ∧ l[(j' + t) % i]? = some z)) (fun s9 _ => i - (RowKit.intOf s9).toNat)
      case atStart => exact ⟨0, _, _, rfl, Nat.zero_le _, H4.out, C.InvL.none.congr fun a => by simp, C.InvL.none.congr fun a => ⟨fun h => h.elim, fun ⟨j', h, _⟩ => absurd h (Nat.not_lt_zero _)⟩⟩
      case round =>
        clear H4
        obtain ⟨j, Sa, Sb, rfl, hji, HO, HIA, HIB⟩ := hrel
        by_cases hltj : j < i
        · obtain ⟨a, hja⟩ : ∃ a, l[j]? = some a := ⟨_, List.getElem?_eq_getElem (by have := HN.out; omega)⟩
          obtain ⟨jm, hjm⟩ : ∃ jm, jm = (j + t) % i := ⟨_, rfl⟩
          have hjl : jm < i := by rw [hjm]; exact Nat.mod_lt _ (by omega)
          obtain ⟨a2, hka⟩ : ∃ a2, l[jm]? = some a2 := ⟨_, List.getElem?_eq_getElem (by have := HN.out; omega)⟩
          obtain ⟨b, o, rfl, hat⟩ := HA.out.at hja
          obtain ⟨b', o', hbe, hat2⟩ := HA.out.at hka
          cases hbe
          have HAJ : Hid (l[j]? = some a) := hja
          have HAK : Hid (l[(j + t) % i]? = some a2) := by rw [← hjm]; exact hka
          have HXA : Hid (a.x.size ≤ maxLen) := HXL.out a (List.mem_of_getElem? hja)
          have HXB : Hid (a2.x.size ≤ maxLen) := HXL.out a2 (List.mem_of_getElem? hka)
          have HATI : Hid (∀ W, Below w2.heap.size w2 W → AtL a b (o + j * 4) W) := fun W hW => hat.below (bt HB2.out hW)
          have HATK : Hid (∀ W, Below w2.heap.size w2 W → AtL a2 b (o + jm * 4) W) := fun W hW => hat2.below (bt HB2.out hW)
          have hm0 : 0 ≤ turn := HN1.out.2.2
          have hm1 : turn % (i : Int) = (t : Int) := by rw [← HT.out.1, Int.tmod_eq_emod_of_nonneg hm0]
          have hm2 : ((j : Int) + (t : Int)) % (i : Int) = (jm : Int) := by rw [hjm, ← HMOD.out j, Int.tmod_eq_emod_of_nonneg (by omega)]
          have hm3 : 0 ≤ (j : Int) + (t : Int) := by omega
          have hi0 : ¬ i = 0 := by omega
          have hi1 : ¬ (i : Int) = 0 := by omega
          have hid1 : Op.intDiv .rem .i64 turn (i : Int) = pure (.int .i64 (t : Int)) := by
            unfold Op.intDiv
            rw [if_neg hi1, HT.out.1]
          have hid2 : Op.intDiv .rem .i64 ((j : Int) + (t : Int)) (i : Int) = pure (.int .i64 (jm : Int)) := by
            unfold Op.intDiv
            rw [if_neg hi1, HMOD.out j, hjm]
          have ht40 : t < i ∧ i ≤ 40 := ⟨HT.out.2, HN1.out.2.1⟩
          obtain ⟨Sa', hSa'⟩ : ∃ S', C.wrL Sa a = S' := ⟨_, rfl⟩
          obtain ⟨Sb', hSb'⟩ : ∃ S', C.wrL Sb a2 = S' := ⟨_, rfl⟩
          have hM1 : ∀ z, (∃ j', j' < j + 1 ∧ l[(j' + t) % i]? = some z) ↔ (∃ j', j' < j ∧ l[(j' + t) % i]? = some z) ∨ z = a2 := fun z => by
            constructor
            · rintro ⟨j', h1, h2⟩
              by_cases e : j' = j
              · subst e
                rw [HAK.out] at h2
                cases h2
                exact Or.inr rfl
              · exact Or.inl ⟨j', by omega, h2⟩
            · rintro (⟨j', h1, h2⟩ | rfl)
              · exact ⟨j', by omega, h2⟩
              · exact ⟨j, by omega, HAK.out⟩
          have HSA : Hid (C.InvL Sa' fun z => z ∈ l.take (j + 1)) := by
            show C.InvL _ _
            rw [← hSa']
            exact (HIA.out.step a).congr fun z => by rw [List.take_add_one, HAJ.out]; simp
          have HSB : Hid (C.InvL Sb' fun z => ∃ j', j' < j + 1 ∧ l[(j' + t) % i]? = some z) := by
            show C.InvL _ _
            rw [← hSb']
            exact (HIB.out.step a2).congr fun z => (hM1 z).symm
          have HSB2 : Hid (C.wrL Sb' a2 = Sb') := HSB.out.again (a := a2) ⟨j, by omega, HAK.out⟩
          have HWA : Hid _ := hSa'
          have HWB : Hid _ := hSb'
          clear hat hat2 hja hka hjm hSa' hSb' hM1
          obtain ⟨x, u, d1, d2⟩ := a
          obtain ⟨y, v, e1, e2⟩ := a2
          have HQ1 : Hid (∀ w', Below wr.heap.size wr w' → _) := fun w' hb => (HATI.out w' (bt HO.out.bel hb)).cells
          have HQ2 : Hid (∀ w', Below wr.heap.size wr w' → _) := fun w' hb => (HATK.out w' (bt HO.out.bel hb)).cells
          go_wp2_with fail
          go_cut [10, 11] from 82 to 97 (fun r10 r11 wx => ∃ g1 g2, r10 = .pointer (some ⟨g1, 0, none⟩) ∧ r11 = .pointer (some ⟨g2, 0, none⟩) ∧ Below wr.heap.size wr wx ∧ wr.heap.size ≤ g1 ∧ wr.heap.size ≤ g2 ∧ wx.heap[g1]? = some (.cells #[.string x, .int .i64 u, .int .i64 d1, .int .i64 d2] 45) ∧ wx.heap[g2]? = some (.cells #[.string y, .int .i64 v, .int .i64 e1, .int .i64 e2] 45))
          case first =>
            obtain ⟨z0, z1, z2, z3⟩ := HQ1.out wr (Below.refl _ _)
            obtain ⟨y0, y1, y2, y3⟩ := HQ2.out wr (Below.refl _ _)
            have hblk := World.block_lt_of_cell? _ _ z0
            simp only at hblk
            go_region
            all_goals
              go_wp2_with fail
              go_meet
            all_goals
              refine ⟨_, _, rfl, rfl, ?_, by first | (exact Nat.le_refl _) | (simp), by first | (exact Nat.le_refl _) | (simp), ?_, ?_⟩
              · (repeat' (first | (with_reducible refine bA11 ?_) | (with_reducible refine Below.drew ?_) | (with_reducible exact Below.refl _ _) | (with_reducible refine bS11 ?_ (by simp <;> omega))))
              all_goals
                simp only [heap_of_drew11, heap_of_alloc11, size_of_alloc11]
                repeat' split
                all_goals first | rfl | (exfalso; omega) | exact absurd trivial ‹¬True›
          case rest =>
            obtain ⟨g1, g2, rfl, rfl, hbx, hg1, hg2, q1, q2⟩ := hcut
            have H0 : Hid (Els w2 wc ([] ++ ⟨ga, Sa, false⟩ :: [⟨gb, Sb, false⟩])) := HO.out.below hbx
            have HC2 : Hid (wc.heap[g2]? = some (.cells #[.string y, .int .i64 v, .int .i64 e1, .int .i64 e2] 45)) := q2
            have HGN : Hid (g2 ≠ ga ∧ g2 ≠ gb) := by
              have h1 := (HO.out.at_ ⟨ga, Sa, false⟩ (by simp)).1.lt
              have h2 := (HO.out.at_ ⟨gb, Sb, false⟩ (by simp)).1.lt
              simp only at h1 h2
              show _ ∧ _
              omega
            have HL2 : Hid (g2 < wc.heap.size) := (Array.getElem?_eq_some_iff.1 q2).1
            obtain ⟨c0, c1, c2, c3⟩ := (AtL.boxed (a := ⟨x, u, d1, d2⟩) q1).cells
            simp only [Nat.zero_add] at c0 c1 c2 c3
            clear hbx hg1 hg2 q1 q2 HQ1 HQ2 HATI HATK HO hm0 hm1 hm2 hm3 hi0 hi1 hid1 hid2 HIA HIB
            go_wp2_with fail
            refine (e_wr [] [⟨gb, Sb, false⟩] ga Sa Sa' x u d1 d2 _ _ H0.out HXA.out rfl rfl HWA.out).mono ?_
            rintro e w5 ⟨rfl, h5, ht5⟩
            have H5 : Hid (Els w2 w5 ([⟨ga, Sa', false⟩] ++ ⟨gb, Sb, false⟩ :: [])) := h5
            have HC5 : Hid (w5.heap[g2]? = some (.cells #[.string y, .int .i64 v, .int .i64 e1, .int .i64 e2] 45)) := (ht5.block g2 HL2.out HGN.out.1).trans HC2.out
            clear h5 ht5 c0 c1 c2 c3 H0 HC2
            obtain ⟨c0, c1, c2, c3⟩ := (AtL.boxed (a := ⟨y, v, e1, e2⟩) HC5.out).cells
            simp only [Nat.zero_add] at c0 c1 c2 c3
            go_wp2_with fail
            refine (e_wr [⟨ga, Sa', false⟩] [] gb Sb Sb' y v e1 e2 _ _ H5.out HXB.out rfl rfl HWB.out).mono ?_
            rintro e w6 ⟨rfl, h6, ht6⟩
            have H6 : Hid (Els w2 w6 ([⟨ga, Sa', false⟩] ++ ⟨gb, Sb', false⟩ :: [])) := h6
            have hc6 := (ht6.block g2 (Array.getElem?_eq_some_iff.1 HC5.out).1 HGN.out.2).trans HC5.out
            clear h6 ht6 c0 c1 c2 c3 H5 HC5
            obtain ⟨c0, c1, c2, c3⟩ := (AtL.boxed (a := ⟨y, v, e1, e2⟩) hc6).cells
            simp only [Nat.zero_add] at c0 c1 c2 c3
            clear hc6
            go_wp2_with fail
            refine (e_wr [⟨ga, Sa', false⟩] [] gb Sb' Sb' y v e1 e2 _ _ H6.out HXB.out rfl rfl HSB2.out).mono ?_
            rintro e w7 ⟨rfl, h7, -⟩
            have H7 : Hid (Els w2 w7 ([] ++ ⟨ga, Sa', false⟩ :: [⟨gb, Sb', false⟩])) := h7
            clear h7 c0 c1 c2 c3 H6
            go_wp2
            go_roundw
            case rel => exact ⟨j + 1, Sa', Sb', by go_num, by omega, H7.out, HSA.out, HSB.out⟩
            case measure => simp [RowKit.intOf]; omega
        · obtain rfl : j = i := by omega
          have HSE : Hid (Sa = Sb) := HIA.out.same (HIB.out.congr fun z => (rot_all11 HN.out HT.out.2 z).symm) fun a b ha hb => HCO.out a b (List.mem_of_mem_take ha) (List.mem_of_mem_take hb)
          have HO3 : Hid (Els w2 wr ([] ++ ⟨ga, Sa, false⟩ :: [⟨gb, Sb, false⟩])) := HO.out
          clear HO
          go_wp2_with fail
          refine (e_same ga gb Sa Sb true HO3.out (by simp) (by simp) (by rw [HSE.out]; exact C.sameL_self _)).mono ?_
          rintro e wb ⟨rfl, hbb⟩
          have HBB : Hid (Below w.heap.size w wb) := bt HB2.out (bt HO3.out.bel hbb)
          clear hbb HO3
          go_wp2
          go_ret
          exact ⟨rfl, HBB.out⟩
theorem order_at (pa : Option Addr) (l : List C.La) (ca : Nat) (turn : Int) (ht : (Lit.int .i64 turn).wf = true) (w : World) (ha : ArgL w pa l) (hxl : ∀ x ∈ l, x.x.size ≤ maxLen) (hla : l.length ≤ ca) (hca : ca ≤ maxLen) :
    Calls Try.prog 5 #[.slice pa l.length ca, .int .i64 turn] w fun e w' => e = .returned (.bool true) ∧ Below w.heap.size w w' :=
  order_all pa l ca turn w ha hxl hla hca (fits_of_wf ht)
end Go.Proofs.Ytebfhomopdnkkaa
