/-
  Several texts in one: WEntries, WAll, WContains.
-/
import Derived.Test.YtnhplbdbgiimkaaGreatDoorZ19
namespace Go.Proofs.YtnhplbdbgiimkaaGreatDoor
open Go.RowKit Go.Lib
set_option linter.unusedVariables false

set_option maxRecDepth 100000 in
set_option maxHeartbeats 4000000 in
theorem entries_any (w : World) (g : Nat) (c : LgC) (n : Nat) (p : Option Addr) (ps : List Part) (cap : Nat) (hT : Tabs w) (h : LgAt w g c) (hp : PAt w p ps) (ho : ∀ x ∈ ps, x.ok w) (ha : c.age < 4294967296) (hn : n + ps.length ≤ 4294967296) (hr : ∀ x ∈ ps, x.l.length ≤ 65536) (hk : ps.length ≤ 1000) :
    Calls Tryz.prog 56 #[.pointer (some ⟨g, 0, none⟩), .int .i64 (n : Nat), .slice p ps.length cap] w fun e w' => (∃ v, e = .returned v ∧ Own w' w.heap.size v (C.ents c.age n (ps.map Part.l))) ∧ Below w.heap.size w w' := by
  have HT : Hid (Tabs w) := hT
  have HLG : Hid (LgAt w g c) := h
  have HP : Hid (PAt w p ps) := hp
  have HO : Hid (∀ x ∈ ps, x.ok w) := ho
  have HRL : Hid (∀ x ∈ ps, x.l.length ≤ 65536) := hr
  have HA : Hid (c.age < 4294967296) := ha
  have HNN : Hid (n + ps.length ≤ 4294967296) := hn
  have HLEN : Hid (∀ k, (C.ents c.age n ((ps.take k).map Part.l)).length ≤ 65566 * 1000) := fun k => by
    have h1 := C.ents_length_le c.age 65536 n ((ps.take k).map Part.l) (fun r hrr => by
      obtain ⟨x, hx, rfl⟩ := List.mem_map.1 hrr
      exact hr x (List.mem_of_mem_take hx))
    rw [List.length_map, List.length_take] at h1
    refine Nat.le_trans h1 ?_
    refine Nat.mul_le_mul (by omega) (by omega)
  obtain ⟨m, hm⟩ : ∃ m, m = ps.length := ⟨_, rfl⟩
  have HM : Hid (m = ps.length) := hm
  rw [← hm] at hn hk ⊢
  clear hT h hp ho hr ha hm
  go_enter Tryz.func56, Tryz.ntmps56
  go_wp2_with fail
  go_loopw [7, 12] (fun s7 s12 wr => ∃ (k : Nat), s12 = .int .i64 k ∧ k ≤ m ∧ Hid (Own wr w.heap.size s7 (C.ents c.age n ((ps.take k).map Part.l))) ∧ Hid (Below w.heap.size w wr)) (fun _ s12 _ => m - (intOf s12).toNat)
  case atStart => exact ⟨0, rfl, Nat.zero_le _, World.ownsRow_nil _ _ _ _, Below.refl _ _⟩
  case round =>
    obtain ⟨k, rfl, hkm, HOW, HB⟩ := hrel
    by_cases hlt : k < m
    · obtain ⟨x, hx⟩ : ∃ x, ps[k]? = some x := ⟨_, List.getElem?_eq_getElem (by have := HM.out; omega)⟩
      obtain ⟨b, o, hpb, hc⟩ := HP.out (by have := HM.out; omega)
      subst hpb
      have hkz : (k : Int) < (m : Int) := by omega
      have hxm := List.mem_of_getElem? hx
      have z0 : wr.cell? ⟨b, o + k, none⟩ = some x.v := (HB.out.cell (p := ⟨b, o + k, none⟩) (World.block_lt_of_cell? _ _ (hc k x hx))).trans (hc k x hx)
      have z1 : wr.cell? ⟨g, 4, none⟩ = some (.int .i64 (c.age : Nat)) := ((HLG.out.below HB.out).cell 4).trans rfl
      have HEN : Hid (Calls Tryz.prog 40 #[.int .i64 (c.age : Nat), .int .i64 ((n : Int) + (k : Int)), .slice x.p x.l.length x.cap] wr fun e w' => (∃ v, e = .returned v ∧ Own w' wr.heap.size v (C.ent c.age (n + k) x.l)) ∧ Below wr.heap.size wr w') := by
        have h1 := entry_any c.age (n + k) x.p x.l x.cap wr (Tabs.below HT.out HB.out) (Part.ok.below (HO.out x hxm) HB.out) HA.out (by have := HNN.out; have := HM.out; omega) (HRL.out x hxm)
        rw [Int.natCast_add] at h1
        exact h1
      have HSN : Hid (C.ents c.age n ((ps.take (k + 1)).map Part.l) = C.ents c.age n ((ps.take k).map Part.l) ++ C.ent c.age (n + k) x.l) := by
        show _ = _
        rw [List.take_add_one, hx]
        simp only [Option.toList_some, List.map_append, List.map_cons, List.map_nil]
        rw [C.ents_append, C.ents_one, List.length_map, List.length_take]
        rw [show min k ps.length = k from by have := HM.out; omega]
      have HXL : Hid ((C.ent c.age (n + k) x.l).length ≤ 65566) := by show _ ≤ _; rw [C.ent_length]; have := HRL.out x hxm; omega
      simp only [Part.v] at z0
      clear hc hx hxm
      go_wp2_with fail
      refine HEN.out.mono ?_
      rintro e w2 ⟨⟨v2, rfl, ho2⟩, hb2⟩
      have HOW2 : Hid (Own w2 w.heap.size u7 (C.ents c.age n ((ps.take k).map Part.l))) := HOW.out.below hb2
      have HB2 : Hid (Below w.heap.size w w2) := bt HB.out hb2
      obtain ⟨p2, c2, rfl, hpk⟩ := Own.part ho2
      have HPK : Hid (Part.ok w2 ⟨p2, C.ent c.age (n + k) x.l, c2⟩) := hpk
      clear ho2 hb2 hpk HEN z0 z1
      go_wp2_with (at_builtin; go_must (refine wpList_append_part rfl _ _ rfl w.heap.size _ (C.ents c.age n ((ps.take k).map Part.l)) rfl HOW2.out ⟨p2, C.ent c.age (n + k) x.l, c2⟩ rfl HPK.out (by have h1 := HLEN.out k; have h2 := HXL.out; simp only; omega) HB2.out.size ?_); intro v3 w3 ho3 hg3; have HO3 : Hid (Own w3 w.heap.size v3 (C.ents c.age n ((ps.take k).map Part.l) ++ C.ent c.age (n + k) x.l)) := ho3; have HB3 : Hid (Below w.heap.size w w3) := Own.grown HOW2.out HB2.out HB2.out.size hg3; clear ho3 hg3)
      go_roundw
      case rel => exact ⟨k + 1, by go_num, by omega, by show Own _ _ _ _; rw [HSN.out]; exact HO3.out, HB3.out⟩
      case measure => simp [intOf]; omega
    · obtain rfl : k = m := by omega
      have htk : ps.take k = ps := List.take_of_length_le (by have := HM.out; omega)
      rw [htk] at HOW
      clear htk
      go_wp2
      go_ret
      exact ⟨⟨_, rfl, HOW.out⟩, HB.out⟩
end Go.Proofs.YtnhplbdbgiimkaaGreatDoor

namespace Go.Proofs.YtnhplbdbgiimkaaGreatDoor
open Go.RowKit Go.Lib
set_option linter.unusedVariables false

set_option maxHeartbeats 4000000 in
theorem base_any (w : World) (g : Nat) (c : LgC) (p : Option Addr) (l : List UInt8) (cap : Nat) (h : LgAt w g c) (hb : c.base = .slice p l.length cap) (hx : (Part.mk p l cap).ok w) (hl : l.length ≤ 65536) :
    Calls Tryz.prog 19 #[.pointer (some ⟨g, 0, none⟩)] w fun e w' => (∃ v, e = .returned v ∧ Own w' w.heap.size v l) ∧ Below w.heap.size w w' := by
  have HC : Hid _ := clone_any p l cap w hx (by omega)
  have c5 : w.cell? ⟨g, 5, none⟩ = some (.slice p l.length cap) := by rw [← hb]; exact (h.cell 5).trans rfl
  have hlm : l.length ≤ 9223372036854775807 := by omega
  clear h hb hx
  go_enter Tryz.func19, Tryz.ntmps19
  go_wp2_with fail
  refine Calls.mono HC.out ?_
  rintro e w2 ⟨⟨v, rfl, ho⟩, hb2⟩
  have HO : Hid (Own w2 w.heap.size v l) := ho
  have HB : Hid (Below w.heap.size w w2) := hb2
  clear ho hb2 HC c5
  go_wp2
  go_ret
  exact ⟨⟨_, rfl, HO.out⟩, HB.out⟩
set_option maxRecDepth 100000 in
set_option maxHeartbeats 4000000 in
theorem all_any (w : World) (g : Nat) (c : LgC) (p : Option Addr) (ps : List Part) (cap : Nat) (h : LgAt w g c) (hcr : c.recs = .slice p ps.length cap) (hp : PAt w p ps) (ho : ∀ x ∈ ps, x.ok w) (hr : ∀ x ∈ ps, x.l.length ≤ 65536) (hk : ps.length ≤ 100000) :
    Calls Tryz.prog 13 #[.pointer (some ⟨g, 0, none⟩)] w fun e w' => (∃ v, e = .returned v ∧ RecsOwn w' w.heap.size v (ps.map Part.l)) ∧ Below w.heap.size w w' := by
  have c6 : w.cell? ⟨g, 6, none⟩ = some (.slice p ps.length cap) := by rw [← hcr]; exact (h.cell 6).trans rfl
  have HP : Hid (PAt w p ps) := hp
  have HO : Hid (∀ x ∈ ps, x.ok w) := ho
  have HRL : Hid (∀ x ∈ ps, x.l.length ≤ 65536) := hr
  obtain ⟨m, hm⟩ : ∃ m, m = ps.length := ⟨_, rfl⟩
  have HM : Hid (m = ps.length) := hm
  rw [← hm] at hk c6
  clear h hcr hp ho hr hm
  go_enter Tryz.func13, Tryz.ntmps13
  go_wp2_with fail
  clear c6
  go_loopw [3, 11] (fun s3 s11 wr => ∃ (k : Nat) (qs : List Part), s11 = .int .i64 k ∧ k ≤ m ∧ Hid (OwnP wr w.heap.size s3 qs) ∧ Hid (∀ x ∈ qs, Own wr w.heap.size x.v x.l) ∧ Hid (qs.map Part.l = (ps.take k).map Part.l) ∧ Hid (Below w.heap.size w wr)) (fun _ s11 _ => m - (intOf s11).toNat)
  case atStart => exact ⟨0, [], rfl, Nat.zero_le _, OwnP.nil _ _, (fun x hx => by cases hx), rfl, Below.refl _ _⟩
  case round =>
    obtain ⟨k, qs, rfl, hkm, HOW, HQS, HQM, HB⟩ := hrel
    by_cases hlt : k < m
    · obtain ⟨x, hx⟩ : ∃ x, ps[k]? = some x := ⟨_, List.getElem?_eq_getElem (by have := HM.out; omega)⟩
      obtain ⟨b, o, hpb, hc⟩ := HP.out (by have := HM.out; omega)
      subst hpb
      have hkz : (k : Int) < (m : Int) := by omega
      have hxm := List.mem_of_getElem? hx
      have z0 : wr.cell? ⟨b, o + k, none⟩ = some x.v := (HB.out.cell (p := ⟨b, o + k, none⟩) (World.block_lt_of_cell? _ _ (hc k x hx))).trans (hc k x hx)
      have HCL : Hid _ := clone_any x.p x.l x.cap wr (Part.ok.below (HO.out x hxm) HB.out) (by have := HRL.out x hxm; omega)
      have HSN : Hid ((ps.take (k + 1)).map Part.l = (ps.take k).map Part.l ++ [x.l]) := by
        show _ = _
        rw [List.take_add_one, hx]
        simp
      have HQL : Hid (qs.length ≤ 100000) := by
        have h1 := congrArg List.length HQM.out
        rw [List.length_map, List.length_map, List.length_take] at h1
        show _ ≤ _
        omega
      simp only [Part.v] at z0
      clear hc hx hxm
      go_wp2_with fail
      refine Calls.mono HCL.out ?_
      rintro e w2 ⟨⟨v2, rfl, ho2⟩, hb2⟩
      have HB2 : Hid (Below w.heap.size w w2) := bt HB.out hb2
      obtain ⟨p2, c2, hv2, -⟩ := Own.part ho2
      subst hv2
      have HO2 : Hid (Own w2 w.heap.size (Part.mk p2 x.l c2).v x.l) := Own.lower ho2 HB.out.size
      have HOP : Hid (OwnP (w2.alloc (.cells #[.slice p2 x.l.length c2] 31)) w.heap.size u3 qs) := OwnP.below (OwnP.below HOW.out hb2) (below_new _ _)
      have HQ2 : Hid (∀ y ∈ qs, Own (w2.alloc (.cells #[.slice p2 x.l.length c2] 31)) w.heap.size y.v y.l) := fun y hy => Own.below (Own.below (HQS.out y hy) hb2) (below_new _ _)
      have HBA : Hid (w.heap.size ≤ (w2.alloc (.cells #[.slice p2 x.l.length c2] 31)).heap.size) := by show _ ≤ _; have := HB2.out.size; simp; omega
      clear ho2 hb2 HCL z0
      go_wp2_with (at_builtin; go_must ((refine wpList_append_one rfl _ _ rfl w.heap.size _ qs rfl HOP.out ⟨p2, x.l, c2⟩ w2.heap.size rfl (by simp [Part.v]) HQL.out HBA.out ?_; intro v3 w3 ho3 hg3; have HO3 : Hid (OwnP w3 w.heap.size v3 (qs ++ [⟨p2, x.l, c2⟩])) := ho3; have HQ3 : Hid (∀ y ∈ qs ++ [(⟨p2, x.l, c2⟩ : Part)], Own w3 w.heap.size y.v y.l) := (fun y hy => by rcases List.mem_append.1 hy with hy | hy; exact Own.keptP (HQ2.out y hy) HOP.out hg3; obtain rfl : y = ⟨p2, x.l, c2⟩ := (by simpa using hy); exact Own.keptP (Own.below HO2.out (below_new _ _)) HOP.out hg3); have HB3 : Hid (Below w.heap.size w w3) := OwnP.grown HOP.out (bt HB2.out (below_new _ _)) HBA.out hg3; clear ho3 hg3)))
      go_roundw
      case rel => exact ⟨k + 1, _, by go_num, by omega, HO3.out, HQ3.out, by show _ = _; rw [HSN.out, List.map_append, HQM.out]; rfl, HB3.out⟩
      case measure => simp [intOf]; omega
    · obtain rfl : k = m := by omega
      have htk : ps.take k = ps := List.take_of_length_le (by have := HM.out; omega)
      rw [htk] at HQM
      clear htk
      go_wp2
      go_ret
      exact ⟨⟨_, rfl, qs, HOW.out, HQS.out, HQM.out⟩, HB.out⟩
end Go.Proofs.YtnhplbdbgiimkaaGreatDoor

namespace Go.Proofs.YtnhplbdbgiimkaaGreatDoor
open Go.RowKit Go.Lib
set_option linter.unusedVariables false

set_option maxHeartbeats 4000000 in
theorem index_any (p : Option Addr) (l : List Int) (c : Nat) (v : Int) (w : World) (h : ZAt w p l) (hl : l.length ≤ 100000) :
    Calls Tryz.prog 72 #[.slice p l.length c, .int .i64 v] w fun e w' => (∃ r : Int, e = .returned (.int .i64 r) ∧ (0 ≤ r ↔ v ∈ l)) ∧ w' = w := by
  have HZ : Hid (ZAt w p l) := h
  obtain ⟨n, hn⟩ : ∃ n, n = l.length := ⟨_, rfl⟩
  have HN : Hid (n = l.length) := hn
  rw [← hn] at hl ⊢
  clear h hn
  go_enter Tryz.func72, Tryz.ntmps72
  go_wp2_with fail
  go_loopw [8] (fun s8 wr => wr = w ∧ ∃ (k : Nat), s8 = .int .i64 k ∧ k ≤ n ∧ Hid (∀ j z, j < k → l[j]? = some z → z ≠ v)) (fun s8 _ => n - (intOf s8).toNat)
  case atStart => exact ⟨rfl, 0, rfl, Nat.zero_le _, fun j z hj => absurd hj (Nat.not_lt_zero _)⟩
  case round =>
    obtain ⟨rfl, k, rfl, hk, HK⟩ := hrel
    by_cases hlt : k < n
    · obtain ⟨z, hz⟩ : ∃ z, l[k]? = some z := ⟨_, List.getElem?_eq_getElem (by have := HN.out; omega)⟩
      obtain ⟨b, o, hp, hc⟩ := HZ.out (by have := HN.out; omega)
      subst hp
      have hkz : (k : Int) < (n : Int) := by omega
      have y0 := hc k (by have := HN.out; omega)
      have hgd : l.getD k 0 = z := by simp [List.getD, hz]
      rw [hgd] at y0
      have HZK : Hid (l[k]? = some z) := hz
      clear hc hgd hz
      by_cases hzv : v = z
      · subst hzv
        go_wp2
        go_ret
        refine ⟨⟨(k : Int), rfl, fun _ => List.mem_of_getElem? HZK.out, fun _ => Int.natCast_nonneg k⟩, ?_⟩
        first | rfl | trivial
      · have hne : (v == z) = false := by simpa using hzv
        go_wp2
        go_roundw
        case rel =>
          refine ⟨by first | rfl | trivial, k + 1, by go_num, by omega, fun j y hj hy => ?_⟩
          by_cases e : j = k
          · subst e
            rw [HZK.out] at hy
            cases hy
            exact fun e => hzv e.symm
          · exact HK.out j y (by omega) hy
        case measure => simp [intOf]; omega
    · obtain rfl : k = n := by omega
      go_wp2
      go_ret
      refine ⟨⟨-1, rfl, fun h => by omega, fun hm => ?_⟩, ?_⟩
      · obtain ⟨j, hj⟩ := List.getElem?_of_mem hm
        exact absurd rfl (HK.out j v (by have := (List.getElem?_eq_some_iff.1 hj).1; have := HN.out; omega) hj)
      · first | rfl | trivial
set_option maxHeartbeats 4000000 in
theorem contains_any (p : Option Addr) (l : List Int) (c : Nat) (v : Int) (w : World) (h : ZAt w p l) (hl : l.length ≤ 100000) :
    Calls Tryz.prog 53 #[.slice p l.length c, .int .i64 v] w fun e w' => e = .returned (.bool (decide (v ∈ l))) ∧ w' = w := by
  have HI : Hid _ := index_any p l c v w h hl
  obtain ⟨r, hr⟩ : ∃ r, decide (v ∈ l) = r := ⟨_, rfl⟩
  have HR : Hid (decide (v ∈ l) = r) := hr
  rw [hr]
  generalize l.length = n at HI ⊢
  clear h hr
  go_enter Tryz.func53, Tryz.ntmps53
  go_wp2_with fail
  refine Calls.mono HI.out ?_
  rintro e w2 ⟨⟨q, rfl, hq⟩, hw⟩
  subst w2
  have HQ : Hid (decide (0 ≤ q) = r) := by show _ = _; rw [← HR.out]; exact decide_eq_decide.2 hq
  clear hq HI
  go_wp2
  go_ret
  refine ⟨?_, by first | rfl | trivial⟩
  rw [← HQ.out]
  first | rfl | simp
end Go.Proofs.YtnhplbdbgiimkaaGreatDoor
