/-
  disk.content.cut.
-/
import Derived.Test.YtlfcpgncgldieaaWPend
namespace Go.Proofs.Ytlfcpgncgldieaa
open Go.RowKit Go.Lib Go.Maps
open C (upd upd_same upd_other)
set_option linter.unusedVariables false

theorem clone_n (p : Option Addr) (n c : Nat) (l : List UInt8) (w : World) (hn : n = l.length) (hx : Part.ok w ⟨p, l, c⟩) (hl : l.length ≤ 100000000) :
    Calls Try.prog 31 #[.slice p n c] w fun e w' => (∃ v, e = .returned v ∧ Own w' w.heap.size v l) ∧ Below w.heap.size w w' := by
  subst hn; exact clone_any p l c w hx hl
theorem Part.ok.take {w : World} {p : Option Addr} {l : List UInt8} {c : Nat} (h : Part.ok w ⟨p, l, c⟩) (k : Nat) : Part.ok w ⟨p, l.take k, c⟩ := by
  refine ⟨Nat.le_trans (List.length_take_le' _ _) h.1, fun hl => ?_⟩
  have hl' : 0 < (l.take k).length := hl
  rw [List.length_take] at hl'
  obtain ⟨b, o, hp, hc⟩ := h.2 (show 0 < l.length by omega)
  refine ⟨b, o, hp, fun i hi => ?_⟩
  have hi' : i < (l.take k).length := hi
  rw [List.length_take] at hi'
  rw [hc i (show i < l.length by omega)]
  simp [List.getD, show i < k by omega]
theorem Own.cap {w : World} {p : Option Addr} {n c : Nat} {l : List UInt8} (h : Own w 0 (.slice p n c) l) : n = l.length ∧ n ≤ c ∧ c ≤ maxLen ∧ (0 < n → ∃ b, p = some ⟨b, 0, none⟩) := by
  rcases h.2 with ⟨h1, h2⟩ | ⟨g, cap, cur, h1, _, _, h3, h4, _⟩
  · cases h1; exact ⟨h2.symm, Nat.le_refl _, Nat.zero_le _, (fun h => absurd h (Nat.lt_irrefl 0))⟩
  · cases h1; exact ⟨rfl, h3, h4, fun _ => ⟨g, rfl⟩⟩
set_option maxRecDepth 100000 in
set_option maxHeartbeats 4000000 in
theorem cut_any (w : World) (cb : Nat) (p : Option Addr) (n c sa : Nat) (wv : Value) (l : List UInt8) (hcb : w.heap[cb]? = some (.cells #[.slice p n c, .int .i64 (sa : Nat), wv] 58)) (ho : Own w 0 (.slice p n c) l) (hl : l.length ≤ 1048576) (hsa : sa ≤ 1048576) :
    Calls Try.prog 35 #[.pointer (some ⟨cb, 0, none⟩)] w fun e w' => e = .returned (.tuple #[]) ∧ ∃ p' n' c', w'.heap[cb]? = some (.cells #[.slice p' n' c', .int .i64 (sa : Nat), .slice none 0 0] 58) ∧ Own w' 0 (.slice p' n' c') (l.take sa) ∧ ((Value.slice p' n' c').ownBlock = (Value.slice p n c).ownBlock ∨ ∀ b, (Value.slice p' n' c').ownBlock = some b → w.heap.size ≤ b) ∧ w.grownBy w' (some cb) := by
  obtain ⟨hn, hnc, hcm, hpa⟩ := Own.cap ho
  have c0 := blk_cell hcb 0
  have c1 := blk_cell hcb 1
  have c2 := blk_cell hcb 2
  have f0 := blk_free hcb 0
  have f2 := blk_free hcb 2
  simp only [List.getElem?_toArray, List.getElem?_cons_succ, List.getElem?_cons_zero] at c0 c1 c2
  have hdb : ∀ b, (Value.slice p n c).ownBlock = some b → b ≠ cb := fun b hb => by
    obtain ⟨cur, hc⟩ := row_type ho hb
    exact cells_ne hc hcb (by decide)
  have HO : Hid (Own w 0 (.slice p n c) l) := ho
  have HCB : Hid _ := hcb
  have HDB : Hid _ := hdb
  have HN : Hid _ := hn
  have hcm' : c ≤ 9223372036854775807 := Nat.le_trans hcm (by decide)
  have hnl : n ≤ 1048576 := by omega
  have hb1 := set_block (o := 2) (v := .slice none 0 0) hcb
  have HB1 : Hid _ := hb1
  clear ho hcb hdb hn hb1 hcm
  by_cases hlt : sa < n
  · obtain ⟨b, rfl⟩ := hpa (by omega)
    clear hpa
    have HT : Hid (sa = (l.take sa).length) := by show _ = _; rw [List.length_take]; have := HN.out; omega
    have HPT : Hid (∀ w', w'.heap[b]? = w.heap[b]? → Part.ok w' ⟨some ⟨b, 0, none⟩, l.take sa, c⟩) := fun w' hw => by
      have h1 : Own w' 0 (.slice (some ⟨b, 0, none⟩) n c) l := Own.same HO.out (fun b' e => by cases e; exact hw)
      exact Part.ok.take (Own.okAt h1 HN.out) sa
    have hbc : b ≠ cb := HDB.out b rfl
    have hi1 : (sa : Int) ≤ c := by omega
    have hi2 : (sa : Int) < (n : Int) := by omega
    have HBC : Hid _ := hbc
    clear hbc
    go_enter Try.func35, Try.ntmps35
    go_wp2
    go_quiet (fail)
    go_wp2
    go_region_with (go_at_call 31; refine (clone_n _ sa c (l.take sa) _ HT.out (HPT.out _ (by exact set_other HBC.out)) (by rw [← HT.out]; omega)).mono ?_; rintro e w2 ⟨⟨v, rfl, ho2⟩, hb2⟩; obtain ⟨p2, n2, c2', rfl, _⟩ := Own.is ho2; have hcb2 := (hb2.block cb (by have := (Array.getElem?_eq_some_iff.1 HB1.out).1; exact this)).trans HB1.out; have d0 := blk_cell hcb2 0; have g0 := blk_free hcb2 0; simp at d0)
    all_goals
      go_wp2
      go_end0
      refine ⟨rfl, p2, n2, c2', ?_, ?_, ?_, ?_⟩
      · rw [set_block hcb2]; simp
      · refine Own.same (Own.lower ho2 (Nat.zero_le _)) (fun b' e => set_other (fun e' => ?_))
        have := (World.ownsRow.lt ho2 b' e).1
        have h2 := (Array.getElem?_eq_some_iff.1 HB1.out).1
        subst e'
        exact absurd this (Nat.not_le_of_lt h2)
      · right
        intro b' e
        have := (World.ownsRow.lt ho2 b' e).1
        simpa [World.setCell] using this
      · have t1 := set_grown w cb 2 (.slice none 0 0)
        refine World.grownBy.trans (World.grownBy.trans t1 ?_) (set_grown _ _ _ _)
        exact ⟨hb2.os, hb2.tape, hb2.output, hb2.size, fun k hk _ => hb2.block k hk⟩
  · have HT : Hid (l.take sa = l) := by show _ = _; rw [List.take_of_length_le]; have := HN.out; omega
    have hi2 : (n : Int) ≤ (sa : Int) := by omega
    have hi3 : decide ((sa : Int) < (n : Int)) = false := by simpa using hi2
    clear hpa
    go_enter Try.func35, Try.ntmps35
    go_wp2
    go_quiet (fail)
    go_wp2
    go_end0
    refine ⟨rfl, p, n, c, ?_, ?_, Or.inl rfl, ?_⟩
    · have := HB1.out
      simp at this
      exact this
    · rw [HT.out]
      exact Own.same HO.out fun b hb => set_other (HDB.out b hb)
    · exact ⟨rfl, rfl, rfl, by simp [World.setCell, World.drewN], fun k hk hne => set_other (fun e => hne (by rw [e]))⟩
end Go.Proofs.Ytlfcpgncgldieaa
