/-
  slices.Grow of nothing, slices.Concat.
-/
import Derived.Test.YtebfhomopdnkkaaBClone
import Derived.Lib.AppendZeros
import Derived.Lib.SliceRun
namespace Go.Proofs.Ytebfhomopdnkkaa
open Go.RowKit Go.Lib
set_option linter.unusedVariables false

theorem Own.row (w : World) (n cap : Nat) (cs : Array Value) (t : TypeId) (hc : cap ≤ maxLen) (hs : cs.size = cap) (ht : t = 5) : Own (w.drew.alloc (.cells cs t)) w.heap.size (.slice (some ⟨w.heap.size, 0, none⟩) 0 cap) [] := by
  subst ht
  refine ⟨rfl, Or.inr ⟨_, cap, cs, rfl, Nat.le_refl _, ?_, Nat.zero_le _, hc, by omega, by simp [bytesV]⟩⟩
  show (w.heap.push _)[w.heap.size]? = _
  simp
set_option maxRecDepth 100000 in
set_option maxHeartbeats 1000000 in
theorem grow_any (n : Nat) (w : World) (hn : n ≤ 100000000) :
    Calls Try.prog 48 #[.slice none 0 0, .int .i64 n] w fun e w' => (∃ v, e = .returned v ∧ Own w' w.heap.size v []) ∧ Below w.heap.size w w' := by
  obtain ⟨i0, hi, hz0, hz1, hz2⟩ := info_parts info_u8
  have hrz : ∀ (ty : TypeId), 0 < n → (Builtin.append_ #[32, 3] ty #[.slice none 0 0, .int .i64 n]).run Try.prog w = _ := fun ty h0 =>
    Lib.run_append_nil_zeros w 32 3 ty 5 i0 (.int .u8 0) .i64 .i64 Try.underlying32 Try.underlying3 hi hz0 n h0 (by rw [hz1]; decide) (by omega) (by rw [hz2]; omega)
  have HR : Hid _ := hrz
  clear hrz
  go_enter Try.func48, Try.ntmps48
  by_cases h0 : 0 < n
  · have hG0 := grownCap_ge w n 0 5
    have hGm : grownCap w n 0 5 ≤ maxLen := grownCap_le_maxLen w n 0 5 (by unfold maxLen; omega)
    have HO : Hid (Own (w.drew.alloc (.cells (Builtin.zeroCells (Value.int .u8 0).cells n ++ Builtin.zeroCells (Value.int .u8 0).cells (grownCap w n 0 5 - n)) 5)) w.heap.size (.slice (some ⟨w.heap.size, 0, none⟩) 0 (grownCap w n 0 5)) []) := by
      refine Own.row w n _ _ _ hGm ?_ rfl
      simp [Builtin.zeroCells, Value.cells]; omega
    have hG1 : grownCap w n 0 5 ≤ 9223372036854775807 := Nat.le_trans hGm (by decide)
    have h1 := HR.out 32 h0
    have H1 : Hid _ := h1
    clear HR h1 hGm
    generalize grownCap w n 0 5 = G at *
    go_wp2_with (at_builtin; go_must (refine Lib.wpList_append_run _ rfl _ _ _ _ rfl _ _ rfl rfl _ _ H1.out ?_))
    go_ret
    exact ⟨⟨_, rfl, HO.out⟩, (Below.refl _ w).drew.alloc (by simp) _⟩
  · obtain rfl : n = 0 := by omega
    clear HR
    go_wp2
    go_ret
    exact ⟨⟨_, rfl, Own.nil _ _⟩, Below.refl _ _⟩
set_option maxRecDepth 100000 in
set_option maxHeartbeats 2000000 in
theorem concat_any (p : Option Addr) (ps : List Part) (cap : Nat) (w : World) (hl : ps.length ≤ 1000) (hP : PAt w p ps) (hA : ∀ x ∈ ps, x.ok w) (hj : (joined ps).length ≤ 100000000) :
    Calls Try.prog 33 #[.slice p ps.length cap] w fun e w' => (∃ v, e = .returned v ∧ Own w' w.heap.size v (joined ps)) ∧ Below w.heap.size w w' := by
  have hstep : ∀ k x, ps[k]? = some x → joined (ps.take (k + 1)) = joined (ps.take k) ++ x.l := by
    intro k x hx
    rw [List.take_add_one, hx]; simp [joined]
  have hle : ∀ k, (joined (ps.take k)).length ≤ (joined ps).length := by
    intro k
    have : joined ps = joined (ps.take k) ++ joined (ps.drop k) := by
      rw [joined, joined, joined, ← List.flatten_append, ← List.map_append, List.take_append_drop]
    rw [this, List.length_append]; omega
  have HS : Hid _ := hstep
  have HLE : Hid _ := hle
  have HA : Hid (∀ x ∈ ps, x.ok w) := hA
  have HJ : Hid ((joined ps).length ≤ 100000000) := hj
  clear hstep hle hA hj
  go_enter Try.func33, Try.ntmps33
  go_wp2
  go_loop [3, 11] (fun s i => ∃ k : Nat, k ≤ ps.length ∧ i = .int .i64 k ∧ s = .int .i64 ((joined (ps.take k)).length : Nat)) (fun _ i => ps.length - (intOf i).toNat)
  case atStart => exact ⟨0, Nat.zero_le _, rfl, by simp [joined]⟩
  case round =>
    obtain ⟨k, hk, rfl, rfl⟩ := hrel
    by_cases hlt : k < ps.length
    · obtain ⟨b, o, rfl, hc⟩ := hP (by omega)
      obtain ⟨x, hx⟩ : ∃ x, ps[k]? = some x := ⟨ps[k], by simp [hlt]⟩
      have hck := hc k x hx
      have e1 := HS.out k x hx
      obtain ⟨xp, xl, xc⟩ := x
      simp only [Part.v] at hck e1
      have e2 := HLE.out (k + 1)
      have e3 := HJ.out
      rw [e1, List.length_append] at e2
      have HE : Hid ((joined (ps.take (k + 1))).length = (joined (ps.take k)).length + xl.length) := by show _ = _; rw [e1, List.length_append]
      generalize (joined (ps.take k)).length = r at *
      have h1 : r + xl.length ≤ 100000000 := by omega
      clear e1 e2 e3 hc hx
      go_wp2
      go_round
      case rel => exact ⟨k + 1, by omega, by go_num, by rw [HE.out]; go_num⟩
      case measure => simp [intOf]; omega
    · have e2 := HLE.out k
      have e3 := HJ.out
      generalize (joined (ps.take k)).length = r at *
      have h1 : r ≤ 100000000 := by omega
      clear e2 e3
      go_wp2_with fail
      refine (grow_any r _ (by omega)).mono ?_
      rintro e w1 ⟨⟨v1, rfl, ho1⟩, h1⟩
      have HO1 : Hid (Own w1 w.heap.size v1 []) := ho1
      have HB1 : Hid (Below w.heap.size w w1) := h1
      clear ho1 h1
      go_wp2
      go_loopw [6, 27] (fun v i wr => ∃ k : Nat, k ≤ ps.length ∧ i = .int .i64 k ∧ Own wr w.heap.size v (joined (ps.take k)) ∧ Below w.heap.size w wr) (fun _ i _ => ps.length - (intOf i).toNat)
      case atStart => exact ⟨0, Nat.zero_le _, rfl, by simpa [joined] using HO1.out, HB1.out⟩
      case round =>
        obtain ⟨k, hk, rfl, how, hbw⟩ := hrel
        have HOW : Hid _ := how
        have HBW : Hid _ := hbw
        clear how hbw
        by_cases hlt : k < ps.length
        · obtain ⟨b, o, rfl, hc⟩ := hP (by omega)
          obtain ⟨x, hx⟩ : ∃ x, ps[k]? = some x := ⟨ps[k], by simp [hlt]⟩
          have hck0 := hc k x hx
          have hck : wr.cell? ⟨b, o + k, none⟩ = some x.v := by
            rw [HBW.out.cell (p := ⟨b, o + k, none⟩) (World.block_lt_of_cell? _ _ hck0)]; exact hck0
          have e1 := HS.out k x hx
          have HX : Hid (x.ok wr) := (HA.out x (List.mem_of_getElem? hx)).below HBW.out
          obtain ⟨xp, xl, xc⟩ := x
          simp only [Part.v] at hck e1
          have e2 := HLE.out (k + 1)
          have e3 := HJ.out
          rw [e1, List.length_append] at e2
          have HE : Hid (joined (ps.take (k + 1)) = joined (ps.take k) ++ xl) := e1
          have HL : Hid ((joined (ps.take k)).length + xl.length ≤ 100000000) := Nat.le_trans e2 e3
          clear e1 e2 e3 hc hx hck0
          go_wp2_with (at_builtin; go_must ((refine wpList_append_part rfl _ _ rfl w.heap.size _ (joined (ps.take k)) rfl HOW.out ⟨xp, xl, xc⟩ rfl HX.out HL.out HBW.out.size ?_; intro v2 w2 ho2 hg2; have h2 := Own.grown HOW.out HBW.out HBW.out.size hg2)))
          go_roundw
          case rel => exact ⟨k + 1, by omega, by go_num, by rw [HE.out]; exact ho2, h2⟩
          case measure => simp [intOf]; omega
        · go_wp2
          go_ret
          exact ⟨⟨_, rfl, by have := HOW.out; rw [List.take_of_length_le (by omega)] at this; exact this⟩, HBW.out⟩
theorem concat_new (w1 : World) (ps : List Part) (n B cap : Nat) (vs : Array Value) (L : List UInt8) (hB : B = w1.heap.size) (hv : vs = (ps.map Part.v).toArray) (hn : n = ps.length) (hl : ps.length ≤ 9) (hA : ∀ x ∈ ps, x.ok w1) (hj : (joined ps).length ≤ 100000000) (hL : joined ps = L) :
    Calls Try.prog 33 #[.slice (some ⟨B, 0, none⟩) n cap] (w1.alloc (.cells vs 32)) fun e w' => (∃ v, e = .returned v ∧ Own w' w1.heap.size v L) ∧ Below w1.heap.size w1 w' := by
  subst hB hv hn hL
  refine (concat_any _ ps cap _ (by omega) (pat_new _ _ _ _) (fun x hx => (hA x hx).below (below_new _ _)) hj).mono ?_
  rintro e w' ⟨⟨v, rfl, ho⟩, hb⟩
  exact ⟨⟨v, rfl, ho.lower (below_new w1 _).size⟩, bt (below_new _ _) hb⟩
end Go.Proofs.Ytebfhomopdnkkaa
