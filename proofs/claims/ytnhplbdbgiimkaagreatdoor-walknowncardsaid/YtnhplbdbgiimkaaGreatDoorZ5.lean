/-
  Several texts in one: BCat, FPut, FGet.
-/
import Derived.Test.YtnhplbdbgiimkaaGreatDoorZ4
import Derived.Lib.AppendZeros
import Derived.Lib.SliceRun
import Derived.Test.YtnhplbdbgiimkaaGreatDoorZ1
import Derived.Test.YtnhplbdbgiimkaaGreatDoorZ2
namespace Go.Proofs.YtnhplbdbgiimkaaGreatDoor
open Go.RowKit Go.Lib
set_option linter.unusedVariables false

theorem Own.row (w : World) (n cap : Nat) (cs : Array Value) (t : TypeId) (hc : cap ≤ maxLen) (hs : cs.size = cap) (ht : t = 5) : Own (w.drew.alloc (.cells cs t)) w.heap.size (.slice (some ⟨w.heap.size, 0, none⟩) 0 cap) [] := by
  subst ht
  refine ⟨rfl, Or.inr ⟨_, cap, cs, rfl, Nat.le_refl _, ?_, Nat.zero_le _, hc, by omega, by simp [bytesV]⟩⟩
  show (w.heap.push _)[w.heap.size]? = _
  simp
set_option maxRecDepth 100000 in
set_option maxHeartbeats 1000000 in
theorem grow_any (n : Nat) (w : World) (hn : n ≤ 100000000) :
    Calls Tryz.prog 92 #[.slice none 0 0, .int .i64 n] w fun e w' => (∃ v, e = .returned v ∧ Own w' w.heap.size v []) ∧ Below w.heap.size w w' := by
  obtain ⟨i0, hi, hz0, hz1, hz2⟩ := info_parts info_u8
  have hrz : ∀ (ty : TypeId), 0 < n → (Builtin.append_ #[31, 3] ty #[.slice none 0 0, .int .i64 n]).run Tryz.prog w = _ := fun ty h0 =>
    Lib.run_append_nil_zeros w 31 3 ty 5 i0 (.int .u8 0) .i64 .i64 Tryz.underlying31 Tryz.underlying3 hi hz0 n h0 (by rw [hz1]; decide) (by omega) (by rw [hz2]; omega)
  have HR : Hid _ := hrz
  clear hrz
  go_enter Tryz.func92, Tryz.ntmps92
  by_cases h0 : 0 < n
  · have hG0 := grownCap_ge w n 0 5
    have hGm : grownCap w n 0 5 ≤ maxLen := grownCap_le_maxLen w n 0 5 (by unfold maxLen; omega)
    have HO : Hid (Own (w.drew.alloc (.cells (Builtin.zeroCells (Value.int .u8 0).cells n ++ Builtin.zeroCells (Value.int .u8 0).cells (grownCap w n 0 5 - n)) 5)) w.heap.size (.slice (some ⟨w.heap.size, 0, none⟩) 0 (grownCap w n 0 5)) []) := by
      refine Own.row w n _ _ _ hGm ?_ rfl
      simp [Builtin.zeroCells, Value.cells]; omega
    have hG1 : grownCap w n 0 5 ≤ 9223372036854775807 := Nat.le_trans hGm (by decide)
    have h1 := HR.out 31 h0
    have H1 : Hid _ := h1
    clear HR h1 hGm
    generalize grownCap w n 0 5 = G at *
    go_wp2_with (at_builtin; go_must (refine Lib.wpList_append_run _ rfl _ _ _ _ rfl _ _ rfl rfl _ _ H1.out ?_))
    go_ret
    exact ⟨⟨_, rfl, HO.out⟩, (Below.refl _ w).drew.alloc (by simp) _⟩
  · obtain rfl : n = 0 := by omega
    clear HR
    go_wp2
    go_ret
    exact ⟨⟨_, rfl, Own.nil _ _⟩, Below.refl _ _⟩
set_option maxRecDepth 100000 in
set_option maxHeartbeats 2000000 in
theorem concat_any (p : Option Addr) (ps : List Part) (cap : Nat) (w : World) (hl : ps.length ≤ 1000) (hP : PAt w p ps) (hA : ∀ x ∈ ps, x.ok w) (hj : (joined ps).length ≤ 100000000) :
    Calls Tryz.prog 75 #[.slice p ps.length cap] w fun e w' => (∃ v, e = .returned v ∧ Own w' w.heap.size v (joined ps)) ∧ Below w.heap.size w w' := by
  have hstep : ∀ k x, ps[k]? = some x → joined (ps.take (k + 1)) = joined (ps.take k) ++ x.l := by
    intro k x hx
    rw [List.take_add_one, hx]; simp [joined]
  have hle : ∀ k, (joined (ps.take k)).length ≤ (joined ps).length := by
    intro k
    have : joined ps = joined (ps.take k) ++ joined (ps.drop k) := by
      rw [joined, joined, joined, ← List.flatten_append, ← List.map_append, List.take_append_drop]
    rw [this, List.length_append]; omega
  have HS : Hid _ := hstep
  have HLE : Hid _ := hle
  have HA : Hid (∀ x ∈ ps, x.ok w) := hA
  have HJ : Hid ((joined ps).length ≤ 100000000) := hj
  clear hstep hle hA hj
  go_enter Tryz.func75, Tryz.ntmps75
  go_wp2
  go_loop [3, 11] (fun s i => ∃ k : Nat, k ≤ ps.length ∧ i = .int .i64 k ∧ s = .int .i64 ((joined (ps.take k)).length : Nat)) (fun _ i => ps.length - (intOf i).toNat)
  case atStart => exact ⟨0, Nat.zero_le _, rfl, by simp [joined]⟩
  case round =>
    obtain ⟨k, hk, rfl, rfl⟩ := hrel
    by_cases hlt : k < ps.length
    · obtain ⟨b, o, rfl, hc⟩ := hP (by omega)
      obtain ⟨x, hx⟩ : ∃ x, ps[k]? = some x := ⟨ps[k], by simp [hlt]⟩
      have hck := hc k x hx
      have e1 := HS.out k x hx
      obtain ⟨xp, xl, xc⟩ := x
      simp only [Part.v] at hck e1
      have e2 := HLE.out (k + 1)
      have e3 := HJ.out
      rw [e1, List.length_append] at e2
      have HE : Hid ((joined (ps.take (k + 1))).length = (joined (ps.take k)).length + xl.length) := by show _ = _; rw [e1, List.length_append]
      generalize (joined (ps.take k)).length = r at *
      have h1 : r + xl.length ≤ 100000000 := by omega
      clear e1 e2 e3 hc hx
      go_wp2
      go_round
      case rel => exact ⟨k + 1, by omega, by go_num, by rw [HE.out]; go_num⟩
      case measure => simp [intOf]; omega
    · have e2 := HLE.out k
      have e3 := HJ.out
      generalize (joined (ps.take k)).length = r at *
      have h1 : r ≤ 100000000 := by omega
      clear e2 e3
      go_wp2_with fail
      refine (grow_any r _ (by omega)).mono ?_
      rintro e w1 ⟨⟨v1, rfl, ho1⟩, h1⟩
      have HO1 : Hid (Own w1 w.heap.size v1 []) := ho1
      have HB1 : Hid (Below w.heap.size w w1) := h1
      clear ho1 h1
      go_wp2
      go_loopw [6, 27] (fun v i wr => ∃ k : Nat, k ≤ ps.length ∧ i = .int .i64 k ∧ Own wr w.heap.size v (joined (ps.take k)) ∧ Below w.heap.size w wr) (fun _ i _ => ps.length - (intOf i).toNat)
      case atStart => exact ⟨0, Nat.zero_le _, rfl, by simpa [joined] using HO1.out, HB1.out⟩
      case round =>
        obtain ⟨k, hk, rfl, how, hbw⟩ := hrel
        have HOW : Hid _ := how
        have HBW : Hid _ := hbw
        clear how hbw
        by_cases hlt : k < ps.length
        · obtain ⟨b, o, rfl, hc⟩ := hP (by omega)
          obtain ⟨x, hx⟩ : ∃ x, ps[k]? = some x := ⟨ps[k], by simp [hlt]⟩
          have hck0 := hc k x hx
          have hck : wr.cell? ⟨b, o + k, none⟩ = some x.v := by
            rw [HBW.out.cell (p := ⟨b, o + k, none⟩) (World.block_lt_of_cell? _ _ hck0)]; exact hck0
          have e1 := HS.out k x hx
          have HX : Hid (x.ok wr) := (HA.out x (List.mem_of_getElem? hx)).below HBW.out
          obtain ⟨xp, xl, xc⟩ := x
          simp only [Part.v] at hck e1
          have e2 := HLE.out (k + 1)
          have e3 := HJ.out
          rw [e1, List.length_append] at e2
          have HE : Hid (joined (ps.take (k + 1)) = joined (ps.take k) ++ xl) := e1
          have HL : Hid ((joined (ps.take k)).length + xl.length ≤ 100000000) := Nat.le_trans e2 e3
          clear e1 e2 e3 hc hx hck0
          go_wp2_with (at_builtin; go_must ((refine wpList_append_part rfl _ _ rfl w.heap.size _ (joined (ps.take k)) rfl HOW.out ⟨xp, xl, xc⟩ rfl HX.out HL.out HBW.out.size ?_; intro v2 w2 ho2 hg2; have h2 := Own.grown HOW.out HBW.out HBW.out.size hg2)))
          go_roundw
          case rel => exact ⟨k + 1, by omega, by go_num, by rw [HE.out]; exact ho2, h2⟩
          case measure => simp [intOf]; omega
        · go_wp2
          go_ret
          exact ⟨⟨_, rfl, by have := HOW.out; rw [List.take_of_length_le (by omega)] at this; exact this⟩, HBW.out⟩
theorem concat_new (w1 : World) (ps : List Part) (n B cap : Nat) (vs : Array Value) (L : List UInt8) (hB : B = w1.heap.size) (hv : vs = (ps.map Part.v).toArray) (hn : n = ps.length) (hl : ps.length ≤ 9) (hA : ∀ x ∈ ps, x.ok w1) (hj : (joined ps).length ≤ 100000000) (hL : joined ps = L) :
    Calls Tryz.prog 75 #[.slice (some ⟨B, 0, none⟩) n cap] (w1.alloc (.cells vs 31)) fun e w' => (∃ v, e = .returned v ∧ Own w' w1.heap.size v L) ∧ Below w1.heap.size w1 w' := by
  subst hB hv hn hL
  refine (concat_any _ ps cap _ (by omega) (pat_new _ _ _ _) (fun x hx => (hA x hx).below (below_new _ _)) hj).mono ?_
  rintro e w' ⟨⟨v, rfl, ho⟩, hb⟩
  exact ⟨⟨v, rfl, ho.lower (below_new w1 _).size⟩, bt (below_new _ _) hb⟩
end Go.Proofs.YtnhplbdbgiimkaaGreatDoor

namespace Go.Proofs.YtnhplbdbgiimkaaGreatDoor
open Go.RowKit Go.Lib
set_option linter.unusedVariables false
set_option linter.unnecessarySimpa false

theorem four_row (s : BitVec 32) : bytesV (C.four s) = [.int .u8 ((s.toNat : Int) % 256), .int .u8 ((s.toNat : Int) / 256 % 256), .int .u8 ((s.toNat : Int) / 65536 % 256), .int .u8 ((s.toNat : Int) / 16777216)] := by
  have hs := s.isLt
  simp only [bytesV, C.four, byteV, List.map_cons, List.map_nil, UInt8.toNat_ofNat']
  refine congr (congrArg _ ?_) (congr (congrArg _ ?_) (congr (congrArg _ ?_) (congr (congrArg _ ?_) rfl))) <;> congr 1 <;> omega
theorem own_four (w : World) (s : BitVec 32) (vs : Array Value) (hv : vs.toList = bytesV (C.four s)) : Own (w.alloc (.cells vs 5)) w.heap.size (.slice (some ⟨w.heap.size, 0, none⟩) 4 4) (C.four s) := by
  have := World.ownsRow_lit (base := w.heap.size) (e := 5) (size := 1) w vs 4 (Nat.le_refl _) (by decide) (by rw [← Array.length_toList, hv]; rfl)
  unfold Own
  rw [hv] at this
  exact this
theorem nb_any (s : BitVec 32) (w : World) : Calls Tryz.prog 73 #[.int .u32 (s.toNat : Nat)] w fun e w' => e = .returned (.slice (some ⟨w.heap.size, 0, none⟩) 4 4) ∧ Own w' w.heap.size (.slice (some ⟨w.heap.size, 0, none⟩) 4 4) (C.four s) ∧ Below w.heap.size w w' := by
  have hs := s.isLt
  go_enter Tryz.func73, Tryz.ntmps73
  go_wp2
  go_ret
  exact ⟨rfl, own_four w s _ (four_row s).symm, below_new _ _⟩
theorem or_step (a x k : Nat) (ha : a < 2 ^ k) (hx : x < 256) (hk : k ≤ 24) : bits .or .u32 (a : Int) ((x * 2 ^ k : Nat) : Int) = ((a + 2 ^ k * x : Nat) : Int) := by
  have h2 : (2 : Nat) ^ k ≤ 2 ^ 24 := Nat.pow_le_pow_right (by decide) hk
  have h3 : x * 2 ^ k ≤ 255 * 2 ^ 24 := Nat.mul_le_mul (by omega) h2
  rw [u32_or_nat _ _ (by omega) (by omega), Nat.mul_comm x, Nat.or_comm, ← Nat.two_pow_add_eq_or_of_lt ha, Nat.add_comm]
set_option maxHeartbeats 1000000 in
theorem number_any (p : Option Addr) (l : List UInt8) (cap : Nat) (w : World) (hl : l.length ≤ 4) (hA : BAt w p l) :
    Calls Tryz.prog 123 #[.slice p l.length cap] w fun e w' => e = .returned (.int .u32 (C.le l : Nat)) ∧ w' = w := by
  go_enter Tryz.func123, Tryz.ntmps123
  go_wp2
  go_loop [3, 8] (fun s i => ∃ k : Nat, k ≤ l.length ∧ i = .int .i64 k ∧ s = .int .u32 (C.le (l.take k) : Nat)) (fun _ i => l.length - (intOf i).toNat)
  case atStart => exact ⟨0, Nat.zero_le _, rfl, by simp [C.le]⟩
  case round =>
    obtain ⟨k, hk, rfl, rfl⟩ := hrel
    by_cases hlt : k < l.length
    · obtain ⟨b, o, rfl, hc⟩ := hA (by omega)
      have hck := hc k hlt
      have ht : (l.take k).length = k := by rw [List.length_take]; omega
      have hle := C.le_lt (l.take k)
      rw [ht] at hle
      have HX : Hid (C.le (l.take (k + 1)) = C.le (l.take k) + 256 ^ k * (l.getD k 0).toNat) := by
        show _ = _
        rw [List.take_succ_eq_append_getElem hlt, C.le_snoc, ht]; simp [List.getD, hlt]
      generalize C.le (l.take k) = r at hle HX
      generalize l.getD k 0 = x at hck HX
      have hx0 := x.toNat_lt
      have ho := or_step r x.toNat (8 * k) (by rw [Nat.pow_mul]; exact hle) hx0 (by omega)
      rw [show (256 : Nat) ^ k = 2 ^ (8 * k) by rw [Nat.pow_mul]] at HX
      clear hc ht
      rcases (show k = 0 ∨ k = 1 ∨ k = 2 ∨ k = 3 by omega) with rfl | rfl | rfl | rfl
      all_goals
        simp only [Nat.reduceMul, Nat.reducePow, Nat.mul_one, Nat.one_mul, Nat.add_zero] at ho hle hck
        go_wp2
        go_round
        case rel => exact ⟨_, hlt, by go_num, by rw [HX.out]; exact congrArg _ (by simpa using ho)⟩
        case measure => simp [intOf]; omega
    · go_wp2
      go_ret
      exact ⟨ret_int (by rw [List.take_of_length_le (by omega)]), rfl⟩
theorem nb_at (n : Int) (s : BitVec 32) (w : World) (h : (s.toNat : Int) = n) : Calls Tryz.prog 73 #[.int .u32 n] w fun e w' => e = .returned (.slice (some ⟨w.heap.size, 0, none⟩) 4 4) ∧ Own w' w.heap.size (.slice (some ⟨w.heap.size, 0, none⟩) 4 4) (C.four s) ∧ Below w.heap.size w w' := by
  subst h; exact nb_any s w
theorem one_row (w : World) (m : Nat × Nat) : Part.ok (w.alloc (.cells #[.int .u8 1] 5 m)) ⟨some ⟨w.heap.size, 0, none⟩, [1], 1⟩ := ⟨show 1 ≤ maxLen by decide, bat_new w [1] 5 m⟩
set_option maxHeartbeats 2000000 in
theorem put_big (pb : Option Addr) (nb cb : Nat) (pr : Option Addr) (nr cr : Nat) (w : World) (h : 65536 < nr) (h2 : nr ≤ 9223372036854775807) :
    Calls Tryz.prog 60 #[.slice pb nb cb, .slice pr nr cr] w fun e w' => e = .returned (.tuple #[.slice none 0 0, .int .i64 2]) ∧ w' = w := by
  go_enter Tryz.func60, Tryz.ntmps60
  go_wp2
  go_ret2
  exact ⟨rfl, rfl⟩
set_option maxHeartbeats 2000000 in
theorem put_any (pb : Option Addr) (lb : List UInt8) (cb : Nat) (pr : Option Addr) (lr : List UInt8) (cr : Nat) (w : World) (hT : Tabs w) (hb : (Part.mk pb lb cb).ok w) (hr : (Part.mk pr lr cr).ok w) (hlr : lr.length ≤ 65536) (hlb : lb.length ≤ 30000) :
    Calls Tryz.prog 60 #[.slice pb lb.length cb, .slice pr lr.length cr] w fun e w' => (∃ v, e = .returned (.tuple #[v, .int .i64 0]) ∧ Own w' w.heap.size v (lb ++ C.fr lr)) ∧ Below w.heap.size w w' := by
  have HB : Hid ((Part.mk pb lb cb).ok w) := hb
  have HR : Hid ((Part.mk pr lr cr).ok w) := hr
  have HN : Hid (((BitVec.ofNat 32 lr.length).toNat : Int) = (lr.length : Nat)) := by
    show _ = _
    rw [BitVec.toNat_ofNat, Nat.mod_eq_of_lt (by omega)]
  clear hb hr
  go_enter Tryz.func60, Tryz.ntmps60
  go_wp2_with fail
  refine (nb_at _ _ _ HN.out).mono ?_
  rintro e w1 ⟨rfl, ho1, h1⟩
  have HO1 : Hid (Own w1 w.heap.size (.slice (some ⟨w.heap.size, 0, none⟩) 4 4) (C.len4 lr)) := ho1
  have HR1 : Hid ((Part.mk pr lr cr).ok w1) := Part.ok.below HR.out h1
  have HP1 : Hid ((Part.mk (some ⟨w.heap.size, 0, none⟩) (C.len4 lr) 4).ok w1) := Own.okAt HO1.out rfl
  have hT1 := hT.below h1
  clear ho1
  go_wp2_with fail
  refine (of_newB w1 [⟨some ⟨w.heap.size, 0, none⟩, C.len4 lr, 4⟩, ⟨pr, lr, cr⟩] ((C.crc (C.len4 lr ++ lr)).toNat : Nat) 2 _ 2 _ (by simp) rfl rfl hT1 (by simp) (ok_cons HP1.out (ok_one HR1.out)) (by simp [joined])).mono ?_
  rintro e w2 ⟨rfl, h2⟩
  go_wp2_with fail
  refine (nb_any _ _).mono ?_
  rintro e w3 ⟨rfl, ho3, h3⟩
  have HO3 : Hid (Own w3 w2.heap.size (.slice (some ⟨w2.heap.size, 0, none⟩) 4 4) (C.sum4 lr)) := ho3
  clear ho3
  go_wp2_with fail
  have h12 := bt h2 h3
  refine (concat_new (w3.alloc (.cells #[.int .u8 1] 5)) [⟨pb, lb, cb⟩, ⟨some ⟨w3.heap.size, 0, none⟩, [1], 1⟩, ⟨some ⟨w.heap.size, 0, none⟩, C.len4 lr, 4⟩, ⟨some ⟨w2.heap.size, 0, none⟩, C.sum4 lr, 4⟩, ⟨pr, lr, cr⟩] 5 _ 5 _ (lb ++ C.fr lr) (by simp) rfl rfl (by simp)
    (ok_cons ((HB.out.below (bt h1 h12)).below (below_new _ _)) (ok_cons (one_row _ _) (ok_cons ((HP1.out.below h12).below (below_new _ _)) (ok_cons ((Own.okAt HO3.out rfl).below (below_new _ _)) (ok_one ((HR1.out.below h12).below (below_new _ _)))))))
    ?_ (by simp [joined, C.fr])).mono ?_
  · have e1 := C.len4_length lr
    have e2 := C.sum4_length lr
    simp [joined, e1, e2]; omega
  rintro e w4 ⟨⟨v4, rfl, ho4⟩, h4⟩
  have hb4 : Below w.heap.size w w4 := bt (bt h1 h12) (bt (below_new _ _) h4)
  have HO4 : Hid (Own w4 w.heap.size v4 (lb ++ C.fr lr)) := Own.lower ho4 (by have := (bt h1 h12).size; simp; omega)
  clear ho4
  go_wp2
  go_ret2
  exact ⟨⟨v4, rfl, HO4.out⟩, hb4⟩
end Go.Proofs.YtnhplbdbgiimkaaGreatDoor

namespace Go.Proofs.YtnhplbdbgiimkaaGreatDoor
open Go.RowKit Go.Lib
set_option linter.unusedVariables false

/-- A row's part. -/
theorem BAt.sub {w : World} {b o : Nat} {l : List UInt8} (h : BAt w (some ⟨b, o, none⟩) l) (k m : Nat) : BAt w (some ⟨b, o + k, none⟩) ((l.drop k).take m) := fun hl => by
  have hl' : 0 < l.length := by
    rw [List.length_take, List.length_drop] at hl; omega
  obtain ⟨b', o', hp, hc⟩ := h hl'
  simp only [Option.some.injEq, Addr.mk.injEq] at hp
  obtain ⟨rfl, rfl, _⟩ := hp
  refine ⟨b, o + k, rfl, fun i hi => ?_⟩
  rw [List.length_take, List.length_drop] at hi
  rw [Nat.add_assoc, hc (k + i) (by omega)]
  congr 3
  simp [List.getD, show i < m by omega]
theorem BAt.tail {w : World} {b o : Nat} {l : List UInt8} (h : BAt w (some ⟨b, o, none⟩) l) (k : Nat) : BAt w (some ⟨b, o + k, none⟩) (l.drop k) := by
  have := BAt.sub h k l.length
  rwa [List.take_of_length_le (by rw [List.length_drop]; omega)] at this
theorem number_at (p : Option Addr) (n : Nat) (l : List UInt8) (cap r : Nat) (w : World) (hn : n = l.length) (hl : l.length ≤ 4) (hA : BAt w p l) (hr : C.le l = r) :
    Calls Tryz.prog 123 #[.slice p n cap] w fun e w' => e = .returned (.int .u32 (r : Nat)) ∧ w' = w := by
  subst hn hr; exact number_any p l cap w hl hA
theorem of_two (wr : World) (x y : Part) (r : Int) (hT : Tabs wr) (hx : x.ok wr) (hy : y.ok wr) (hr : ((C.crc (x.l ++ y.l)).toNat : Int) = r) (w' : World) (B : Nat) (hc0 : w'.cell? ⟨B, 0, none⟩ = some x.v) (hc1 : w'.cell? ⟨B, 1, none⟩ = some y.v) (hb : Below wr.heap.size wr w') :
    Calls Tryz.prog 74 #[.slice (some ⟨B, 0, none⟩) 2 2] w' fun e w'' => e = .returned (.int .u32 r) ∧ w'' = w' := by
  refine of_at (some ⟨B, 0, none⟩) [x, y] 2 r w' (hT.below hb) (show 2 ≤ maxLen by decide) (fun _ => ⟨B, 0, rfl, fun i z hz => ?_⟩) (ok_cons (hx.below hb) (ok_one (hy.below hb))) (by simpa [joined] using hr)
  match i, hz with
  | 0, hz => simp at hz; subst hz; exact hc0
  | 1, hz => simp at hz; subst hz; exact hc1
set_option maxHeartbeats 4000000 in
theorem fe_any (p : Option Addr) (l : List UInt8) (cap : Nat) (w : World) (hT : Tabs w) (hx : (Part.mk p l cap).ok w) (hcap : l.length ≤ cap) (hcm : cap ≤ maxLen) (hl : l.length ≤ 100000) :
    Calls Tryz.prog 111 #[.slice p l.length cap] w fun e w' => e = .returned (.tuple #[.int .i64 ((C.fe l).1 : Nat), .int .i64 ((C.fe l).2 : Nat)]) ∧ Below w.heap.size w w' := by
  have HX : Hid (BAt w p l) := hx.2
  have HF : Hid (C.fe l = _) := C.fe.eq_1 l
  unfold maxLen at hcm
  clear hx
  go_enter Tryz.func111, Tryz.ntmps111
  by_cases h0 : l.length = 0
  · have HE : Hid (C.fe l = (0, 8)) := by show _ = _; rw [HF.out, if_pos h0]
    go_wp2
    go_ret2
    rw [HE.out]
    exact ⟨rfl, Below.refl _ _⟩
  obtain ⟨b, o, rfl, hc⟩ := HX.out (by omega)
  have hc0 := hc 0 (by omega)
  rw [Nat.add_zero] at hc0
  have HX0 : Hid ((l.getD 0 0 ≠ 1) ↔ ¬ ((l.getD 0 0).toNat : Int) = 1) := by
    refine not_congr ⟨fun h => by rw [h]; rfl, fun h => UInt8.toNat_inj.1 ?_⟩
    show _ = 1; omega
  rw [if_neg h0] at HF
  generalize l.getD 0 0 = x at hc0 HX0 HF
  have hx0 := x.toNat_lt
  by_cases h1 : (x.toNat : Int) = 1
  · have HF1 : Hid (¬ x ≠ 1) := fun h => HX0.out.1 h h1
    have hn4 : ((l.drop 1).take 4).length ≤ 4 := by rw [List.length_take]; omega
    have HN : Hid (((l.drop 1).take 4).length = min 4 (l.length - 1)) := by show _ = _; rw [List.length_take, List.length_drop]
    have HB1 : Hid (BAt w (some ⟨b, o + 1, none⟩) ((l.drop 1).take 4)) := BAt.sub HX.out 1 4
    have HN4 : Hid (((l.drop 1).take 4).length ≤ 4) := hn4
    have HR : Hid (C.le ((l.drop 1).take 4) = C.le ((l.drop 1).take 4)) := rfl
    have HC : Hid (C.le ((l.drop 1).take 4) < 4294967296) := by
      have h5 := C.le_lt ((l.drop 1).take 4)
      exact Nat.lt_of_lt_of_le h5 (Nat.le_trans (Nat.pow_le_pow_right (by decide) hn4) (by decide))
    rw [if_neg HF1.out] at HF
    clear hn4
    go_wp2_with fail
    all_goals
      refine (number_at _ _ ((l.drop 1).take 4) _ (C.le ((l.drop 1).take 4)) _ ?hn HN4.out ?hA rfl).mono ?_
      case hn => rw [HN.out]; omega
      case hA =>
        first
        | exact HB1.out
        | (rw [List.eq_nil_of_length_eq_zero (show ((l.drop 1).take 4).length = 0 by rw [HN.out]; omega)]; exact BAt.nil _ _)
      rintro e w' ⟨rfl, hw'⟩
      subst w'
      generalize hn : C.le ((l.drop 1).take 4) = n at HF HC ⊢
      have HNN : Hid (C.le ((l.drop 1).take 4) = n) := hn
      have hc32 := HC.out
      clear hn HR
      by_cases h2 : (65536 : Int) < n
      · have HE : Hid (C.fe l = (0, 3)) := by show _ = _; rw [HF.out, if_pos (by omega)]
        go_wp2
        go_ret2
        rw [HE.out]
        exact ⟨rfl, Below.refl _ _⟩
      rw [if_neg (by omega)] at HF
      by_cases h3 : (l.length : Int) < 9 + n
      · have HE : Hid (C.fe l = (0, 8)) := by show _ = _; rw [HF.out, if_pos (by omega)]
        go_wp2
        go_ret2
        rw [HE.out]
        exact ⟨rfl, Below.refl _ _⟩
      rw [if_neg (by omega)] at HF
      first
      | (exfalso; omega)
      | have HB5 : Hid (BAt w (some ⟨b, o + 5, none⟩) ((l.drop 5).take 4)) := BAt.sub HX.out 5 4
        have HL1 : Hid (((l.drop 1).take 4).length = 4) := by show _ = _; rw [HN.out]; omega
        have HL5 : Hid (((l.drop 5).take 4).length = 4) := by show _ = _; rw [List.length_take, List.length_drop]; omega
        have HL9 : Hid (((l.drop 9).take n).length = n) := by show _ = _; rw [List.length_take, List.length_drop]; omega
        have HP1 : Hid (Part.ok w ⟨some ⟨b, o + 1, none⟩, (l.drop 1).take 4, cap - 1⟩) := ⟨by show ((l.drop 1).take 4).length ≤ maxLen; rw [HL1.out]; decide, HB1.out⟩
        have HB9 : Hid (BAt w (some ⟨b, o + 9, none⟩) ((l.drop 9).take n)) := BAt.sub HX.out 9 n
        have hn9 : ((l.drop 9).take n).length ≤ maxLen := by rw [HL9.out]; unfold maxLen; omega
        have HM : Hid (((l.drop 9).take n).length ≤ maxLen) := hn9
        have HS0 : Hid (((C.crc ((l.drop 1).take 4 ++ (l.drop 9).take n)).toNat : Int) = ((C.crc ((l.drop 1).take 4 ++ (l.drop 9).take n)).toNat : Nat)) := rfl
        generalize hs : (C.crc ((l.drop 1).take 4 ++ (l.drop 9).take n)).toNat = s at HF
        have HS : Hid (((C.crc ((l.drop 1).take 4 ++ (l.drop 9).take n)).toNat : Int) = (s : Nat)) := by show _ = _; rw [hs]
        generalize hr : C.le ((l.drop 5).take 4) = r at HF
        have HR5 : Hid (C.le ((l.drop 5).take 4) = r) := hr
        clear hs hr HS0 hn9
        have HFE : Hid ((r : Int) = s ∧ C.fe l = (9 + n, 0) ∨ ¬ (r : Int) = s ∧ C.fe l = (0, 3)) := by
          by_cases h : r = s
          · exact Or.inl ⟨by omega, by rw [HF.out, if_neg (by omega)]⟩
          · exact Or.inr ⟨by omega, by rw [HF.out, if_pos h]⟩
        by_cases h9 : cap = 9
        · subst h9
          obtain rfl : n = 0 := by omega
          have HP9 : Hid (Part.ok w ⟨some ⟨b, o, none⟩, (l.drop 9).take 0, 0⟩) := ⟨HM.out, BAt.nil _ _⟩
          go_wp2
          go_region_held3 (fun w' => True) (trivial)
            (first
            | (go_at_call 123; refine (number_at _ _ ((l.drop 5).take 4) _ r _ ?hn ?hl ?hA HR5.out).mono ?_; (case hn => rw [HL5.out]); (case hl => rw [HL5.out]; exact Nat.le_refl _); (case hA => refine BAt.below HB5.out ?_; repeat (first | exact Below.refl _ _ | refine Below.drew ?_ | refine Below.alloc ?_ (by simp) _)); rintro e w' ⟨rfl, hw'⟩; subst w')
            | (go_at_call 74; refine (of_two w ⟨some ⟨b, o + 1, none⟩, (l.drop 1).take 4, 9 - 1⟩ ⟨some ⟨b, o, none⟩, (l.drop 9).take 0, 0⟩ (s : Nat) hT HP1.out HP9.out HS.out _ _ ?hc0 ?hc1 ?hb).mono ?_; (case hc0 => simp [Part.v]; omega); (case hc1 => simp [Part.v]); (case hb => repeat (first | exact Below.refl _ _ | refine Below.drew ?_ | refine Below.alloc ?_ (by simp) _)); rintro e w' ⟨rfl, hw'⟩; subst w'))
          all_goals
            rcases HFE.out with ⟨h4, he⟩ | ⟨h4, he⟩
            all_goals
              have HE : Hid (C.fe l = _) := he
              clear he
              go_wp2
              go_ret2
              rw [HE.out]
              refine ⟨rfl, ?_⟩
              repeat (first | exact Below.refl _ _ | refine Below.drew ?_ | refine Below.alloc ?_ (by simp) _)
        · have HP9 : Hid (Part.ok w ⟨some ⟨b, o + 9, none⟩, (l.drop 9).take n, cap - 9⟩) := ⟨HM.out, HB9.out⟩
          have hi1 : (9 : Int) + (n : Int) ≤ cap := by omega
          have hi2 : (9 : Int) ≤ 9 + (n : Int) := by omega
          have hi3 : (0 : Int) ≤ 9 + (n : Int) := by omega
          have hi4 : (9 : Int) ≤ cap := by omega
          have hi5 : ¬ cap - 9 = 0 := by omega
          have hi7 : (5 : Int) ≤ cap := by omega
          have hi8 : ¬ cap = 1 := by omega
          have hi9 : ¬ cap = 5 := by omega
          have hi6 : ((9 : Int) + (n : Int)).toNat = 9 + n := by omega
          go_wp2
          go_region_held3 (fun w' => True) (trivial)
            (first
            | (go_at_call 123; refine (number_at _ _ ((l.drop 5).take 4) _ r _ ?hn ?hl ?hA HR5.out).mono ?_; (case hn => rw [HL5.out]); (case hl => rw [HL5.out]; exact Nat.le_refl _); (case hA => refine BAt.below HB5.out ?_; repeat (first | exact Below.refl _ _ | refine Below.drew ?_ | refine Below.alloc ?_ (by simp) _)); rintro e w' ⟨rfl, hw'⟩; subst w')
            | (go_at_call 74; refine (of_two w ⟨some ⟨b, o + 1, none⟩, (l.drop 1).take 4, cap - 1⟩ ⟨some ⟨b, o + 9, none⟩, (l.drop 9).take n, cap - 9⟩ (s : Nat) hT HP1.out HP9.out HS.out _ _ ?hc0 ?hc1 ?hb).mono ?_; (case hc0 => simp [Part.v]; omega); (case hc1 => simp [Part.v]; omega); (case hb => repeat (first | exact Below.refl _ _ | refine Below.drew ?_ | refine Below.alloc ?_ (by simp) _)); rintro e w' ⟨rfl, hw'⟩; subst w'))
          all_goals
            rcases HFE.out with ⟨h4, he⟩ | ⟨h4, he⟩
            all_goals
              have HE : Hid (C.fe l = _) := he
              clear he
              go_wp2
              go_ret2
              rw [HE.out]
              refine ⟨rfl, ?_⟩
              repeat (first | exact Below.refl _ _ | refine Below.drew ?_ | refine Below.alloc ?_ (by simp) _)
  · have HE : Hid (C.fe l = (0, 3)) := by show _ = _; rw [HF.out, if_pos (HX0.out.2 h1)]
    go_wp2
    go_ret2
    rw [HE.out]
    exact ⟨rfl, Below.refl _ _⟩
theorem clone_at (p : Option Addr) (n : Nat) (l : List UInt8) (cap : Nat) (w0 w : World) (hn : n = l.length) (hA : BAt w0 p l) (hb : Below w0.heap.size w0 w) (hl : l.length ≤ 100000) :
    Calls Tryz.prog 37 #[.slice p n cap] w fun e w' => (∃ v, e = .returned v ∧ Own w' w0.heap.size v l) ∧ Below w0.heap.size w0 w' ∧ Below w.heap.size w w' := by
  subst hn
  refine (clone_any p l cap w ⟨Nat.le_trans hl (by decide), hA.below hb⟩ (Nat.le_trans hl (by decide))).mono ?_
  rintro e w' ⟨⟨v, rfl, ho⟩, h⟩
  exact ⟨⟨v, rfl, ho.lower hb.size⟩, bt hb h, h⟩
theorem fe_at (p : Option Addr) (l : List UInt8) (n cap m k : Nat) (w0 w : World) (hn : n = l.length) (hT : Tabs w0) (hx : BAt w0 p l) (hb : Below w0.heap.size w0 w) (hcap : l.length ≤ cap) (hcm : cap ≤ maxLen) (hl : l.length ≤ 100000) (hf : C.fe l = (m, k)) :
    Calls Tryz.prog 111 #[.slice p n cap] w fun e w' => e = .returned (.tuple #[.int .i64 (m : Nat), .int .i64 (k : Nat)]) ∧ Below w.heap.size w w' := by
  subst hn
  have := fe_any p l cap w (hT.below hb) ⟨Nat.le_trans hl (by decide), hx.below hb⟩ hcap hcm hl
  rwa [hf] at this
set_option maxHeartbeats 4000000 in
theorem get_bad (p : Option Addr) (l : List UInt8) (cap : Nat) (w : World) (hT : Tabs w) (hx : (Part.mk p l cap).ok w) (hcap : l.length ≤ cap) (hcm : cap ≤ maxLen) (hl : l.length ≤ 100000) (hbad : (C.fe l).2 ≠ 0) :
    Calls Tryz.prog 80 #[.slice p l.length cap] w fun e w' => e = .returned (.tuple #[.slice none 0 0, .slice none 0 0, .int .i64 ((C.fe l).2 : Nat)]) ∧ Below w.heap.size w w' := by
  have HX : Hid ((Part.mk p l cap).ok w) := hx
  have HC1 : Hid (l.length ≤ cap) := hcap
  have HC2 : Hid (cap ≤ maxLen) := hcm
  have HL : Hid (l.length ≤ 100000) := hl
  have h0 : ¬ ((C.fe l).2 : Int) = 0 := by omega
  clear hx hcap hcm hl hbad
  go_enter Tryz.func80, Tryz.ntmps80
  go_wp2_with fail
  refine (fe_any p l cap w hT HX.out HC1.out HC2.out HL.out).mono ?_
  rintro e w1 ⟨rfl, h1⟩
  go_wp2
  go_ret3
  exact ⟨rfl, h1⟩
set_option maxHeartbeats 4000000 in
theorem get_ok (p : Option Addr) (l : List UInt8) (cap : Nat) (w : World) (hT : Tabs w) (hx : (Part.mk p l cap).ok w) (hcap : l.length ≤ cap) (hcm : cap ≤ maxLen) (hl : l.length ≤ 100000) (hok : (C.fe l).2 = 0) :
    Calls Tryz.prog 80 #[.slice p l.length cap] w fun e w' => (∃ v1 v2, e = .returned (.tuple #[v1, v2, .int .i64 0]) ∧ Own w' w.heap.size v1 (C.rec l) ∧ Own w' w.heap.size v2 (C.rest l)) ∧ Below w.heap.size w w' := by
  have HX : Hid ((Part.mk p l cap).ok w) := hx
  have HC1 : Hid (l.length ≤ cap) := hcap
  have HC2 : Hid (cap ≤ maxLen) := hcm
  have HL : Hid (l.length ≤ 100000) := hl
  obtain ⟨hm1, hm2, hm3⟩ := C.fe_ok hok
  have HR1 : Hid (C.rec l = (l.drop 9).take ((C.fe l).1 - 9)) := rfl
  have HR2 : Hid (C.rest l = l.drop (C.fe l).1) := rfl
  have HF : C.fe l = ((C.fe l).1, 0) := by rw [← hok]
  generalize (C.fe l).1 = m at hm1 hm2 hm3 HR1 HR2 HF
  have HFF : Hid (C.fe l = (m, 0)) := HF
  obtain ⟨b, o, rfl, _⟩ := hx.2 (show 0 < l.length by omega)
  have HLR : Hid ((C.rec l).length = m - 9) := by show _ = _; rw [HR1.out, List.length_take, List.length_drop]; omega
  have HLS : Hid ((C.rest l).length = l.length - m) := by show _ = _; rw [HR2.out, List.length_drop]
  have HBR : Hid (BAt w (some ⟨b, o + 9, none⟩) (C.rec l)) := by rw [HR1.out]; exact BAt.sub hx.2 9 (m - 9)
  have HBS : Hid (BAt w (some ⟨b, o + m, none⟩) (C.rest l)) := by rw [HR2.out]; exact BAt.tail hx.2 m
  have hcm' : cap ≤ 9223372036854775807 := Nat.le_trans hcm (by decide)
  clear hx hok HF hcm
  go_enter Tryz.func80, Tryz.ntmps80
  go_wp2_with fail
  refine (fe_at _ l _ cap m 0 w w rfl hT HX.out.2 (Below.refl _ _) HC1.out HC2.out HL.out HFF.out).mono ?_
  rintro e w1 ⟨rfl, h1⟩
  have HB1 : Hid (Below w.heap.size w w1) := h1
  clear h1
  have hi1 : (9 : Int) ≤ m := by omega
  have hi2 : (m : Int) ≤ cap := by omega
  have hi3 : (m : Int) ≤ l.length := by omega
  have hi4 : (l.length : Int) ≤ cap := by omega
  have hi5 : (9 : Int) ≤ cap := by omega
  by_cases hz : l.length = 9
  · have e1 : C.rec l = [] := List.eq_nil_of_length_eq_zero (by rw [HLR.out]; omega)
    have e2 : C.rest l = [] := List.eq_nil_of_length_eq_zero (by rw [HLS.out]; omega)
    obtain rfl : m = 9 := by omega
    have E1 : Hid _ := e1
    have E2 : Hid _ := e2
    clear e1 e2
    by_cases hc9 : cap = 9
    all_goals
      go_wp2
      go_region_held3 (fun w' => True) (trivial)
        (first
        | (go_at_call 37; refine (clone_at _ _ [] _ w _ ?hn (BAt.nil _ _) ?hb (by simp)).mono ?_; (case hn => simp <;> omega); (case hb => repeat (first | exact HB1.out | assumption | refine Below.drew ?_)); rintro e w' ⟨⟨v, rfl, ho⟩, hbw, hbl⟩))
      all_goals
        go_wp2
        go_ret3
        rw [E1.out, E2.out]
        refine ⟨⟨_, _, rfl, ?_, ?_⟩, hbw⟩
        all_goals first | exact ho | exact Own.keep (by assumption) hbl.block
  have hz1 : ¬ cap = 9 := by omega
  by_cases hc : cap = m
  · obtain rfl : cap = m := hc
    have hi7 : ¬ cap - 9 = 0 := by omega
    go_wp2
    go_region_held3 (fun w' => True) (trivial)
      (first
      | (go_at_call_of 37 (some (Addr.mk b o none)); refine (clone_at _ _ [] _ w _ ?hn (BAt.nil _ _) ?hb (by simp)).mono ?_; (case hn => simp <;> omega); (case hb => repeat (first | exact HB1.out | assumption | refine Below.drew ?_)); rintro e w' ⟨⟨v, rfl, ho⟩, hbw, hbl⟩)
      | (go_at_call 37; refine (clone_at _ _ (C.rec l) _ w _ ?hn HBR.out ?hb ?hl).mono ?_; (case hn => rw [HLR.out]); (case hl => rw [HLR.out]; omega); (case hb => repeat (first | exact HB1.out | assumption | refine Below.drew ?_)); rintro e w' ⟨⟨v, rfl, ho⟩, hbw, hbl⟩))
    all_goals
      go_wp2
      go_ret3
      rw [show C.rest l = [] from List.eq_nil_of_length_eq_zero (by rw [HLS.out]; omega)]
      refine ⟨⟨_, _, rfl, ?_, ?_⟩, hbw⟩
      all_goals first | exact ho | exact Own.keep (by assumption) hbl.block
  · have hi7 : ¬ cap - 9 = 0 := by omega
    have hi8 : ¬ cap - m = 0 := by omega
    go_wp2
    go_region_held3 (fun w' => True) (trivial)
      (first
      | (go_at_call_of 37 (o + m); refine (clone_at _ _ (C.rest l) _ w _ ?hn HBS.out ?hb ?hl).mono ?_; (case hn => rw [HLS.out]); (case hl => rw [HLS.out]; omega); (case hb => repeat (first | exact HB1.out | assumption | refine Below.drew ?_)); rintro e w' ⟨⟨v, rfl, ho⟩, hbw, hbl⟩)
      | (go_at_call 37; refine (clone_at _ _ (C.rec l) _ w _ ?hn HBR.out ?hb ?hl).mono ?_; (case hn => rw [HLR.out]); (case hl => rw [HLR.out]; omega); (case hb => repeat (first | exact HB1.out | assumption | refine Below.drew ?_)); rintro e w' ⟨⟨v, rfl, ho⟩, hbw, hbl⟩))
    all_goals
      go_wp2
      go_ret3
      refine ⟨⟨_, _, rfl, ?_, ?_⟩, hbw⟩
      all_goals first | exact ho | exact Own.keep (by assumption) hbl.block
end Go.Proofs.YtnhplbdbgiimkaaGreatDoor
