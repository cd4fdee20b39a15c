/-
  Several texts in one: WEntry, WRead, WRead2.
-/
import Derived.Test.YtnhplbdbgiimkaaGreatDoorZ5
import Derived.Test.YtnhplbdbgiimkaaGreatDoorZ6
import Derived.Test.YtnhplbdbgiimkaaGreatDoorZ7
import Derived.Test.YtnhplbdbgiimkaaGreatDoorZ13
namespace Go.Proofs.YtnhplbdbgiimkaaGreatDoor
open Go.RowKit Go.Lib
set_option linter.unusedVariables false

theorem nb_row (z : Nat) (hz : z < 4294967296) : bytesV (C.nb z) = [.int .u8 ((z : Int) % 256), .int .u8 ((z : Int) / 256 % 256), .int .u8 ((z : Int) / 65536 % 256), .int .u8 ((z : Int) / 16777216)] := by
  have e : (BitVec.ofNat 32 z).toNat = z := by rw [BitVec.toNat_ofNat, Nat.mod_eq_of_lt (by omega)]
  simp only [bytesV, C.nb, C.four, byteV, List.map_cons, List.map_nil, UInt8.toNat_ofNat', e]
  refine congr (congrArg _ ?_) (congr (congrArg _ ?_) (congr (congrArg _ ?_) (congr (congrArg _ ?_) rfl))) <;> congr 1 <;> omega
theorem nb_lit (w : World) (z : Nat) (vs : Array Value) (c : Nat) (hv : vs.toList = bytesV (C.nb z)) : Part.ok (w.alloc (.cells vs 5)) ⟨some ⟨w.heap.size, 0, none⟩, C.nb z, c⟩ := by
  have := bat_new w (C.nb z) 5 (0, 0)
  refine ⟨show 4 ≤ maxLen by decide, ?_⟩
  have e : vs = ((C.nb z).map fun b => Value.int .u8 (b.toNat : Nat)).toArray := by rw [← Array.toArray_toList (xs := vs), hv]; rfl
  rw [e]; exact this
set_option maxRecDepth 100000 in
set_option maxHeartbeats 2000000 in
theorem numbers_any (p : Option Addr) (zs : List Nat) (cap : Nat) (w : World) (hl : zs.length ≤ 9) (hz : ∀ z ∈ zs, z < 4294967296) (hA : NAt w p zs) :
    Calls Tryz.prog 61 #[.slice p zs.length cap] w fun e w' => (∃ v, e = .returned v ∧ Own w' w.heap.size v (zs.flatMap C.nb)) ∧ Below w.heap.size w w' := by
  have HA : Hid (NAt w p zs) := hA
  have HZ : Hid (∀ z ∈ zs, z < 4294967296) := hz
  have HS : Hid (∀ k z, zs[k]? = some z → (zs.take (k + 1)).flatMap C.nb = (zs.take k).flatMap C.nb ++ C.nb z) := by
    intro k z h
    rw [List.take_add_one, h]; simp
  have HLE : Hid (∀ k, ((zs.take k).flatMap C.nb).length ≤ 100) := by
    intro k
    have : ∀ l : List Nat, (l.flatMap C.nb).length = 4 * l.length := by
      intro l
      induction l with
      | nil => rfl
      | cons x r ih => rw [List.flatMap_cons, List.length_append, ih, C.nb_length, List.length_cons]; omega
    rw [this, List.length_take]; omega
  clear hA hz
  go_enter Tryz.func61, Tryz.ntmps61
  go_wp2
  go_loopw [3, 8] (fun v i wr => ∃ k : Nat, k ≤ zs.length ∧ i = .int .i64 k ∧ Own wr w.heap.size v ((zs.take k).flatMap C.nb) ∧ Below w.heap.size w wr) (fun _ i _ => zs.length - (intOf i).toNat)
  case atStart => exact ⟨0, Nat.zero_le _, rfl, by simpa using Own.nil w w.heap.size, Below.refl _ _⟩
  case round =>
    obtain ⟨k, hk, rfl, how, hbw⟩ := hrel
    have HOW : Hid _ := how
    have HBW : Hid (Below w.heap.size w wr) := hbw
    clear how hbw
    by_cases hlt : k < zs.length
    · obtain ⟨b, o, rfl, hc⟩ := (NAt.below HA.out HBW.out) (by omega)
      have hck := hc k hlt
      have hg : zs[k]? = some (zs.getD k 0) := by simp [List.getD, hlt]
      have hzk := HZ.out (zs.getD k 0) (List.mem_of_getElem? hg)
      have HE : Hid _ := HS.out k _ hg
      have HL := HLE.out k
      generalize zs.getD k 0 = z at hck hzk HE
      have hlit := nb_lit wr z #[.int .u8 ((z : Int) % 256), .int .u8 ((z : Int) / 256 % 256), .int .u8 ((z : Int) / 65536 % 256), .int .u8 ((z : Int) / 16777216)] 4 (nb_row z hzk).symm
      have HO : Hid (Own (wr.alloc (.cells #[.int .u8 ((z : Int) % 256), .int .u8 ((z : Int) / 256 % 256), .int .u8 ((z : Int) / 65536 % 256), .int .u8 ((z : Int) / 16777216)] 5)) w.heap.size _ _) := Own.below HOW.out (below_new _ _)
      have HB2 : Hid (Below w.heap.size w (wr.alloc (.cells #[.int .u8 ((z : Int) % 256), .int .u8 ((z : Int) / 256 % 256), .int .u8 ((z : Int) / 65536 % 256), .int .u8 ((z : Int) / 16777216)] 5))) := bt HBW.out (below_new _ _)
      have HLT : Hid _ := hlit
      clear hlit hc hg
      go_wp2_with (at_builtin; go_must ((refine wpList_append_part rfl _ _ rfl w.heap.size _ ((zs.take k).flatMap C.nb) rfl HO.out ⟨some ⟨wr.heap.size, 0, none⟩, C.nb z, 4⟩ rfl HLT.out (by rw [C.nb_length]; omega) HB2.out.size ?_; intro v2 w2 ho2 hg2; have h2 := Own.grown HO.out HB2.out HB2.out.size hg2)))
      go_roundw
      case rel => exact ⟨k + 1, by omega, by go_num, by rw [HE.out]; exact ho2, h2⟩
      case measure => simp [intOf]; omega
    · go_wp2
      go_ret
      exact ⟨⟨_, rfl, by have := HOW.out; rw [List.take_of_length_le (by omega)] at this; exact this⟩, HBW.out⟩
theorem nil_ok (w : World) : (Part.mk none [] 0).ok w := ok_nil _ _ _
set_option maxRecDepth 100000 in
set_option maxHeartbeats 2000000 in
theorem entry_any (a n : Nat) (p : Option Addr) (l : List UInt8) (cap : Nat) (w : World) (hT : Tabs w) (hx : (Part.mk p l cap).ok w) (ha : a < 4294967296) (hn : n < 4294967296) (hl : l.length ≤ 65536) :
    Calls Tryz.prog 40 #[.int .i64 (a : Nat), .int .i64 (n : Nat), .slice p l.length cap] w fun e w' => (∃ v, e = .returned v ∧ Own w' w.heap.size v (C.ent a n l)) ∧ Below w.heap.size w w' := by
  have HX : Hid ((Part.mk p l cap).ok w) := hx
  have HT : Hid (Tabs w) := hT
  have HC : Hid _ := numbers_any (some ⟨w.heap.size, 0, none⟩) [a, n, l.length] 3 (w.alloc (.cells #[.int .i64 (a : Nat), .int .i64 (n : Nat), .int .i64 (l.length : Nat)] 3)) (show 3 ≤ 9 by decide) (by intro z hz; simp at hz; omega) (nat_new w [a, n, l.length] 3 (0, 0))
  clear hx hT
  go_enter Tryz.func40, Tryz.ntmps40
  go_wp2_with fail
  refine Calls.mono HC.out ?_
  rintro e w1 ⟨⟨v1, rfl, ho1⟩, h1⟩
  have HB1 : Hid (Below w.heap.size w w1) := bt (below_new _ _) h1
  obtain ⟨p1, c1, rfl, hp1⟩ := Own.part ho1
  have e1 : [a, n, l.length].flatMap C.nb = C.hd a n l.length := by simp [C.hd]
  rw [e1] at hp1
  have HP1 : Hid _ := hp1
  have e2 : ([a, n, l.length].flatMap C.nb).length = (C.hd a n l.length).length := by rw [e1]
  rw [e2]
  have HP := put_any none [] 0 p1 (C.hd a n l.length) c1 w1 (Tabs.below HT.out HB1.out) (nil_ok _) HP1.out (by rw [C.hd_length]; decide) (by decide)
  have HPP : Hid _ := HP
  clear ho1 h1 hp1 e1 e2 HP
  go_wp2_with fail
  refine Calls.mono HPP.out ?_
  rintro e w2 ⟨⟨v2, rfl, ho2⟩, h2⟩
  obtain ⟨p2, c2, rfl, hp2⟩ := Own.part ho2
  rw [List.nil_append] at hp2
  have HB2 : Hid (Below w.heap.size w w2) := bt HB1.out h2
  have HQ : Hid _ := put_any p2 (C.fr (C.hd a n l.length)) c2 p l cap w2 (Tabs.below HT.out HB2.out) hp2 (Part.ok.below HX.out HB2.out) hl (by rw [C.fr_length, C.hd_length]; decide)
  rw [List.nil_append]
  clear ho2 h2 hp2 HPP
  go_wp2_with fail
  refine Calls.mono HQ.out ?_
  rintro e w3 ⟨⟨v3, rfl, ho3⟩, h3⟩
  go_wp2
  go_ret
  exact ⟨⟨_, rfl, ho3.lower HB2.out.size⟩, bt HB2.out h3⟩
end Go.Proofs.YtnhplbdbgiimkaaGreatDoor

namespace Go.Proofs.YtnhplbdbgiimkaaGreatDoor
open Go.RowKit Go.Lib
set_option linter.unusedVariables false

theorem i64_or_nat (a b : Nat) (ha : a < 4294967296) (hb : b < 4294967296) : bits .or .i64 (a : Int) (b : Int) = ((a ||| b : Nat) : Int) := by
  have hx : a ||| b < 2 ^ 32 := Nat.or_lt_two_pow (by omega) (by omega)
  show IntKind.i64.wrap ((BitVec.ofInt 64 (a : Int) ||| BitVec.ofInt 64 (b : Int)).toNat : Int) = _
  rw [BitVec.toNat_or, ofInt_u64 a (by omega), ofInt_u64 b (by omega)]
  simp [IntKind.wrap, IntKind.bits, IntKind.signed]
  omega
theorem or_stepI (a x k : Nat) (ha : a < 2 ^ k) (hx : x < 256) (hk : k ≤ 24) : bits .or .i64 (a : Int) ((x * 2 ^ k : Nat) : Int) = ((a + 2 ^ k * x : Nat) : Int) := by
  have h2 : (2 : Nat) ^ k ≤ 2 ^ 24 := Nat.pow_le_pow_right (by decide) hk
  have h3 : x * 2 ^ k ≤ 255 * 2 ^ 24 := Nat.mul_le_mul (by omega) h2
  rw [i64_or_nat _ _ (by omega) (by omega), Nat.mul_comm x, Nat.or_comm, ← Nat.two_pow_add_eq_or_of_lt ha, Nat.add_comm]
set_option linter.unnecessarySimpa false
set_option maxHeartbeats 1000000 in
theorem wnum_any (b o n cap : Nat) (l : List UInt8) (w : World) (hl : l.length = 4) (hc4 : 4 ≤ cap) (hcm : cap ≤ 9223372036854775807) (hA : BAt w (some ⟨b, o, none⟩) l) :
    Calls Tryz.prog 110 #[.slice (some ⟨b, o, none⟩) n cap] w fun e w' => e = .returned (.int .i64 (C.le l : Nat)) ∧ w' = w := by
  have HA : Hid (BAt w (some ⟨b, o, none⟩) l) := hA
  have hi : (4 : Int) ≤ cap := by omega
  clear hA
  go_enter Tryz.func110, Tryz.ntmps110
  go_wp2
  go_loop [3, 9] (fun s i => ∃ k : Nat, k ≤ 4 ∧ i = .int .i64 k ∧ s = .int .i64 (C.le (l.take k) : Nat)) (fun _ i => 4 - (intOf i).toNat)
  case atStart => exact ⟨0, Nat.zero_le _, rfl, by simp [C.le]⟩
  case round =>
    obtain ⟨k, hk, rfl, rfl⟩ := hrel
    by_cases hlt : k < 4
    · obtain ⟨b', o', hp, hc⟩ := HA.out (by omega)
      cases hp
      have hck := hc k (by omega)
      have ht : (l.take k).length = k := by rw [List.length_take]; omega
      have hle := C.le_lt (l.take k)
      rw [ht] at hle
      have HX : Hid (C.le (l.take (k + 1)) = C.le (l.take k) + 256 ^ k * (l.getD k 0).toNat) := by
        show _ = _
        rw [List.take_succ_eq_append_getElem (by omega), C.le_snoc, ht]; simp [List.getD, show k < l.length by omega]
      generalize C.le (l.take k) = r at hle HX
      generalize l.getD k 0 = x at hck HX
      have hx0 := x.toNat_lt
      have ho := or_stepI r x.toNat (8 * k) (by rw [Nat.pow_mul]; exact hle) hx0 (by omega)
      rw [show (256 : Nat) ^ k = 2 ^ (8 * k) by rw [Nat.pow_mul]] at HX
      clear hc ht
      rcases (show k = 0 ∨ k = 1 ∨ k = 2 ∨ k = 3 by omega) with rfl | rfl | rfl | rfl
      all_goals
        simp only [Nat.reduceMul, Nat.reducePow, Nat.mul_one, Nat.one_mul, Nat.add_zero] at ho hle hck
        go_wp2
        go_round
        case rel => exact ⟨_, hlt, by go_num, by rw [HX.out]; exact congrArg _ (by simpa using ho)⟩
        case measure => simp [intOf] <;> omega
    · go_wp2
      go_ret
      exact ⟨ret_int (by rw [List.take_of_length_le (by omega)]), rfl⟩
theorem Own.caps {w : World} {base n c : Nat} {p : Option Addr} {l : List UInt8} (h : Own w base (.slice p n c) l) : l.length ≤ c ∧ c ≤ maxLen := by
  rcases h.2 with ⟨hv, h0⟩ | ⟨g', cap', cur, hv, _, _, hn', hm', _⟩
  · simp only [Value.slice.injEq] at hv
    exact ⟨by omega, by rw [hv.2.2]; exact Nat.zero_le _⟩
  · simp only [Value.slice.injEq] at hv
    obtain ⟨_, _, rfl⟩ := hv
    exact ⟨hn', hm'⟩
def C.N (r : List UInt8) (off : Nat) : Nat := C.le ((r.drop off).take 4)
theorem wnum_at (g n cap off : Nat) (r : List UInt8) (w0 w : World) (hr : r.length = 12) (h8 : off ≤ 8) (hc4 : 4 ≤ cap) (hcm : cap ≤ 9223372036854775807) (hA : BAt w0 (some ⟨g, 0, none⟩) r) (hb : Below w0.heap.size w0 w) :
    Calls Tryz.prog 110 #[.slice (some ⟨g, off, none⟩) n cap] w fun e w' => e = .returned (.int .i64 (C.N r off : Nat)) ∧ w' = w := by
  refine wnum_any g off n cap ((r.drop off).take 4) w (by rw [List.length_take, List.length_drop]; omega) hc4 hcm ?_
  have := BAt.sub (hA.below hb) off 4
  rwa [Nat.zero_add] at this
/-- What readHead answers. -/
def HdRet (e : Ending) (l : List UInt8) : Prop := (C.Hd l ∧ e = .returned (.tuple #[.agg #[.int .i64 (C.h1 l : Nat), .int .i64 (C.h2 l : Nat), .int .i64 (C.h3 l : Nat)], .bool true])) ∨ (¬ C.Hd l ∧ ∃ x y z : Nat, e = .returned (.tuple #[.agg #[.int .i64 (x : Nat), .int .i64 (y : Nat), .int .i64 (z : Nat)], .bool false]))
theorem N_lt (r : List UInt8) (off : Nat) : C.N r off < 4294967296 := by
  unfold C.N
  have h5 := C.le_lt ((r.drop off).take 4)
  have : ((r.drop off).take 4).length ≤ 4 := by rw [List.length_take]; omega
  exact Nat.lt_of_lt_of_le h5 (Nat.le_trans (Nat.pow_le_pow_right (by decide) this) (by decide))
set_option maxRecDepth 100000 in
set_option maxHeartbeats 4000000 in
theorem head_any (p : Option Addr) (l : List UInt8) (n cap : Nat) (w : World) (hT : Tabs w) (hx : (Part.mk p l cap).ok w) (hn : n = l.length) (hcap : l.length ≤ cap) (hcm : cap ≤ maxLen) (hl : l.length = 21) :
    Calls Tryz.prog 79 #[.slice p n cap] w fun e w' => HdRet e l ∧ Below w.heap.size w w' := by
  subst hn
  by_cases h0 : (C.fe l).2 = 0
  · have HG : Hid (∀ w1, Below w.heap.size w w1 → _) := fun w1 h => get_ok p l cap w1 (hT.below h) (hx.below h) hcap hcm (by omega) h0
    have hrl := C.rec_length h0
    by_cases h12 : (C.rec l).length = 12
    · have HH : Hid (C.Hd l ↔ C.N (C.rec l) 8 ≤ 65536) := ⟨fun h => h.2.2, fun h => ⟨h0, h12, h⟩⟩
      have e1 : C.h1 l = C.N (C.rec l) 0 := rfl
      have e2 : C.h2 l = C.N (C.rec l) 4 := rfl
      have e3 : C.h3 l = C.N (C.rec l) 8 := rfl
      unfold HdRet
      rw [e1, e2, e3]
      have b0 := N_lt (C.rec l) 0
      have b4 := N_lt (C.rec l) 4
      have b8 := N_lt (C.rec l) 8
      generalize C.rec l = r at HG h12 HH b0 b4 b8 ⊢
      clear hrl h0 hcap hcm hl hx e1 e2 e3
      go_enter Tryz.func79, Tryz.ntmps79
      go_wp2_with fail
      refine Calls.mono (HG.out _ (below_new _ _)) ?_
      rintro e w1 ⟨⟨v1, v2, rfl, ho1, ho2⟩, hb1⟩
      obtain ⟨g, c, rfl, hg⟩ := Own.shape ho1 (by omega)
      rw [h12] at ho1 ⊢
      have HB : Hid (BAt w1 (some ⟨g, 0, none⟩) r) := (Own.okAt ho1 h12.symm).2
      obtain ⟨hc1, hc2'⟩ := Own.caps ho1
      rw [h12] at hc1
      have hc2 : c ≤ 9223372036854775807 := Nat.le_trans hc2' (by decide)
      have hi4 : (4 : Int) ≤ 12 := by decide
      have hi5 : ¬ c - 4 = 0 := by omega
      have hi6 : ¬ c - 8 = 0 := by omega
      have HB1 : Hid (Below w.heap.size w w1) := bt (below_new _ _) hb1
      have HBN : Hid (Below w1.heap.size w1 w1) := Below.refl _ _
      have hres : w1.heap[w.heap.size]? = some (.cells #[.int .i64 0, .int .i64 0, .int .i64 0] 110) := by
        rw [hb1.block _ (by simp)]; exact heap_alloc_new w _
      have r0 := blk_cell hres 0
      have r1 := blk_cell hres 1
      have r2 := blk_cell hres 2
      have f0 := blk_free hres 0
      have f1 := blk_free hres 1
      have f2 := blk_free hres 2
      simp only [List.getElem?_toArray, List.getElem?_cons_succ, List.getElem?_cons_zero] at r0 r1 r2
      have hwl : w.heap.size < w1.heap.size := (Array.getElem?_eq_some_iff.1 hres).1
      have HRES : Hid _ := hres
      clear ho1 ho2 hb1 hc2' hres
      go_wp2
      go_region_held3 (fun w' => True) (trivial)
        (first
        | (go_at_call 110; refine (wnum_at g _ _ _ r w1 _ h12 ?h8 ?hc4 ?hcm HB.out ?hb).mono ?_; (case h8 => decide); (case hc4 => omega); (case hcm => omega); (case hb => repeat (first | exact HBN.out | refine Below.drew ?_ | refine Below.alloc ?_ (by simp) _)); rintro e w' ⟨rfl, hw'⟩; subst w'))
      all_goals
        go_wp2
        go_region
        all_goals
          go_wp2
          (try simp only [Exit.inBlock, Exit.then])
          refine bodyPost_ret (results_c1 rfl _ _ w.heap.size 110 #[.int .i64 (C.N r 0 : Nat), .int .i64 (C.N r 4 : Nat), .int .i64 (C.N r 8 : Nat)] (0, 0) _ rfl ?blk Tryz.underlying110 rfl (by kernel_rfl)) rfl ?_
          case blk =>
            simp only [drew_heap]
            exact alloc_blk (set3 HRES.out)
          refine ⟨?_, ?_⟩
          · by_cases h6 : (C.N r 8 : Int) ≤ 65536
            · refine Or.inl ⟨HH.out.2 (by omega), ?_⟩
              show Ending.returned (.tuple #[.agg #[.int .i64 (C.N r 0 : Nat), .int .i64 (C.N r 4 : Nat), .int .i64 (C.N r 8 : Nat)], .bool (decide ((C.N r 8 : Int) ≤ 65536))]) = _
              rw [decide_eq_true h6]
            · refine Or.inr ⟨fun h => (by have := HH.out.1 h; omega), C.N r 0, C.N r 4, C.N r 8, ?_⟩
              show Ending.returned (.tuple #[.agg #[.int .i64 (C.N r 0 : Nat), .int .i64 (C.N r 4 : Nat), .int .i64 (C.N r 8 : Nat)], .bool (decide ((C.N r 8 : Int) ≤ 65536))]) = _
              rw [decide_eq_false h6]
          · repeat (first | exact HB1.out | refine Below.drew ?_ | refine Below.alloc ?_ (by simp [World.setCell]; omega) _ | refine Below.setCell ?_ (show w.heap.size ≤ w.heap.size from Nat.le_refl _) _)
    · have HH : Hid (¬ C.Hd l) := fun h => h12 h.2.1
      generalize C.rec l = r at HG h12 hrl
      have hr5 : r.length ≤ 65536 := by have := C.fe_ok h0; omega
      clear hrl h0 hcap hcm hl hx
      go_enter Tryz.func79, Tryz.ntmps79
      go_wp2_with fail
      refine Calls.mono (HG.out _ (below_new _ _)) ?_
      rintro e w1 ⟨⟨v1, v2, rfl, ho1, ho2⟩, hb1⟩
      obtain ⟨p1, c1, rfl, hp1⟩ := Own.part ho1
      have hres : w1.heap[w.heap.size]? = some (.cells #[.int .i64 0, .int .i64 0, .int .i64 0] 110) := by
        rw [hb1.block _ (by simp)]; exact heap_alloc_new w _
      have r0 := blk_cell hres 0
      have r1 := blk_cell hres 1
      have r2 := blk_cell hres 2
      have f0 := blk_free hres 0
      have f1 := blk_free hres 1
      have f2 := blk_free hres 2
      simp only [List.getElem?_toArray, List.getElem?_cons_succ, List.getElem?_cons_zero] at r0 r1 r2
      have HB1 : Hid (Below w.heap.size w w1) := bt (below_new _ _) hb1
      have h12i : ¬ (r.length : Int) = 12 := by omega
      have HRES : Hid _ := hres
      clear ho1 ho2 hb1 hres hp1
      go_wp2
      (try simp only [Exit.inBlock, Exit.then])
      refine bodyPost_ret (results_c1 rfl _ _ w.heap.size 110 #[.int .i64 0, .int .i64 0, .int .i64 0] (0, 0) _ rfl ?blk2 Tryz.underlying110 rfl (by kernel_rfl)) rfl ?_
      case blk2 => exact set3 HRES.out
      refine ⟨Or.inr ⟨HH.out, 0, 0, 0, rfl⟩, ?_⟩
      repeat (first | exact HB1.out | refine Below.drew ?_ | refine Below.setCell ?_ (show w.heap.size ≤ w.heap.size from Nat.le_refl _) _)
  · have HG : Hid (∀ w1, Below w.heap.size w w1 → _) := fun w1 h => get_bad p l cap w1 (hT.below h) (hx.below h) hcap hcm (by omega) h0
    have HH : Hid (¬ C.Hd l) := fun h => h0 h.1
    have hz : ¬ ((C.fe l).2 : Int) = 0 := by omega
    generalize (C.fe l).2 = k at HG hz
    clear h0 hcap hcm hl hx
    go_enter Tryz.func79, Tryz.ntmps79
    go_wp2_with fail
    refine Calls.mono (HG.out _ (below_new _ _)) ?_
    rintro e w1 ⟨rfl, hb1⟩
    have hres : w1.heap[w.heap.size]? = some (.cells #[.int .i64 0, .int .i64 0, .int .i64 0] 110) := by
      rw [hb1.block _ (by simp)]; exact heap_alloc_new w _
    have r0 := blk_cell hres 0
    have r1 := blk_cell hres 1
    have r2 := blk_cell hres 2
    have f0 := blk_free hres 0
    have f1 := blk_free hres 1
    have f2 := blk_free hres 2
    simp only [List.getElem?_toArray, List.getElem?_cons_succ, List.getElem?_cons_zero] at r0 r1 r2
    have HB1 : Hid (Below w.heap.size w w1) := bt (below_new _ _) hb1
    have HRES : Hid _ := hres
    clear hb1 hres
    go_wp2
    (try simp only [Exit.inBlock, Exit.then])
    refine bodyPost_ret (results_c1 rfl _ _ w.heap.size 110 #[.int .i64 0, .int .i64 0, .int .i64 0] (0, 0) _ rfl ?blk3 Tryz.underlying110 rfl (by kernel_rfl)) rfl ?_
    case blk3 => exact set3 HRES.out
    refine ⟨Or.inr ⟨HH.out, 0, 0, 0, rfl⟩, ?_⟩
    repeat (first | exact HB1.out | refine Below.drew ?_ | refine Below.setCell ?_ (show w.heap.size ≤ w.heap.size from Nat.le_refl _) _)
end Go.Proofs.YtnhplbdbgiimkaaGreatDoor

namespace Go.Proofs.YtnhplbdbgiimkaaGreatDoor
open Go.RowKit Go.Lib
set_option linter.unusedVariables false

theorem BAt.pre {w : World} {p : Option Addr} {l : List UInt8} (h : BAt w p l) (m : Nat) : BAt w p (l.take m) := fun hl => by
  have hl' : 0 < l.length := by rw [List.length_take] at hl; omega
  obtain ⟨b, o, rfl, hc⟩ := h hl'
  have := BAt.sub h 0 m
  rw [List.drop_zero, Nat.add_zero] at this
  exact this hl
/-- What readEntry answers. -/
def EntRet (e : Ending) (w w' : World) (R : C.ERes) : Prop := ∃ (z : Nat) (v : Value), e = .returned (.tuple #[.agg #[.int .i64 (R.a : Nat), .int .i64 (R.n : Nat), .int .i64 (z : Nat)], v, .int .i64 (R.code : Nat)]) ∧ Own w' w.heap.size v R.r
set_option maxRecDepth 100000 in
set_option maxHeartbeats 4000000 in
theorem rent_any (p : Option Addr) (l : List UInt8) (n cap : Nat) (w : World) (hT : Tabs w) (hx : (Part.mk p l cap).ok w) (hn : n = l.length) (hcap : l.length ≤ cap) (hcm : cap ≤ maxLen) :
    Calls Tryz.prog 67 #[.slice p n cap] w fun e w' => EntRet e w w' (C.rdE l) ∧ Below w.heap.size w w' := by
  subst hn
  have hcm' : cap ≤ 9223372036854775807 := Nat.le_trans hcm (by decide)
  have HR : Hid (C.rdE l = _) := C.rdE.eq_1 l
  have f0 : ∀ o, (w.alloc (.cells #[.int .i64 0, .int .i64 0, .int .i64 0] 110)).frozen? ⟨w.heap.size, o, none⟩ = false := fun o => blk_free (heap_alloc_new w _) o
  by_cases h0 : l.length < 21
  · have HE : Hid (C.rdE l = C.gapR) := by show _ = _; rw [HR.out, if_pos h0]
    have h0i : (l.length : Int) < 21 := by omega
    rw [HE.out]
    clear HR HE hx hT hcap
    go_enter Tryz.func67, Tryz.ntmps67
    go_wp2
    refine bodyPost_ret (results_c2 rfl _ _ w.heap.size 110 #[.int .i64 0, .int .i64 0, .int .i64 0] (0, 0) _ rfl ?b1 Tryz.underlying110 rfl (by kernel_rfl)) rfl ?_
    case b1 => exact heap_alloc_new w _
    exact ⟨⟨0, _, rfl, Own.nil _ _⟩, below_new _ _⟩
  rw [if_neg h0] at HR
  obtain ⟨b, o, rfl, _⟩ := hx.2 (show 0 < l.length by omega)
  have hl21 : (l.take 21).length = 21 := by rw [List.length_take]; omega
  have HH : Hid (∀ w1, Below w.heap.size w w1 → _) := fun w1 h => head_any (some ⟨b, o, none⟩) (l.take 21) 21 cap w1 (hT.below h) ⟨by rw [hl21]; decide, (BAt.pre hx.2 21).below h⟩ hl21.symm (by omega) hcm hl21
  have HX : Hid (BAt w (some ⟨b, o, none⟩) l) := hx.2
  have HT : Hid (Tabs w) := hT
  have HCM : Hid (cap ≤ maxLen) := hcm
  have hc21 : (21 : Int) ≤ cap := by omega
  have h0i : ¬ (l.length : Int) < 21 := by omega
  clear hx hT hl21 hcm
  by_cases hd : C.Hd (l.take 21)
  · rw [if_neg (C.hdB_true hd)] at HR
    have h3 : C.h3 (l.take 21) ≤ 65536 := hd.2.2
    have HD : Hid (C.Hd (l.take 21)) := hd
    have e5 : C.Bd l = (l.drop 21).take (9 + C.h3 (l.take 21)) := rfl
    have HE5 : Hid _ := e5
    have b1 := N_lt (C.rec (l.take 21)) 0
    have b2 := N_lt (C.rec (l.take 21)) 4
    change C.h1 (l.take 21) < _ at b1
    change C.h2 (l.take 21) < _ at b2
    clear e5 hd
    go_enter Tryz.func67, Tryz.ntmps67
    go_wp2_with fail
    refine Calls.mono (HH.out _ (below_new _ _)) ?_
    rintro e w1 ⟨hr, hb1⟩
    have hres : w1.heap[w.heap.size]? = some (.cells #[.int .i64 0, .int .i64 0, .int .i64 0] 110) := by
      rw [hb1.block _ (by simp)]; exact heap_alloc_new w _
    have r0 := blk_cell hres 0
    have r1 := blk_cell hres 1
    have r2 := blk_cell hres 2
    have f0' := blk_free hres 0
    have f1 := blk_free hres 1
    have f2 := blk_free hres 2
    simp only [List.getElem?_toArray, List.getElem?_cons_succ, List.getElem?_cons_zero] at r0 r1 r2
    have hwl : w.heap.size < w1.heap.size := (Array.getElem?_eq_some_iff.1 hres).1
    have HRES : Hid _ := hres
    have HB1 : Hid (Below w.heap.size w w1) := bt (below_new _ _) hb1
    obtain ⟨_, rfl⟩ | ⟨hd, _⟩ := hr
    rotate_left
    · exact absurd HD.out hd
    generalize C.h1 (l.take 21) = x1 at HR b1 ⊢
    generalize C.h2 (l.take 21) = x2 at HR b2 ⊢
    generalize C.h3 (l.take 21) = x3 at HR h3 HE5 ⊢
    clear hres hb1 f0 HH HD
    by_cases h4 : (l.length : Int) < 30 + x3
    · have HE : Hid (C.rdE l = C.gapR) := by show _ = _; rw [HR.out, if_pos (by omega)]
      clear HR
      go_wp2
      refine bodyPost_ret (results_c2 rfl _ _ w.heap.size 110 #[.int .i64 0, .int .i64 0, .int .i64 0] (0, 0) _ rfl ?b3 Tryz.underlying110 rfl (by kernel_rfl)) rfl ?_
      case b3 => exact alloc_blk (set3 HRES.out)
      rw [HE.out]
      refine ⟨⟨0, _, rfl, Own.nil _ _⟩, ?_⟩
      repeat (first | exact HB1.out | refine Below.drew ?_ | refine Below.alloc ?_ (by simp [World.setCell]; omega) _ | refine Below.setCell ?_ (show w.heap.size ≤ w.heap.size from Nat.le_refl _) _)
    rw [if_neg (by omega)] at HR
    have hyl : (C.Bd l).length = 9 + x3 := by rw [HE5.out, List.length_take, List.length_drop]; omega
    have hyx : BAt w (some ⟨b, o + 21, none⟩) (C.Bd l) := by rw [HE5.out]; exact BAt.sub HX.out 21 (9 + x3)
    have hya : ∀ w2, Below w.heap.size w w2 → (Part.mk (some ⟨b, o + 21, none⟩) (C.Bd l) (cap - 21)).ok w2 := fun w2 h => ⟨by rw [hyl]; unfold maxLen; omega, hyx.below h⟩
    have hi1 : (30 : Int) + x3 ≤ cap := by omega
    have hi2 : ¬ cap = 21 := by omega
    have hi3 : ¬ cap - 21 = 0 := by omega
    have hi4 : (21 : Int) ≤ 30 + x3 := by omega
    have hi5 : ((30 : Int) + (x3 : Int)).toNat = 30 + x3 := by omega
    have hi6 : 30 + x3 - 21 = 9 + x3 := by omega
    have HB2 : Hid (Below w.heap.size w (w1.alloc (.cells #[.int .i64 (x1 : Nat), .int .i64 (x2 : Nat), .int .i64 (x3 : Nat)] 110))) := bt HB1.out (below_new _ _)
    have hcm9 : cap - 21 ≤ maxLen := Nat.le_trans (Nat.sub_le _ _) HCM.out
    by_cases hf : (C.fe (C.Bd l)).2 = 0
    · have HG : Hid (∀ w2, Below w.heap.size w w2 → _) := fun w2 h => get_ok (some ⟨b, o + 21, none⟩) (C.Bd l) (cap - 21) w2 (Tabs.below HT.out h) (hya w2 h) (by omega) hcm9 (by omega) hf
      rw [hyl] at HG
      have HF : Hid ((C.fe (C.Bd l)).2 = 0) := hf
      have hrl := C.fe_ok hf
      have hrr : (C.rest (C.Bd l)).length ≤ 65545 := by rw [C.rest, List.length_drop]; omega
      generalize C.Bd l = y at HR HG HF hrr
      clear hya hyx hyl hcm9 hf hrl HE5
      go_wp2_with fail
      refine Calls.mono (HG.out _ HB2.out) ?_
      rintro e w2 ⟨⟨v1, v2, rfl, ho1, ho2⟩, hb2⟩
      have hres2 : w2.heap[w.heap.size]? = some (.cells #[.int .i64 0, .int .i64 0, .int .i64 0] 110) := by
        rw [hb2.block _ (by simp; omega)]; exact alloc_blk HRES.out
      have hh2 : w2.heap[w1.heap.size]? = some (.cells #[.int .i64 (x1 : Nat), .int .i64 (x2 : Nat), .int .i64 (x3 : Nat)] 110) := by
        rw [hb2.block _ (by simp)]; exact heap_alloc_new w1 _
      have q0 := blk_cell hres2 0
      have q1 := blk_cell hres2 1
      have q2 := blk_cell hres2 2
      have g0 := blk_free hres2 0
      have g1 := blk_free hres2 1
      have g2 := blk_free hres2 2
      have s0 := blk_cell hh2 0
      have s1 := blk_cell hh2 1
      have s2 := blk_cell hh2 2
      simp only [List.getElem?_toArray, List.getElem?_cons_succ, List.getElem?_cons_zero] at q0 q1 q2 s0 s1 s2
      have HRES2 : Hid _ := hres2
      have HB3 : Hid (Below w.heap.size w w2) := bt HB2.out hb2
      obtain ⟨p2, c2, rfl, hp2⟩ := Own.part ho2
      have HO1 : Hid (Own w2 w.heap.size v1 (C.rec y)) := ho1.lower (by have := HB2.out.size; exact this)
      clear hres2 hh2 hb2 ho1 ho2 hp2 r0 r1 r2 f0' f1 f2 HG
      by_cases hrest : C.rest y = []
      · have HE : Hid (C.rdE l = C.okR x1 x2 (C.rec y)) := by show _ = _; rw [HR.out, if_pos ⟨HF.out, hrest⟩]
        have hz : ¬ (0 : Int) < ((C.rest y).length : Nat) := by rw [hrest]; decide
        have hz0 : (C.rest y).length = 0 := by rw [hrest]; rfl
        rw [hz0]
        clear HR hrest hz hz0 hrr
        go_wp2
        refine bodyPost_ret (results_c2 rfl _ _ w.heap.size 110 #[.int .i64 (x1 : Nat), .int .i64 (x2 : Nat), .int .i64 (x3 : Nat)] (0, 0) _ rfl ?b4 Tryz.underlying110 rfl (by kernel_rfl)) rfl ?_
        case b4 => exact set3 HRES2.out
        rw [HE.out]
        refine ⟨⟨x3, _, rfl, Own.same HO1.out fun b hb => ?_⟩, ?_⟩
        · have hne : b ≠ w.heap.size := fun e => by
            subst e
            obtain ⟨cur, hc⟩ := row_type HO1.out hb
            rw [HRES2.out] at hc
            simp at hc
          rw [set_other hne, set_other hne, set_other hne]
        · repeat (first | exact HB3.out | refine Below.drew ?_ | refine Below.setCell ?_ (show w.heap.size ≤ w.heap.size from Nat.le_refl _) _)
      · have HE : Hid (C.rdE l = C.badR) := by show _ = _; rw [HR.out, if_neg (fun h => hrest h.2)]
        have hz : (0 : Int) < ((C.rest y).length : Nat) := by
          have : (C.rest y).length ≠ 0 := fun e => hrest (List.eq_nil_of_length_eq_zero e)
          omega
        clear HR hrest HO1
        generalize (C.rest y).length = m at hz hrr
        go_wp2
        refine bodyPost_ret (results_c2 rfl _ _ w.heap.size 110 #[.int .i64 0, .int .i64 0, .int .i64 0] (0, 0) _ rfl ?b5 Tryz.underlying110 rfl (by kernel_rfl)) rfl ?_
        case b5 => exact set3 HRES2.out
        rw [HE.out]
        refine ⟨⟨0, _, rfl, Own.nil _ _⟩, ?_⟩
        repeat (first | exact HB3.out | refine Below.drew ?_ | refine Below.setCell ?_ (show w.heap.size ≤ w.heap.size from Nat.le_refl _) _)
    · have HG : Hid (∀ w2, Below w.heap.size w w2 → _) := fun w2 h => get_bad (some ⟨b, o + 21, none⟩) (C.Bd l) (cap - 21) w2 (Tabs.below HT.out h) (hya w2 h) (by omega) hcm9 (by omega) hf
      rw [hyl] at HG
      have HE : Hid (C.rdE l = C.badR) := by show _ = _; rw [HR.out, if_neg (fun h => hf h.1)]
      have hk : ¬ ((C.fe (C.Bd l)).2 : Int) = 0 := by omega
      generalize (C.fe (C.Bd l)).2 = k at HG hk
      clear hya hyx hyl hcm9 hf HE5 HR
      go_wp2_with fail
      refine Calls.mono (HG.out _ HB2.out) ?_
      rintro e w2 ⟨rfl, hb2⟩
      have hres2 : w2.heap[w.heap.size]? = some (.cells #[.int .i64 0, .int .i64 0, .int .i64 0] 110) := by
        rw [hb2.block _ (by simp; omega)]; exact alloc_blk HRES.out
      have hh2 : w2.heap[w1.heap.size]? = some (.cells #[.int .i64 (x1 : Nat), .int .i64 (x2 : Nat), .int .i64 (x3 : Nat)] 110) := by
        rw [hb2.block _ (by simp)]; exact heap_alloc_new w1 _
      have q0 := blk_cell hres2 0
      have q1 := blk_cell hres2 1
      have q2 := blk_cell hres2 2
      have g0 := blk_free hres2 0
      have g1 := blk_free hres2 1
      have g2 := blk_free hres2 2
      have s0 := blk_cell hh2 0
      have s1 := blk_cell hh2 1
      have s2 := blk_cell hh2 2
      simp only [List.getElem?_toArray, List.getElem?_cons_succ, List.getElem?_cons_zero] at q0 q1 q2 s0 s1 s2
      have HRES2 : Hid _ := hres2
      have HB3 : Hid (Below w.heap.size w w2) := bt HB2.out hb2
      clear hres2 hh2 hb2 r0 r1 r2 f0' f1 f2 HG
      go_wp2
      refine bodyPost_ret (results_c2 rfl _ _ w.heap.size 110 #[.int .i64 0, .int .i64 0, .int .i64 0] (0, 0) _ rfl ?b6 Tryz.underlying110 rfl (by kernel_rfl)) rfl ?_
      case b6 => exact set3 HRES2.out
      rw [HE.out]
      refine ⟨⟨0, _, rfl, Own.nil _ _⟩, ?_⟩
      repeat (first | exact HB3.out | refine Below.drew ?_ | refine Below.setCell ?_ (show w.heap.size ≤ w.heap.size from Nat.le_refl _) _)
  · rw [if_pos (C.hdB_false hd)] at HR
    have HE : Hid (C.rdE l = C.badR) := HR.out
    have HD : Hid (¬ C.Hd (l.take 21)) := hd
    rw [HE.out]
    clear HR HE HX HT hd
    go_enter Tryz.func67, Tryz.ntmps67
    go_wp2_with fail
    refine Calls.mono (HH.out _ (below_new _ _)) ?_
    rintro e w1 ⟨hr, hb1⟩
    have hres : w1.heap[w.heap.size]? = some (.cells #[.int .i64 0, .int .i64 0, .int .i64 0] 110) := by
      rw [hb1.block _ (by simp)]; exact heap_alloc_new w _
    have r0 := blk_cell hres 0
    have r1 := blk_cell hres 1
    have r2 := blk_cell hres 2
    have f0' := blk_free hres 0
    have f1 := blk_free hres 1
    have f2 := blk_free hres 2
    simp only [List.getElem?_toArray, List.getElem?_cons_succ, List.getElem?_cons_zero] at r0 r1 r2
    have hwl : w.heap.size < w1.heap.size := (Array.getElem?_eq_some_iff.1 hres).1
    have HRES : Hid _ := hres
    have HB1 : Hid (Below w.heap.size w w1) := bt (below_new _ _) hb1
    obtain ⟨hd, _⟩ | ⟨_, x, y, z, rfl⟩ := hr
    · exact absurd hd HD.out
    clear hres hb1 f0
    go_wp2
    refine bodyPost_ret (results_c2 rfl _ _ w.heap.size 110 #[.int .i64 0, .int .i64 0, .int .i64 0] (0, 0) _ rfl ?b2 Tryz.underlying110 rfl (by kernel_rfl)) rfl ?_
    case b2 => exact alloc_blk (set3 HRES.out)
    refine ⟨⟨0, _, rfl, Own.nil _ _⟩, ?_⟩
    repeat (first | exact HB1.out | refine Below.drew ?_ | refine Below.alloc ?_ (by simp [World.setCell]; omega) _ | refine Below.setCell ?_ (show w.heap.size ≤ w.heap.size from Nat.le_refl _) _)
end Go.Proofs.YtnhplbdbgiimkaaGreatDoor
