/-
  CrcNone: parts without bytes do not count; the sum of what is behind its own sum.
-/
import Derived.Test.YtopiaiemhnbbnaaDoorWAwake
namespace Go.Proofs.YtopiaiemhnbbnaaDoor
open Go.RowKit Go.Lib
set_option linter.unusedVariables false

theorem ok_new {w : World} {x : Part} (h : x.ok w) (o : Obj) : x.ok (w.alloc o) := h.below (below_new _ _)

/-- A sum's four bytes as the program lays them. -/
def fours (s : BitVec 32) : Array Value := #[.int .u8 (s.toNat % 256 : Int), .int .u8 (s.toNat / 256 % 256 : Int), .int .u8 (s.toNat / 65536 % 256 : Int), .int .u8 (s.toNat / 16777216 : Int)]
theorem fours_eq (s : BitVec 32) : fours s = ((C.four s).map fun b => Value.int .u8 (b.toNat : Nat)).toArray := by
  have h := s.isLt
  simp only [fours, C.four, List.map_cons, List.map_nil, UInt8.toNat_ofNat']
  congr 2
  congr 1
  congr 1
  congr 1
  congr 1
  omega
theorem ok_four (w : World) (s : BitVec 32) : (Part.mk (some ⟨w.heap.size, 0, none⟩) (C.four s) 4).ok (w.alloc (.cells (fours s) 5)) := by
  refine ⟨show 4 ≤ maxLen by decide, ?_⟩
  rw [fours_eq]
  exact bat_new _ _ _ _
set_option maxHeartbeats 2000000 in
theorem none_any (pa : Option Addr) (la : List UInt8) (ca : Nat) (pb : Option Addr) (lb : List UInt8) (cb : Nat) (w : World) (hT : Tabs w) (ha : (Part.mk pa la ca).ok w) (hb : (Part.mk pb lb cb).ok w) :
    Calls Tryd.prog 6 #[.slice pa la.length ca, .slice pb lb.length cb] w fun e w' => e = .returned (.bool true) ∧ Below w.heap.size w w' := by
  have hla : la.length ≤ 9223372036854775807 := Nat.le_trans ha.1 (by decide)
  have hlb : lb.length ≤ 9223372036854775807 := Nat.le_trans hb.1 (by decide)
  have HA : Hid (Part.ok w ⟨pa, la, ca⟩) := ha
  have HB : Hid (Part.ok w ⟨pb, lb, cb⟩) := hb
  clear ha hb
  go_enter Tryd.func6, Tryd.ntmps6
  go_wp2_with fail
  refine (awake_any w hT).mono ?_
  rintro e w1 ⟨rfl, h1⟩
  have hT1 := hT.below h1
  have HA1 : Hid (Part.ok w1 ⟨pa, la, ca⟩) := Part.ok.below HA.out h1
  have HB1 : Hid (Part.ok w1 ⟨pb, lb, cb⟩) := Part.ok.below HB.out h1
  by_cases h3 : (300 : Int) < la.length
  · go_wp2
    go_ret
    exact ⟨rfl, h1⟩
  by_cases h4 : (300 : Int) < lb.length
  · go_wp2
    go_ret
    exact ⟨rfl, h1⟩
  go_wp2_with fail
  refine (of_newB w1 [⟨pa, la, ca⟩] ((C.crc la).toNat : Nat) 1 _ 1 _ rfl rfl rfl hT1 (by simp) (ok_one HA1.out) (by simp [joined])).mono ?_
  rintro e w2 ⟨rfl, h2⟩
  have hT2 := hT1.below h2
  have HA2 : Hid (Part.ok w2 ⟨pa, la, ca⟩) := Part.ok.below HA1.out h2
  have HB2 : Hid (Part.ok w2 ⟨pb, lb, cb⟩) := Part.ok.below HB1.out h2
  go_wp2_with fail
  refine (of_newB w2 [⟨pb, lb, cb⟩] ((C.crc lb).toNat : Nat) 1 _ 1 _ rfl rfl rfl hT2 (by simp) (ok_one HB2.out) (by simp [joined])).mono ?_
  rintro e w3 ⟨rfl, h3⟩
  have hT3 := hT2.below h3
  have HA3 : Hid (Part.ok w3 ⟨pa, la, ca⟩) := Part.ok.below HA2.out h3
  have HB3 : Hid (Part.ok w3 ⟨pb, lb, cb⟩) := Part.ok.below HB2.out h3
  have HSA : Hid (C.crc (la ++ C.four (C.crc la)) = C.Sn 32 C.ones ^^^ C.ones) := C.crc_own la
  have HSB : Hid (C.crc (lb ++ C.four (C.crc lb)) = C.Sn 32 C.ones ^^^ C.ones) := C.crc_own lb
  generalize hcs : C.crc la = s at HSA
  generalize C.crc lb = t at HSB
  have HCA : Hid (C.crc la = s) := hcs
  clear hcs
  generalize C.Sn 32 C.ones ^^^ C.ones = q at HSA HSB
  have hs0 := s.isLt
  have ht0 := t.isLt
  have hx : (Part.mk (some ⟨w3.heap.size, 0, none⟩) (C.four s) 4).ok (w3.alloc (.cells (fours s) 5)) := ok_four _ _
  have HX : Hid (Part.ok ((w3.alloc (.cells (fours s) 5)).alloc (.cells (fours t) 5)) (Part.mk (some ⟨w3.heap.size, 0, none⟩) (C.four s) 4)) := ok_new hx _
  have HY : Hid (Part.ok ((w3.alloc (.cells (fours s) 5)).alloc (.cells (fours t) 5)) (Part.mk (some ⟨w3.heap.size + 1, 0, none⟩) (C.four t) 4)) := by
    have := ok_four (w3.alloc (.cells (fours s) 5)) t
    rw [show (w3.alloc (.cells (fours s) 5)).heap.size = w3.heap.size + 1 by simp] at this
    exact this
  have hT4 : Tabs ((w3.alloc (.cells (fours s) 5)).alloc (.cells (fours t) 5)) := hT3.below ((below_new _ _).alloc (by simp) _)
  have HA4 : Hid (Part.ok ((w3.alloc (.cells (fours s) 5)).alloc (.cells (fours t) 5)) ⟨pa, la, ca⟩) := ok_new (ok_new HA3.out _) _
  have HB4 : Hid (Part.ok ((w3.alloc (.cells (fours s) 5)).alloc (.cells (fours t) 5)) ⟨pb, lb, cb⟩) := ok_new (ok_new HB3.out _) _
  have hb4 : Below w3.heap.size w3 ((w3.alloc (.cells (fours s) 5)).alloc (.cells (fours t) 5)) := (below_new _ _).alloc (by simp) _
  have HZ : Hid (w3.heap.size + 1 + 1 = ((w3.alloc (.cells (fours s) 5)).alloc (.cells (fours t) 5)).heap.size) := by show _ = _; simp
  clear hx
  unfold fours at *
  go_wp2_with fail
  generalize (w3.alloc _).alloc _ = w4 at *
  refine (of_newB w4 [⟨none, [], 0⟩, ⟨pa, la, ca⟩, ⟨none, [], 0⟩] (s.toNat : Nat) 3 _ 3 _ HZ.out rfl rfl hT4 (by simp) (ok_cons (ok_nil _ _ _) (ok_cons HA4.out (ok_one (ok_nil _ _ _)))) (by rw [← HCA.out]; simp [joined])).mono ?_
  rintro e w5 ⟨rfl, h5⟩
  have hT5 := hT4.below h5
  have HA5 : Hid (Part.ok w5 ⟨pa, la, ca⟩) := Part.ok.below HA4.out h5
  have HB5 : Hid (Part.ok w5 ⟨pb, lb, cb⟩) := Part.ok.below HB4.out h5
  have HX5 : Hid (Part.ok w5 _) := Part.ok.below HX.out h5
  have HY5 : Hid (Part.ok w5 _) := Part.ok.below HY.out h5
  go_wp2_with fail
  refine (of_newB w5 [⟨pa, la, ca⟩, ⟨some ⟨w3.heap.size, 0, none⟩, C.four s, 4⟩] (q.toNat : Nat) 2 _ 2 _ rfl rfl rfl hT5 (by simp) (ok_cons HA5.out (ok_one HX5.out)) (by rw [← HSA.out]; simp [joined])).mono ?_
  rintro e w6 ⟨rfl, h6⟩
  have hT6 := hT5.below h6
  have HB6 : Hid (Part.ok w6 ⟨pb, lb, cb⟩) := Part.ok.below HB5.out h6
  have HY6 : Hid (Part.ok w6 _) := Part.ok.below HY5.out h6
  go_wp2_with fail
  refine (of_newB w6 [⟨pb, lb, cb⟩, ⟨some ⟨w3.heap.size + 1, 0, none⟩, C.four t, 4⟩] (q.toNat : Nat) 2 _ 2 _ rfl rfl rfl hT6 (by simp) (ok_cons HB6.out (ok_one HY6.out)) (by rw [← HSB.out]; simp [joined])).mono ?_
  rintro e w7 ⟨rfl, h7⟩
  go_wp2
  go_ret
  exact ⟨rfl, bt (bt (bt (bt (bt (bt h1 h2) h3) hb4) h5) h6) h7⟩
end Go.Proofs.YtopiaiemhnbbnaaDoor
