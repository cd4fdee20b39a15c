/-
  Several texts in one: ODrop1, ODrop2, ODrop3, BGMap4, ODrop4, ODrop5, ODrop6.
-/
import Derived.Test.YtoglhhoniojbaaaOFree
import Derived.Test.YtoglhhoniojbaaaBGMap3
import Derived.Test.YtoglhhoniojbaaaOCopy
namespace Go.Proofs.Ytoglhhoniojbaaa
open Go.RowKit Go.Lib
set_option linter.unusedVariables false

namespace C
/-- What a clock has of those replicas of which another has less. -/
def byd (a b : V7) : V7 := ⟨if a.x0 ≤ b.x0 then 0 else a.x0, if a.x1 ≤ b.x1 then 0 else a.x1, if a.x2 ≤ b.x2 then 0 else a.x2, if a.x3 ≤ b.x3 then 0 else a.x3, if a.x4 ≤ b.x4 then 0 else a.x4, if a.x5 ≤ b.x5 then 0 else a.x5, if a.x6 ≤ b.x6 then 0 else a.x6⟩
/-- The same for the first k alone. -/
def bydK (k : Nat) (a b : V7) : V7 := ⟨if 0 < k ∧ a.x0 ≤ b.x0 then 0 else a.x0, if 1 < k ∧ a.x1 ≤ b.x1 then 0 else a.x1, if 2 < k ∧ a.x2 ≤ b.x2 then 0 else a.x2, if 3 < k ∧ a.x3 ≤ b.x3 then 0 else a.x3, if 4 < k ∧ a.x4 ≤ b.x4 then 0 else a.x4, if 5 < k ∧ a.x5 ≤ b.x5 then 0 else a.x5, if 6 < k ∧ a.x6 ≤ b.x6 then 0 else a.x6⟩
theorem byd_0 (a b : V7) : bydK 0 a b = a := by simp [bydK]
theorem byd_7 (a b : V7) : bydK 7 a b = byd a b := by simp [bydK, byd]
end C
def vcells (a : V7) : Array Value := #[.int .i64 a.x0, .int .i64 a.x1, .int .i64 a.x2, .int .i64 a.x3, .int .i64 a.x4, .int .i64 a.x5, .int .i64 a.x6]
set_option maxRecDepth 100000 in
set_option maxHeartbeats 8000000 in
theorem beyond_any (a b : V7) (w : World) : Calls Try.prog 58 #[a.v, b.v] w fun e w' => e = .returned (C.byd a b).v ∧ Below w.heap.size w w' := by
  obtain ⟨W, hW⟩ : ∃ W, W = ((w.alloc (.cells (vcells a) 28)).alloc (.cells (vcells b) 28)).alloc (.cells (vcells C.z7) 28) := ⟨_, rfl⟩
  have hb : Below w.heap.size w W := by rw [hW]; exact bt (below_new _ _) (bt (below_new _ _) (below_new _ _))
  have q4 : W.heap[w.heap.size + 2]? = some (.cells (vcells C.z7) 28) := by
    have := heap_alloc_new ((w.alloc (.cells (vcells a) 28)).alloc (.cells (vcells b) 28)) (.cells (vcells C.z7) 28)
    rw [World.size_alloc, World.size_alloc] at this
    rw [hW]; exact this
  have q3 : W.heap[w.heap.size + 1]? = some (.cells (vcells b) 28) := by
    have := heap_alloc_new (w.alloc (.cells (vcells a) 28)) (.cells (vcells b) 28)
    rw [World.size_alloc] at this
    rw [hW]; exact keep_on (below_new _ _) this
  have q2 : W.heap[w.heap.size]? = some (.cells (vcells a) 28) := by
    rw [hW]; exact keep_on (bt (below_new _ _) (below_new _ _)) (heap_alloc_new w _)
  have HB : Hid _ := hb
  have HQ2 : Hid _ := q2
  have HQ3 : Hid _ := q3
  have HQ4 : Hid _ := q4
  clear hb q2 q3 q4
  obtain ⟨a0, a1, a2, a3, a4, a5, a6⟩ := a
  obtain ⟨b0, b1, b2, b3, b4, b5, b6⟩ := b
  simp only [vcells, C.z7] at hW HQ2 HQ3 HQ4
  simp only [V7.v]
  go_enter Try.func58, Try.ntmps58
  go_wp2_with fail
  rw [← hW]
  clear hW
  obtain ⟨gw, hgw⟩ : ∃ gw, gw = w.heap.size := ⟨_, rfl⟩
  have HGW : Hid (w.heap.size ≤ gw) := by show _ ≤ _; omega
  rw [← hgw] at HQ2 HQ3 HQ4 ⊢
  clear hgw
  obtain ⟨i0, i1, i2, i3, i4, i5, i6⟩ := idx7 a0 a1 a2 a3 a4 a5 a6
  go_loopw [8] (fun s8 wr => ∃ k : Nat, s8 = .int .i64 k ∧ k ≤ 7 ∧ Hid (wr.heap[gw]? = some (.cells (vcells (C.bydK k ⟨a0, a1, a2, a3, a4, a5, a6⟩ ⟨b0, b1, b2, b3, b4, b5, b6⟩)) 28)) ∧ Hid (wr.heap[gw + 1]? = some (.cells #[.int .i64 b0, .int .i64 b1, .int .i64 b2, .int .i64 b3, .int .i64 b4, .int .i64 b5, .int .i64 b6] 28)) ∧ Hid (wr.heap[gw + 2]? = some (.cells #[.int .i64 0, .int .i64 0, .int .i64 0, .int .i64 0, .int .i64 0, .int .i64 0, .int .i64 0] 28)) ∧ Hid (Below w.heap.size w wr)) (fun s8 _ => 7 - (intOf s8).toNat)
  case atStart => exact ⟨0, rfl, by omega, by rw [C.byd_0]; exact HQ2.out, HQ3.out, HQ4.out, HB.out⟩
  case round =>
    clear HQ2 HQ3 HQ4 HB
    obtain ⟨k, rfl, hk, HQ2, HQ3, HQ4, HB⟩ := hrel
    by_cases hlt : k < 7
    · have h7 : k = 0 ∨ k = 1 ∨ k = 2 ∨ k = 3 ∨ k = 4 ∨ k = 5 ∨ k = 6 := by omega
      obtain ⟨e0, e1, e2, e3, e4, e5, e6⟩ := box7 HQ3.out
      rcases h7 with rfl | rfl | rfl | rfl | rfl | rfl | rfl
      · have y0 := (box7 HQ2.out)
        by_cases hle : a0 ≤ b0
        · have y1 : wr.cell? ⟨gw, 0, none⟩ = some (.int .i64 a0) := by have := y0.1; simpa [C.bydK] using this
          have f1 : wr.frozen? ⟨gw, 0, none⟩ = false := by simp [World.frozen?, HQ2.out]
          clear y0
          go_wp2
          go_roundw
          case rel => exact ⟨1, rfl, by omega, by show _ = _; rw [set_block HQ2.out]; simp [vcells, C.bydK, hle], (set_other (by omega)).trans HQ3.out, (set_other (by omega)).trans HQ4.out, Below.setCell HB.out HGW.out _⟩
          case measure => simp [intOf]
        · clear y0
          go_wp2
          go_roundw
          case rel => exact ⟨1, rfl, by omega, by show _ = _; rw [HQ2.out]; simp [vcells, C.bydK, hle], HQ3.out, HQ4.out, HB.out⟩
          case measure => simp [intOf]
      · have y0 := (box7 HQ2.out)
        by_cases hle : a1 ≤ b1
        · have y1 : wr.cell? ⟨gw, 1, none⟩ = some (.int .i64 a1) := by have := y0.2.1; simpa [C.bydK] using this
          have f1 : wr.frozen? ⟨gw, 1, none⟩ = false := by simp [World.frozen?, HQ2.out]
          clear y0
          go_wp2
          go_roundw
          case rel => exact ⟨2, rfl, by omega, by show _ = _; rw [set_block HQ2.out]; simp [vcells, C.bydK, hle], (set_other (by omega)).trans HQ3.out, (set_other (by omega)).trans HQ4.out, Below.setCell HB.out HGW.out _⟩
          case measure => simp [intOf]
        · clear y0
          go_wp2
          go_roundw
          case rel => exact ⟨2, rfl, by omega, by show _ = _; rw [HQ2.out]; simp [vcells, C.bydK, hle], HQ3.out, HQ4.out, HB.out⟩
          case measure => simp [intOf]
      · have y0 := (box7 HQ2.out)
        by_cases hle : a2 ≤ b2
        · have y1 : wr.cell? ⟨gw, 2, none⟩ = some (.int .i64 a2) := by have := y0.2.2.1; simpa [C.bydK] using this
          have f1 : wr.frozen? ⟨gw, 2, none⟩ = false := by simp [World.frozen?, HQ2.out]
          clear y0
          go_wp2
          go_roundw
          case rel => exact ⟨3, rfl, by omega, by show _ = _; rw [set_block HQ2.out]; simp [vcells, C.bydK, hle], (set_other (by omega)).trans HQ3.out, (set_other (by omega)).trans HQ4.out, Below.setCell HB.out HGW.out _⟩
          case measure => simp [intOf]
        · clear y0
          go_wp2
          go_roundw
          case rel => exact ⟨3, rfl, by omega, by show _ = _; rw [HQ2.out]; simp [vcells, C.bydK, hle], HQ3.out, HQ4.out, HB.out⟩
          case measure => simp [intOf]
      · have y0 := (box7 HQ2.out)
        by_cases hle : a3 ≤ b3
        · have y1 : wr.cell? ⟨gw, 3, none⟩ = some (.int .i64 a3) := by have := y0.2.2.2.1; simpa [C.bydK] using this
          have f1 : wr.frozen? ⟨gw, 3, none⟩ = false := by simp [World.frozen?, HQ2.out]
          clear y0
          go_wp2
          go_roundw
          case rel => exact ⟨4, rfl, by omega, by show _ = _; rw [set_block HQ2.out]; simp [vcells, C.bydK, hle], (set_other (by omega)).trans HQ3.out, (set_other (by omega)).trans HQ4.out, Below.setCell HB.out HGW.out _⟩
          case measure => simp [intOf]
        · clear y0
          go_wp2
          go_roundw
          case rel => exact ⟨4, rfl, by omega, by show _ = _; rw [HQ2.out]; simp [vcells, C.bydK, hle], HQ3.out, HQ4.out, HB.out⟩
          case measure => simp [intOf]
      · have y0 := (box7 HQ2.out)
        by_cases hle : a4 ≤ b4
        · have y1 : wr.cell? ⟨gw, 4, none⟩ = some (.int .i64 a4) := by have := y0.2.2.2.2.1; simpa [C.bydK] using this
          have f1 : wr.frozen? ⟨gw, 4, none⟩ = false := by simp [World.frozen?, HQ2.out]
          clear y0
          go_wp2
          go_roundw
          case rel => exact ⟨5, rfl, by omega, by show _ = _; rw [set_block HQ2.out]; simp [vcells, C.bydK, hle], (set_other (by omega)).trans HQ3.out, (set_other (by omega)).trans HQ4.out, Below.setCell HB.out HGW.out _⟩
          case measure => simp [intOf]
        · clear y0
          go_wp2
          go_roundw
          case rel => exact ⟨5, rfl, by omega, by show _ = _; rw [HQ2.out]; simp [vcells, C.bydK, hle], HQ3.out, HQ4.out, HB.out⟩
          case measure => simp [intOf]
      · have y0 := (box7 HQ2.out)
        by_cases hle : a5 ≤ b5
        · have y1 : wr.cell? ⟨gw, 5, none⟩ = some (.int .i64 a5) := by have := y0.2.2.2.2.2.1; simpa [C.bydK] using this
          have f1 : wr.frozen? ⟨gw, 5, none⟩ = false := by simp [World.frozen?, HQ2.out]
          clear y0
          go_wp2
          go_roundw
          case rel => exact ⟨6, rfl, by omega, by show _ = _; rw [set_block HQ2.out]; simp [vcells, C.bydK, hle], (set_other (by omega)).trans HQ3.out, (set_other (by omega)).trans HQ4.out, Below.setCell HB.out HGW.out _⟩
          case measure => simp [intOf]
        · clear y0
          go_wp2
          go_roundw
          case rel => exact ⟨6, rfl, by omega, by show _ = _; rw [HQ2.out]; simp [vcells, C.bydK, hle], HQ3.out, HQ4.out, HB.out⟩
          case measure => simp [intOf]
      · have y0 := (box7 HQ2.out)
        by_cases hle : a6 ≤ b6
        · have y1 : wr.cell? ⟨gw, 6, none⟩ = some (.int .i64 a6) := by have := y0.2.2.2.2.2.2; simpa [C.bydK] using this
          have f1 : wr.frozen? ⟨gw, 6, none⟩ = false := by simp [World.frozen?, HQ2.out]
          clear y0
          go_wp2
          go_roundw
          case rel => exact ⟨7, rfl, by omega, by show _ = _; rw [set_block HQ2.out]; simp [vcells, C.bydK, hle], (set_other (by omega)).trans HQ3.out, (set_other (by omega)).trans HQ4.out, Below.setCell HB.out HGW.out _⟩
          case measure => simp [intOf]
        · clear y0
          go_wp2
          go_roundw
          case rel => exact ⟨7, rfl, by omega, by show _ = _; rw [HQ2.out]; simp [vcells, C.bydK, hle], HQ3.out, HQ4.out, HB.out⟩
          case measure => simp [intOf]
    · obtain rfl : k = 7 := by omega
      have hq := HQ2.out
      rw [C.byd_7] at hq
      obtain ⟨r, hr⟩ : ∃ r, r = C.byd ⟨a0, a1, a2, a3, a4, a5, a6⟩ ⟨b0, b1, b2, b3, b4, b5, b6⟩ := ⟨_, rfl⟩
      have HR : Hid (r = C.byd ⟨a0, a1, a2, a3, a4, a5, a6⟩ ⟨b0, b1, b2, b3, b4, b5, b6⟩) := hr
      rw [← hr] at hq
      clear hr
      obtain ⟨r0, r1, r2, r3, r4, r5, r6⟩ := r
      simp only [vcells] at hq
      obtain ⟨q0, q1, q2, q3, q4, q5, q6⟩ := box7 hq
      have f4 : ∀ j, wr.frozen? ⟨gw + 2, j, none⟩ = false := fun j => by simp [World.frozen?, HQ4.out]
      obtain ⟨s0, s1, s2, s3, s4, s5, s6⟩ := box7 HQ4.out
      clear hq
      go_wp2
      have hge : w.heap.size ≤ gw + 2 := Nat.le_trans HGW.out (by omega)
      refine bodyPost_ret (v := .agg #[.int .i64 r0, .int .i64 r1, .int .i64 r2, .int .i64 r3, .int .i64 r4, .int .i64 r5, .int .i64 r6]) (by simp [results, Try.results58, go_sem, *]) rfl ⟨by rw [← HR.out], ?_⟩
      repeat (refine Below.setCell ?_ hge _)
      exact HB.out
end Go.Proofs.Ytoglhhoniojbaaa

namespace Go.Proofs.Ytoglhhoniojbaaa
open Go.RowKit Go.Lib
set_option linter.unusedVariables false

/-- A block that holds the set's pointer. -/
def BoxAt (w : World) (gs g : Nat) : Prop := w.heap[gs]? = some (.cells #[.pointer (some ⟨g, 0, none⟩)] 23)
theorem BoxAt.below {w w' : World} {gs g : Nat} (h : BoxAt w gs g) (hb : Below w.heap.size w w') : BoxAt w' gs g := keep_on hb h
set_option maxRecDepth 100000 in
set_option maxHeartbeats 4000000 in
theorem drop_asks (w : World) (g n : Nat) (L : OLay) (S : C.Os) (gc gs : Nat) (c : V7) (x : Tx) (d1 d2 : Int) (h : SetAt w g n L S) (hc : SeenAt w gc c) (hs : BoxAt w gs g) (hx : x.size ≤ maxLen) (z : Bool) (hz : (C.has c d1 d2 && C.has (S.go x) d1 d2) = z) :
    Calls Try.prog 57 #[.agg #[.int .i64 d1, .int .i64 d2], .agg #[.string x], .pointer (some ⟨gc, 0, none⟩), .pointer (some ⟨gs, 0, none⟩)] w fun e w' => e = .returned (.bool z) ∧ Below w.heap.size w w' := by
  obtain ⟨W, hW⟩ : ∃ W, W = (w.alloc (.cells #[.int .i64 d1, .int .i64 d2] 31)).alloc (.cells #[.string x] 70) := ⟨_, rfl⟩
  have hb : Below w.heap.size w W := by rw [hW]; exact bt (below_new _ _) (below_new _ _)
  have q4 : W.heap[w.heap.size]? = some (.cells #[.int .i64 d1, .int .i64 d2] 31) := by rw [hW]; exact keep_on (below_new _ _) (heap_alloc_new w _)
  have q5 : W.heap[w.heap.size + 1]? = some (.cells #[.string x] 70) := by
    have := heap_alloc_new (w.alloc (.cells #[.int .i64 d1, .int .i64 d2] 31)) (.cells #[.string x] 70)
    rw [World.size_alloc] at this
    rw [hW]; exact this
  have HB : Hid (Below w.heap.size w W) := hb
  have HQ4 : Hid _ := q4
  have HQ5 : Hid _ := q5
  have HS : Hid (SetAt w g n L S) := h
  have HC : Hid (SeenAt w gc c) := hc
  have HP : Hid (BoxAt w gs g) := hs
  obtain ⟨z1, hz1⟩ : ∃ z1, C.has c d1 d2 = z1 := ⟨_, rfl⟩
  obtain ⟨z2, hz2⟩ : ∃ z2, C.has (S.go x) d1 d2 = z2 := ⟨_, rfl⟩
  have HH : Hid (∀ W, Calls Try.prog 28 #[c.v, .agg #[.int .i64 d1, .int .i64 d2]] W fun e w' => e = .returned (.bool z1) ∧ Below W.heap.size W w') := fun W => by rw [← hz1]; exact has_any _ d1 d2 W
  have HTH : Hid (∀ W, SetAt W g n L S → Calls Try.prog 35 #[.pointer (some ⟨g, 0, none⟩), .agg #[.int .i64 d1, .int .i64 d2], .string x] W fun e w' => e = .returned (.bool (!z2)) ∧ Below W.heap.size W w') := fun W hW => there_any W g n L S x d1 d2 hW hx _ (by rw [hz2])
  rw [hz1, hz2] at hz
  obtain ⟨s0, s1, s2, s3, s4, s5, s6⟩ := box7 (hc.below hb)
  obtain ⟨y0, y1⟩ := box2 q4
  clear hb q4 q5 h hc hs hz1 hz2
  obtain ⟨x0, x1, x2, x3, x4, x5, x6⟩ := c
  simp only [V7.v] at HH
  rw [hW] at s0 s1 s2 s3 s4 s5 s6 y0 y1
  go_enter Try.func57, Try.ntmps57
  go_wp2_with fail
  rw [← hW]
  refine (HH.out W).mono ?_
  rintro e w1 ⟨rfl, hb1⟩
  have HB1 : Hid (Below w.heap.size w w1) := bt HB.out hb1
  obtain ⟨y0', y1'⟩ := box2 (keep_on hb1 HQ4.out)
  have t0 : w1.cell? ⟨w.heap.size + 1, 0, none⟩ = some (.string x) := by simp [World.cell?, keep_on hb1 HQ5.out]
  have p0 : w1.cell? ⟨gs, 0, none⟩ = some (.pointer (some ⟨g, 0, none⟩)) := by have := HP.out.below HB1.out; unfold BoxAt at this; simp [World.cell?, this]
  clear hb1 hW s0 s1 s2 s3 s4 s5 s6 y0 y1
  cases z1 with
  | false =>
    go_wp2
    go_ret
    exact ⟨by rw [← hz]; rfl, HB1.out⟩
  | true =>
    go_wp2_with fail
    refine (HTH.out w1 (HS.out.below HB1.out)).mono ?_
    rintro e w2 ⟨rfl, hb2⟩
    have HB2 : Hid (Below w.heap.size w w2) := bt HB1.out hb2
    clear hb2 y0' y1' t0 p0
    go_wp2
    go_ret
    exact ⟨by rw [← hz]; simp, HB2.out⟩
end Go.Proofs.Ytoglhhoniojbaaa

namespace Go.Proofs.Ytoglhhoniojbaaa
open Go.RowKit Go.Lib
set_option linter.unusedVariables false

namespace C
theorem at7_byd (a b : V7) (k : Nat) : at7 (byd a b) k = if at7 a k ≤ at7 b k then 0 else at7 a k := by
  unfold at7 byd
  split <;> rfl
theorem hasd_byd (a b : V7) (d : Dt) : hasd (byd a b) d = true ↔ hasd a d = true ∧ ¬ at7 a d.1.toNat ≤ at7 b d.1.toNat := by
  rw [hasd_iff, hasd_iff, at7_byd]
  by_cases h : at7 a d.1.toNat ≤ at7 b d.1.toNat
  · rw [if_pos h]
    exact ⟨fun k => by omega, fun k => absurd h k.2⟩
  · rw [if_neg h]
    exact ⟨fun k => ⟨k, h⟩, fun k => k.1⟩
/-- Of a dot that the other has not, the rest tells the same. -/
theorem hasd_byd_out (a b : V7) {d : Dt} (h : hasd b d = false) : hasd (byd a b) d = hasd a d := by
  rw [Bool.eq_iff_iff, hasd_byd]
  refine ⟨fun k => k.1, fun k => ⟨k, fun hle => ?_⟩⟩
  have h1 := (hasd_iff a d).1 k
  have h2 : hasd b d = true := (hasd_iff b d).2 (by omega)
  rw [h] at h2; cases h2
theorem hasd_byd_le {a b : V7} {d : Dt} (h : hasd (byd a b) d = true) : hasd a d = true := ((hasd_byd a b d).1 h).1
theorem good_byd {a b : V7} (h : good a = true) : good (byd a b) = true := by
  have h := (good_iff a).1 h
  rw [good_iff]
  unfold byd
  simp only
  refine ⟨?_, ?_, ?_, ?_, ?_, ?_, ?_⟩ <;> split <;> omega
/-- What becomes of a dot. -/
def dropA (S : Os) (c : V7) (d : Dt) : Option Tx := match S.ad d with
  | none => none
  | some x => if (has c d.1 d.2 && has (S.go x) d.1 d.2) = true then none else some x
def dropO (S : Os) (c : V7) : Os := ⟨dropA S c, S.th, fun x => byd (S.go x) c⟩
theorem dropA_some {S : Os} {c : V7} {d : Dt} {x : Tx} : dropA S c d = some x ↔ S.ad d = some x ∧ ¬ (hasd c d = true ∧ hasd (S.go x) d = true) := by
  unfold dropA
  cases h : S.ad d with
  | none => simp
  | some y =>
    simp only
    by_cases hc : (has c d.1 d.2 && has (S.go y) d.1 d.2) = true
    · rw [if_pos hc]
      have h2 : hasd c d = true ∧ hasd (S.go y) d = true := by rw [Bool.and_eq_true] at hc; exact hc
      constructor
      · intro e; cases e
      · rintro ⟨e, k⟩
        cases e
        exact absurd h2 k
    · rw [if_neg hc]
      have h2 : ¬ (hasd c d = true ∧ hasd (S.go y) d = true) := fun k => hc (by rw [Bool.and_eq_true]; exact k)
      constructor
      · intro e
        cases e
        exact ⟨rfl, h2⟩
      · rintro ⟨e, _⟩
        exact e
theorem dropO_ok {S : Os} (h : S.Ok) (c : V7) : (dropO S c).Ok where
  up := h.up
  mem := fun x d => by
    show d ∈ S.th x ↔ dropA S c d = some x ∧ hasd (byd (S.go x) c) d = false
    rw [h.mem x d, dropA_some]
    constructor
    · rintro ⟨h1, h2⟩
      refine ⟨⟨h1, fun k => by rw [h2] at k; cases k.2⟩, ?_⟩
      cases hq : hasd (byd (S.go x) c) d with
      | false => rfl
      | true => have := hasd_byd_le hq; rw [h2] at this; cases this
    · rintro ⟨⟨h1, h2⟩, h3⟩
      refine ⟨h1, ?_⟩
      cases hq : hasd (S.go x) d with
      | false => rfl
      | true =>
        cases hc : hasd c d with
        | true => exact absurd ⟨hc, hq⟩ h2
        | false => rw [hasd_byd_out _ _ hc, hq] at h3; cases h3
  may := fun d x hd => h.may d x (dropA_some.1 hd).1
  good := fun x => good_byd (h.good x)
/-- Two sets that tell the same of all dots that c has not. -/
structure DropRel (c : V7) (S T : Os) : Prop where
  th : S.th = T.th
  ad : ∀ d, hasd c d = false → T.ad d = S.ad d
  go : ∀ x d, hasd c d = false → hasd (T.go x) d = hasd (S.go x) d
theorem drop_rel (S : Os) (c : V7) : DropRel c S (dropO S c) where
  th := rfl
  ad := fun d hd => by
    show dropA S c d = S.ad d
    unfold dropA
    have hd' : has c d.1 d.2 = false := hd
    cases S.ad d with
    | none => rfl
    | some x => simp only [hd', Bool.false_and, Bool.false_eq_true, if_false]
  go := fun x d hd => hasd_byd_out _ _ hd
theorem DropRel.err {c : V7} {S T : Os} (h : DropRel c S T) {d : Dt} (hd : hasd c d = false) (x : Tx) : errO T d x = errO S d x := by
  unfold errO
  rw [h.ad d hd]
theorem DropRel.add {c : V7} {S T : Os} (h : DropRel c S T) {d : Dt} (hd : hasd c d = false) (x : Tx) : DropRel c (addO S d x) (addO T d x) := by
  refine ⟨?_, fun e he => ?_, fun y e he => ?_⟩
  · unfold addO
    rw [h.ad d hd]
    by_cases hc : may d = true ∧ tooLong x = false ∧ S.ad d = none
    · rw [if_pos hc, if_pos hc]
      have hg : has (T.go x) d.1 d.2 = has (S.go x) d.1 d.2 := h.go x d hd
      rw [hg]
      split
      · exact h.th
      · show (fun y => if y = x then insL d (S.th x) else S.th y) = (fun y => if y = x then insL d (T.th x) else T.th y)
        rw [h.th]
    · rw [if_neg hc, if_neg hc]; exact h.th
  · rw [addO_ad, addO_ad, h.ad d hd, h.ad e he]
  · rw [addO_go, addO_go]; exact h.go y e he
theorem DropRel.rem {c : V7} {S T : Os} (h : DropRel c S T) (x : Tx) (v : V7) : DropRel c (remO S x v) (remO T x v) := by
  refine ⟨?_, fun e he => ?_, fun y e he => ?_⟩
  · unfold remO
    by_cases hc : tooLong x = false ∧ good v = true
    · rw [if_pos hc, if_pos hc]
      show (fun y => if y = x then unseen v (S.th x) else S.th y) = (fun y => if y = x then unseen v (T.th x) else T.th y)
      rw [h.th]
    · rw [if_neg hc, if_neg hc]; exact h.th
  · rw [remO_ad, remO_ad]; exact h.ad e he
  · rw [remO_go, remO_go]
    by_cases hc : (tooLong x = false ∧ good v = true) ∧ y = x
    · rw [if_pos hc, if_pos hc, Bool.eq_iff_iff, hasd_mrg, hasd_mrg, h.go x e he]
    · rw [if_neg hc, if_neg hc]; exact h.go y e he
end C
end Go.Proofs.Ytoglhhoniojbaaa

namespace Go.Proofs.Ytoglhhoniojbaaa
open Go.RowKit Go.Lib Go.Maps
set_option linter.unusedVariables false

theorem wpList_delete_grange {w : World} {ops : Array Oper} {rest : List Oper} {o : Oper} {a : Act} {Q : Exit → Act → World → Prop} (hg : o.guard = none) (x y : Operand) (t : TypeId) {K e : TypeId} (hop : o.op = Op.call { callee := Callee.builtin Builtin.delete, args := #[x, y], argTypes := #[t, K] }) (ht : Try.prog.underlying t = some (.map K e)) (KK : Keyed Try.prog K)
    {b r n : Nat} {m : Lit → Option Value} {left : Lit → Bool} {cnt : Nat} (h : GRange w K b r n m left cnt) {key : Value} {kl : Lit} (hk : keyOf Try.prog K key = some kl) (hx : a.eval x = .map (some b)) (hy : a.eval y = key)
    (hK : ∀ w' cnt', GRange w' K b r n (gput m kl none) (fun z => left z && !z.sameKey kl) cnt' → cnt' ≤ cnt → w.grownBy w' (some b) → wpList Try.prog ops Q rest (a.put o.dst (.tuple #[])) w') : wpList Try.prog ops Q (o :: rest) a w := by
  obtain ⟨D, h1, h2⟩ := h
  refine wpList_delete_ranges w hg x y t K hop e KK ht anyR b r n D left cnt hx h1 key kl hy hk fun w' cnt' hr hc ht' => ?_
  exact hK w' cnt' ⟨_, hr, h2.del kl⟩ hc ht'.grown
end Go.Proofs.Ytoglhhoniojbaaa

namespace Go.Proofs.Ytoglhhoniojbaaa
open Go.RowKit Go.Lib Go.Maps
set_option linter.unusedVariables false

theorem dot_same {d e : C.Dt} (hd : C.may d = true) (he : C.may e = true) : (dk d).sameKey (dk e) = true ↔ d = e := by
  constructor
  · intro h
    by_cases hs : dk d = dk e
    · exact dk_inj hd he hs
    · rw [sameKey_ne hs] at h; cases h
  · rintro rfl
    exact WideAt.sameKey_self (dot_keys.key (dot_key hd))
/-- While the owners are gone through. -/
structure DfAt (w : World) (n : Nat) (L : OLay) (S : C.Os) (c : V7) (left : Lit → Bool) (cnt : Nat) (m : Lit → Option Value) (wr : World) : Prop where
  rg : GRange wr 31 L.bA w.heap.size n m left cnt
  val : ∀ d, C.may d = true → m (dk d) = (if left (dk d) = true then S.ad d else C.dropA S c d).map ownV
  keys : ∀ kl v, m kl = some v → ∃ d, C.may d = true ∧ kl = dk d
  tn : Turn w wr (fun b => b = L.bA)
section
variable {w wr : World} {g n cnt : Nat} {L : OLay} {S : C.Os} {c : V7} {left : Lit → Bool} {m : Lit → Option Value}
theorem DfAt.set (h : SetAt w g n L S) (k : DfAt w n L S c left cnt m wr) : SetRet w g L S n { S with ad := fun d => if left (dk d) = true then S.ad d else C.dropA S c d } wr :=
  h.setA (Nat.le_refl n) _ k.rg.gmap k.val k.keys k.tn
theorem map_ne (h : SetAt w g n L S) {b : Nat} {cs : Array Value} {t : TypeId} (hb : w.heap[b]? = some (.cells cs t)) : b ≠ L.bA := by
  rintro rfl
  obtain ⟨m, hm, _⟩ := h.mA
  obtain ⟨_, _, e⟩ := hm.isMap
  rw [e] at hb; cases hb
theorem DfAt.keep (h : SetAt w g n L S) (k : DfAt w n L S c left cnt m wr) {b : Nat} {cs : Array Value} {t : TypeId} (hb : w.heap[b]? = some (.cells cs t)) : wr.heap[b]? = some (.cells cs t) :=
  (k.tn.block b (Array.getElem?_eq_some_iff.1 hb).1 (map_ne h hb)).trans hb
/-- One goes on: the walk's step, then new memory; then, if it is to go, the map's. -/
theorem DfAt.next (h : SetAt w g n L S) (k : DfAt w n L S c left cnt m wr) {d : C.Dt} {x : Tx} {w' w2 : World} {cnt' : Nat} (hd : C.may d = true) (hx : S.ad d = some x)
    (hr : GRange w' 31 L.bA w.heap.size n m (fun z => left z && !z.sameKey (dk d)) cnt') (hg : wr.grownBy w' (some w.heap.size)) (hb : Below w'.heap.size w' w2) :
    (C.dropA S c d = some x → DfAt w n L S c (fun z => left z && !z.sameKey (dk d)) cnt' m w2) ∧
    (C.dropA S c d = none → GRange w2 31 L.bA w.heap.size n m (fun z => left z && !z.sameKey (dk d)) cnt' ∧ ∀ w3 cnt3, GRange w3 31 L.bA w.heap.size n (gput m (dk d) none) (fun z => (left z && !z.sameKey (dk d)) && !z.sameKey (dk d)) cnt3 → w2.grownBy w3 (some L.bA) → DfAt w n L S c (fun z => left z && !z.sameKey (dk d)) cnt3 (gput m (dk d) none) w3) := by
  have lft : ∀ e, C.may e = true → e ≠ d → (left (dk e) && !(dk e).sameKey (dk d)) = left (dk e) := fun e he hne => by
    cases hq : (dk e).sameKey (dk d) with
    | false => simp
    | true => exact absurd ((dot_same he hd).1 hq) hne
  have lfd : (left (dk d) && !(dk d).sameKey (dk d)) = false := by rw [(dot_same hd hd).2 rfl]; simp
  have hr2 : GRange w2 31 L.bA w.heap.size n m (fun z => left z && !z.sameKey (dk d)) cnt' := hr.same (hb.block _ hr.gmap.lt) (hb.block _ hr.lt)
  have t1 : Turn w w' (fun b => b = L.bA) := k.tn.trans (Turn.of_grown (S := fun b => b = w.heap.size) hg fun b hb => by cases hb; rfl) fun x hx => Or.inr (by rw [hx]; exact Nat.le_refl _)
  have t2 : Turn w w2 (fun b => b = L.bA) := t1.trans (Turn.of_below hb) fun x hx => Or.inl hx
  refine ⟨fun hk => ⟨hr2, fun e he => ?_, k.keys, t2⟩, fun hk => ⟨hr2, fun w3 cnt3 h3 g3 => ⟨?_, fun e he => ?_, fun kl v hv => ?_, t2.trans (Turn.of_grown (S := fun b => b = L.bA) g3 fun b hb => by cases hb; rfl) fun x hx => Or.inl hx⟩⟩⟩
  · have hv := k.val e he
    by_cases hed : e = d
    · subst hed
      rw [hv]
      simp only [lfd, Bool.false_eq_true, if_false]
      rw [hk]
      by_cases hl : left (dk e) = true
      · rw [if_pos hl, hx]
      · rw [if_neg hl]
    · rw [lft e he hed]; exact hv
  · have e0 : (fun z => (left z && !z.sameKey (dk d)) && !z.sameKey (dk d)) = fun z => left z && !z.sameKey (dk d) := by
      funext z
      cases left z <;> cases z.sameKey (dk d) <;> rfl
    rw [e0] at h3
    exact h3
  · by_cases hed : e = d
    · subst hed
      rw [gput_same]
      simp only [lfd, Bool.false_eq_true, if_false]
      rw [hk]; rfl
    · rw [gput_other _ _ fun q => hed (dk_inj he hd q), lft e he hed]
      exact k.val e he
  · by_cases hkd : kl = dk d
    · rw [hkd, gput_same] at hv; cases hv
    · rw [gput_other _ _ hkd] at hv; exact k.keys kl v hv
end
set_option maxRecDepth 100000 in
set_option maxHeartbeats 8000000 in
theorem dfn_any (w : World) (g n : Nat) (L : OLay) (S : C.Os) (gc gs : Nat) (c : V7) (h : SetAt w g n L S) (hc : SeenAt w gc c) (hs : BoxAt w gs g) (hx : ∀ d x, S.ad d = some x → x.size ≤ maxLen) :
    Calls Try.prog 56 #[.map (some L.bA), .func (.func 57) #[] #[.pointer (some ⟨gc, 0, none⟩), .pointer (some ⟨gs, 0, none⟩)]] w fun e w' => e = .returned (.tuple #[]) ∧ SetRet w g L S n { S with ad := C.dropA S c } w' ∧ Turn w w' (fun b => b = L.bA) := by
  obtain ⟨m0, hm0, hr0⟩ := h.mA
  have HM : Hid (GMap w 31 L.bA n m0) := hm0
  have HR0 : Hid (∀ d, C.may d = true → m0 (dk d) = (S.ad d).map ownV) := hr0
  have HK0 : Hid (∀ kl v, m0 kl = some v → ∃ d, C.may d = true ∧ kl = dk d) := h.keys hm0
  have HS : Hid (SetAt w g n L S) := h
  have HC : Hid (SeenAt w gc c) := hc
  have HP : Hid (BoxAt w gs g) := hs
  have HX : Hid (∀ d x, S.ad d = some x → x.size ≤ maxLen) := hx
  clear h hc hs hx hm0 hr0
  go_enter Try.func56, Try.ntmps56
  go_wp2_with (at_range; go_must (refine wpList_range_gmap rfl _ _ rfl Try.underlying61 dot_keys HM.out rfl ?_); intro w1 cnt0 hrg0 hc0 hg0 hs0)
  try go_frame
  have HD0 : Hid (DfAt w n L S c (fun k => (m0 k).isSome) cnt0 m0 w1) := ⟨hrg0, fun d hd => by
      rw [HR0.out d hd]
      cases hq : S.ad d with
      | none =>
        have : C.dropA S c d = none := by unfold C.dropA; rw [hq]
        simp [this]
      | some x => simp, HK0.out, Turn.of_grown hg0 fun b hb => by cases hb⟩
  clear hrg0 hc0 hg0 hs0
  go_loopw [] (fun wr => ∃ left cnt m, Hid (DfAt w n L S c left cnt m wr)) (fun wr => wr.rangeLeft L.bA w.heap.size)
  case atStart => exact ⟨_, _, _, HD0⟩
  case round =>
    clear HD0
    obtain ⟨left, cnt, m, HD⟩ := hrel
    go_wp2_with (at_next; go_must (refine wpList_next_gmap rfl _ rfl dot_keys HD.out.rg rfl ?_ ?_))
    · intro hlf
      have hE : (fun d => if left (dk d) = true then S.ad d else C.dropA S c d) = C.dropA S c := by
        funext d
        rw [hlf]; rfl
      have HF : Hid (SetRet w g L S n { S with ad := C.dropA S c } wr ∧ Turn w wr (fun b => b = L.bA)) := ⟨by have := HD.out.set HS.out; rw [hE] at this; exact this, HD.out.tn⟩
      clear hlf hE HD
      go_wp2
      go_end0
      exact ⟨rfl, HF.out.1, HF.out.2⟩
    · intro key v kl w2 cnt2 hkey hlk hmk hrg2 hlt2 hg2 hs2 hen
      obtain ⟨d, hd, rfl⟩ := HD.out.keys kl v hmk
      obtain ⟨d1, d2⟩ := d
      obtain rfl : key = .agg #[.int .i64 d1, .int .i64 d2] := dot_keys.inj hkey (dot_key hd)
      have hv := HD.out.val (d1, d2) hd
      rw [if_pos hlk, hmk] at hv
      obtain ⟨x, hx⟩ : ∃ x, S.ad (d1, d2) = some x := by
        cases hq : S.ad (d1, d2) with
        | none => rw [hq] at hv; cases hv
        | some x => exact ⟨x, rfl⟩
      rw [hx] at hv
      obtain rfl : v = .agg #[.string x] := Option.some.inj hv
      have HXL : Hid (x.size ≤ maxLen) := HX.out _ x hx
      obtain ⟨z, hz⟩ : ∃ z, (C.has c d1 d2 && C.has (S.go x) d1 d2) = z := ⟨_, rfl⟩
      have HZ : Hid (C.dropA S c (d1, d2) = if z = true then none else some x) := by show _ = _; unfold C.dropA; rw [hx]; simp only [hz]
      have HNX : Hid _ := fun (W : World) (hb : Below w2.heap.size w2 W) => HD.out.next HS.out hd hx hrg2 hg2 hb
      have ht2 : Turn w w2 (fun b => b = L.bA) := HD.out.tn.trans (Turn.of_grown (S := fun b => b = w.heap.size) hg2 fun b hb => by cases hb; rfl) fun x hx => Or.inr (by rw [hx]; exact Nat.le_refl _)
      obtain ⟨⟨L1, hs1, -⟩, -⟩ := HS.out.setA (Nat.le_refl n) _ hrg2.gmap HD.out.val HD.out.keys ht2
      have HSW : Hid (SetAt w2 g n L1 { S with ad := fun d => if left (dk d) = true then S.ad d else C.dropA S c d }) := hs1
      have HSC : Hid (SeenAt w2 gc c) := (ht2.block gc (Array.getElem?_eq_some_iff.1 HC.out).1 (map_ne HS.out HC.out)).trans HC.out
      have HSP : Hid (BoxAt w2 gs g) := (ht2.block gs (Array.getElem?_eq_some_iff.1 HP.out).1 (map_ne HS.out HP.out)).trans HP.out
      have HASK : Hid (∀ W, Below w2.heap.size w2 W → Calls Try.prog 57 #[.agg #[.int .i64 d1, .int .i64 d2], .agg #[.string x], .pointer (some ⟨gc, 0, none⟩), .pointer (some ⟨gs, 0, none⟩)] W fun e w' => e = .returned (.bool z) ∧ Below W.heap.size W w') := fun W hW => drop_asks W g n L1 _ gc gs c x d1 d2 (HSW.out.below hW) (HSC.out.below hW) (HSP.out.below hW) HXL.out z hz
      have HLT : Hid (cnt2 < cnt) := hlt2
      have HLE : Hid (wr.rangeLeft L.bA w.heap.size = cnt) := HD.out.rg.left_eq
      have HKD : Hid (keyOf Try.prog 31 (.agg #[.int .i64 d1, .int .i64 d2]) = some (dk (d1, d2))) := hkey
      clear hkey hlk hmk hrg2 hlt2 hg2 hs2 hv hd hx hz ht2 hs1 HD
      go_wp2_with fail
      have hq4 := two_boxes w2 (.cells #[.int .i64 d1, .int .i64 d2] 31) (.cells #[.string x] 70) (Below.refl _ _)
      have hb2 : Below w2.heap.size w2 ((w2.alloc (.cells #[.int .i64 d1, .int .i64 d2] 31)).alloc (.cells #[.string x] 70)) := bt (below_new _ _) (below_new _ _)
      refine (HASK.out _ hb2).mono ?_
      rintro e w3 ⟨rfl, hb3⟩
      obtain ⟨y0, y1⟩ := box2 (keep_on hb3 hq4.1)
      have HB3 : Hid (Below w2.heap.size w2 w3) := bt hb2 hb3
      clear hb2 hb3 hq4 HASK hen
      cases z with
      | false =>
        have HD3 : Hid _ := (HNX.out w3 HB3.out).1 (by rw [HZ.out]; rfl)
        clear HNX y0 y1
        go_wp2
        go_roundw
        case rel => exact ⟨_, _, _, HD3⟩
        case measure =>
          rw [HLE.out, HD3.out.rg.left_eq]
          exact HLT.out
      | true =>
        obtain ⟨hr3, hn3⟩ := (HNX.out w3 HB3.out).2 (by rw [HZ.out]; rfl)
        have HR3 : Hid _ := hr3
        have HN3 : Hid _ := hn3
        clear hr3 hn3 HNX
        go_wp2_with (at_delete; go_must (refine wpList_delete_grange rfl _ _ _ rfl Try.underlying61 dot_keys HR3.out HKD.out rfl rfl ?_); intro w4 cnt4 hr4 hc4 hg4)
        try go_frame
        have HD4 : Hid _ := HN3.out w4 cnt4 hr4 hg4
        have HC4 : Hid (cnt4 ≤ cnt2) := hc4
        clear hr4 hc4 hg4 HN3 HR3 y0 y1
        go_roundw
        case rel => exact ⟨_, _, _, HD4⟩
        case measure =>
          rw [HLE.out, HD4.out.rg.left_eq]
          exact Nat.lt_of_le_of_lt HC4.out HLT.out
end Go.Proofs.Ytoglhhoniojbaaa

namespace Go.Proofs.Ytoglhhoniojbaaa
open Go.RowKit Go.Lib Go.Maps
set_option linter.unusedVariables false

namespace C
theorem byd_z7 (c : V7) : byd z7 c = z7 := by unfold byd z7; simp
end C
/-- While what the removes had seen is gone through: from map bG (gone through by the walk behind) to a new map. -/
structure GaAt (w : World) (bG : Nat) (go : Tx → V7) (c : V7) (n : Nat) (m : Lit → Option Value) (left : Lit → Bool) (cnt N : Nat) (m' : Lit → Option Value) (wr : World) : Prop where
  rg : GRange wr 9 bG (w.heap.size + 1) n m left cnt
  mp : GMap wr 9 w.heap.size N m'
  le : N + cnt ≤ n
  val : ∀ x, m' (sk x) = if left (sk x) = true ∨ C.same (C.byd (go x) c) C.z7 = true then none else some (C.byd (go x) c).v
  bel : Below w.heap.size w wr
def Ga (w : World) (bG : Nat) (go : Tx → V7) (c : V7) (n : Nat) (m : Lit → Option Value) (left : Lit → Bool) (cnt : Nat) (wr : World) : Prop := ∃ N m', GaAt w bG go c n m left cnt N m' wr
theorem ga_start {w w0 w1 : World} {bG n cnt : Nat} {go : Tx → V7} {c : V7} {m : Lit → Option Value} (hm : ∀ x, m (sk x) = if C.same (go x) C.z7 = true then none else some (go x).v) (hw0 : w0 = w.alloc (.map #[] 0)) (hr : GRange w1 9 bG w0.heap.size n m (fun k => (m k).isSome) cnt) (hc : cnt ≤ n) (hg : w0.grownBy w1 none) : Ga w bG go c n m (fun k => (m k).isSome) cnt w1 := by
  subst hw0
  rw [World.size_alloc] at hr
  have h0 := GMap.made w 9
  refine ⟨0, fun _ => none, hr, h0.same (hg.block _ h0.lt (by simp)), by omega, fun x => ?_, bt (below_new w _) ⟨hg.os, hg.tape, hg.output, hg.size, fun b hb => hg.block b hb (fun e => by cases e)⟩⟩
  rw [if_pos]
  rw [hm x]
  by_cases hx : C.same (go x) C.z7 = true
  · rw [if_pos hx]
    right
    rw [(C.same_iff _ _).1 hx, C.byd_z7, C.same_self]
  · rw [if_neg hx]; exact Or.inl rfl
theorem ga_step {w wr w' w2 : World} {bG n cnt cnt' : Nat} {go : Tx → V7} {c : V7} {m : Lit → Option Value} {left : Lit → Bool} {x : Tx} (hbG : bG < w.heap.size) (h : Ga w bG go c n m left cnt wr)
    (hr : GRange w' 9 bG (w.heap.size + 1) n m (fun z => left z && !z.sameKey (sk x)) cnt') (hc : cnt' < cnt) (hg : wr.grownBy w' (some (w.heap.size + 1))) (hb : Below w'.heap.size w' w2) :
    (C.same (C.byd (go x) c) C.z7 = true → Ga w bG go c n m (fun z => left z && !z.sameKey (sk x)) cnt' w2) ∧
    (C.same (C.byd (go x) c) C.z7 = false → ∃ N m', GMap w2 9 w.heap.size N m' ∧ N < n ∧ ∀ w3, GMap w3 9 w.heap.size (N + 1) (gput m' (sk x) (some (C.byd (go x) c).v)) → w2.grownBy w3 (some w.heap.size) → Ga w bG go c n m (fun z => left z && !z.sameKey (sk x)) cnt' w3) := by
  obtain ⟨N, m', k⟩ := h
  have h1 := k.mp.lt
  have h2 := k.rg.lt
  have m2 : GMap w2 9 w.heap.size N m' := (k.mp.same (hg.block _ h1 (by simp))).below hb
  have hs2 := hb.size
  have hs1 := hg.size
  have g1 : Below w.heap.size w w' := ⟨hg.os.trans k.bel.os, hg.tape.trans k.bel.tape, hg.output.trans k.bel.output, by have := k.bel.size; omega, fun b hb' => (hg.block b (by have := k.bel.size; omega) (fun e => by have := Option.some.inj e; omega)).trans (k.bel.block b hb')⟩
  have g2 := bt g1 hb
  have lft : ∀ y, y ≠ x → (left (sk y) && !(sk y).sameKey (sk x)) = left (sk y) := fun y hy => by
    cases hq : (sk y).sameKey (sk x) with
    | false => simp
    | true => exact absurd ((sk_key _ _).1 hq) hy
  have lfx : (left (sk x) && !(sk x).sameKey (sk x)) = false := by rw [(sk_key x x).2 rfl]; simp
  refine ⟨fun hz => ⟨N, m', hr.same (hb.block _ hr.gmap.lt) (hb.block _ hr.lt), m2, by have := k.le; omega, fun y => ?_, g2⟩, fun hz => ⟨N, m', m2, by have := k.le; omega, fun w3 h3 hg3 => ⟨N + 1, _, ?_, h3, by have := k.le; omega, fun y => ?_, ?_⟩⟩⟩
  · by_cases hyx : y = x
    · subst hyx
      rw [k.val y, if_pos (Or.inr hz), if_pos (Or.inr hz)]
    · rw [lft y hyx]; exact k.val y
  · have b23 : ∀ b, b < w2.heap.size → b ≠ w.heap.size → w3.heap[b]? = w2.heap[b]? := fun b hb1 hb2 => hg3.block b hb1 fun e => hb2 (Option.some.inj e)
    have q1 := hr.gmap.lt
    have q2 := hr.lt
    have q3 : bG ≠ w.heap.size := by omega
    exact (hr.same (hb.block _ hr.gmap.lt) (hb.block _ hr.lt)).same (b23 _ (by omega) q3) (b23 _ (by omega) (by omega))
  · by_cases hyx : y = x
    · subst hyx
      rw [gput_same, if_neg]
      rintro (e | e)
      · rw [lfx] at e; cases e
      · rw [hz] at e; cases e
    · rw [gput_other _ _ fun e => hyx (sk_inj e), lft y hyx]; exact k.val y
  · exact ⟨hg3.os.trans g2.os, hg3.tape.trans g2.tape, hg3.output.trans g2.output, by have := g2.size; have := hg3.size; omega, fun b hb' => (hg3.block b (by have := g2.size; omega) (fun e => by have := Option.some.inj e; omega)).trans (g2.block b hb')⟩
/-- With another map of what the removes had seen. -/
theorem SetAt.newG {w w' : World} {g n n' bN : Nat} {L : OLay} {S : C.Os} (h : SetAt w g n L S) (hb : Below w.heap.size w w') (go' : Tx → V7) {m' : Lit → Option Value} (hm : GMap w' 9 bN n' m') (hr : ∀ x, m' (sk x) = if C.same (go' x) C.z7 = true then none else some (go' x).v) (hN : w.heap.size ≤ bN) (hn : n ≤ n') :
    SetAt (w'.setCell ⟨g, 2, none⟩ (.map (some bN))) g n' { L with bG := bN } { S with go := go' } := by
  obtain ⟨a1, a2, a3⟩ := h.apart
  have hgl := h.lt (Or.inl rfl)
  have keep : ∀ b, L.foot g S b → b ≠ g → (w'.setCell ⟨g, 2, none⟩ (.map (some bN))).heap[b]? = w.heap[b]? := fun b hf hne => (set_other hne).trans (hb.block b (h.lt hf))
  have hblk : w'.heap[g]? = some (.cells #[.map (some L.bA), .map (some L.bT), .map (some L.bG)] 65) := (hb.block g hgl).trans h.blk
  refine ⟨set_block hblk, ?_, ?_, ⟨m', hm.same (set_other (by omega)), hr⟩, fun x hx => (h.row x hx).same fun b hb' => keep b (Or.inr (Or.inr (Or.inr (Or.inr ⟨x, hx, hb'⟩)))) (h.row_apart hx hb').1, h.sep, ?_, ?_⟩
  · obtain ⟨m, hm, hr⟩ := h.mA
    exact ⟨m, (hm.same (keep _ (Or.inr (Or.inl rfl)) a1.symm)).mono hn, hr⟩
  · obtain ⟨m, hm, hr⟩ := h.mT
    exact ⟨m, (hm.same (keep _ (Or.inr (Or.inr (Or.inl rfl))) a2.symm)).mono hn, hr⟩
  · have l1 := h.lt (b := L.bA) (Or.inr (Or.inl rfl))
    have l2 := h.lt (b := L.bT) (Or.inr (Or.inr (Or.inl rfl)))
    exact ⟨h.ne.1, fun e => by simp only at e; omega, fun e => by simp only at e; omega⟩
  · obtain ⟨m, hm, hr⟩ := h.kA
    exact ⟨m, (hm.same (keep _ (Or.inr (Or.inl rfl)) a1.symm)).mono hn, hr⟩
end Go.Proofs.Ytoglhhoniojbaaa

namespace Go.Proofs.Ytoglhhoniojbaaa
open Go.RowKit Go.Lib Go.Maps
set_option linter.unusedVariables false

set_option maxRecDepth 100000 in
set_option maxHeartbeats 8000000 in
theorem odrop_any (w : World) (g n : Nat) (L : OLay) (S : C.Os) (c : V7) (h : SetAt w g n L S) (hn : n < maxLen) (hx : ∀ d x, S.ad d = some x → x.size ≤ maxLen) :
    Calls Try.prog 27 #[.pointer (some ⟨g, 0, none⟩), c.v] w fun e w' => e = .returned (.tuple #[]) ∧ SetRet w g L S n (C.dropO S c) w' := by
  obtain ⟨W1, hW1⟩ : ∃ W1, W1 = (w.alloc (.cells #[.pointer (some ⟨g, 0, none⟩)] 23)).alloc (.cells #[.int .i64 c.x0, .int .i64 c.x1, .int .i64 c.x2, .int .i64 c.x3, .int .i64 c.x4, .int .i64 c.x5, .int .i64 c.x6] 28) := ⟨_, rfl⟩
  obtain ⟨gs, hgs⟩ : ∃ gs, gs = w.heap.size := ⟨_, rfl⟩
  obtain ⟨gc, hgc⟩ : ∃ gc, gc = gs + 1 := ⟨_, rfl⟩
  have HB1 : Hid (Below w.heap.size w W1) := by show Below _ _ _; rw [hW1]; exact bt (below_new _ _) (below_new _ _)
  have q1 := two_boxes w (.cells #[.pointer (some ⟨g, 0, none⟩)] 23) (.cells #[.int .i64 c.x0, .int .i64 c.x1, .int .i64 c.x2, .int .i64 c.x3, .int .i64 c.x4, .int .i64 c.x5, .int .i64 c.x6] 28) (w1 := W1) (by rw [hW1]; exact Below.refl _ _)
  have HP1 : Hid (BoxAt W1 gs g) := by show _ = _; rw [hgs]; exact q1.1
  have HC1 : Hid (SeenAt W1 gc c) := by show _ = _; rw [hgc, hgs]; exact q1.2
  have HS1 : Hid (SetAt W1 g n L S) := h.below HB1.out
  have HS : Hid (SetAt w g n L S) := h
  have HN : Hid (n < maxLen) := hn
  have HX : Hid _ := hx
  have p1 : W1.cell? ⟨gs, 0, none⟩ = some (.pointer (some ⟨g, 0, none⟩)) := by have := HP1.out; unfold BoxAt at this; simp [World.cell?, this]
  have p2 := HS1.out.cells.1
  have hmf : ∀ (fn : Fn) (first cap : Array Value) (w : World), (Instr.makeFunc fn first cap).run Try.prog w = .ok (.func fn first cap) w := fun _ _ _ _ => rfl
  have hmm := @run_makeMap Try.prog
  have HBY : Hid (∀ (x : Tx) (W : World), Calls Try.prog 58 #[(S.go x).v, c.v] W fun e w' => e = .returned (C.byd (S.go x) c).v ∧ Below W.heap.size W w') := fun x W => beyond_any _ _ W
  obtain ⟨cc, hcc⟩ : ∃ cc, c = cc := ⟨_, rfl⟩
  have HCC : Hid (c = cc) := hcc
  rw [hcc] at HC1
  rw [show C.dropO S c = C.dropO S cc by rw [hcc]]
  clear h hn hx q1
  obtain ⟨c0, c1, c2, c3, c4, c5, c6⟩ := c
  simp only at hW1
  rw [hW1] at p2
  clear p1
  simp only [V7.v] at HBY ⊢
  go_enter Try.func27, Try.ntmps27
  go_wp2_with fail
  rw [← hgs]
  rw [← hgc]
  rw [← hW1]
  clear p2 hW1 hgc hgs
  refine (dfn_any W1 g n L S gc gs cc HS1.out HC1.out HP1.out HX.out).mono ?_
  rintro e w2 ⟨rfl, ⟨⟨L1, hs2, hf2⟩, ht2⟩, htA⟩
  have HS2 : Hid (SetAt w2 g n L1 { S with ad := C.dropA S cc }) := hs2
  have HF2 : Hid (∀ b, L1.foot g { S with ad := C.dropA S cc } b → L.foot g S b ∨ w.heap.size ≤ b) := fun b hb => (hf2 b hb).imp id fun k => Nat.le_trans HB1.out.size k
  have HT2 : Hid (Turn w w2 (L.foot g S)) := (Turn.of_below HB1.out).trans ht2 fun x hx => Or.inl hx
  have HC2 : Hid (SeenAt w2 gc cc) := (htA.block gc (Array.getElem?_eq_some_iff.1 HC1.out).1 (map_ne HS1.out HC1.out)).trans HC1.out
  have HP2 : Hid (BoxAt w2 gs g) := (htA.block gs (Array.getElem?_eq_some_iff.1 HP1.out).1 (map_ne HS1.out HP1.out)).trans HP1.out
  clear hs2 hf2 ht2 htA
  obtain ⟨mG, hmG, hrG⟩ := HS2.out.mG
  obtain ⟨w0, hw0⟩ : ∃ w0, w0 = w2.alloc (.map #[] 0) := ⟨_, rfl⟩
  have hb0 : Below w2.heap.size w2 w0 := by rw [hw0]; exact below_new w2 _
  have HBG : Hid (L1.bG < w2.heap.size) := hmG.lt
  have HM0 : Hid (GMap w0 9 L1.bG n mG) := hmG.below hb0
  have HMR : Hid (∀ x, mG (sk x) = if C.same (S.go x) C.z7 = true then none else some (S.go x).v) := hrG
  have h1 : w0.cell? ⟨gs, 0, none⟩ = some (.pointer (some ⟨g, 0, none⟩)) := by have := HP2.out.below hb0; unfold BoxAt at this; simp [World.cell?, this]
  have h2 : w0.cell? ⟨g, 2, none⟩ = some (.map (some L1.bG)) := (HS2.out.below hb0).cells.2.2
  rw [hw0] at h1 h2 HM0
  clear hmG hrG hb0 hw0
  go_wp2_with (at_range; go_must (refine wpList_range_gmap rfl _ _ rfl Try.underlying63 str_keys HM0.out rfl ?_); intro w3 cnt0 hrg0 hc0 hg0 hs0)
  try go_frame
  have HG0 : Hid (Ga w2 L1.bG S.go cc n mG (fun k => (mG k).isSome) cnt0 w3) := ga_start (w0 := w2.alloc (.map #[] 0)) HMR.out rfl hrg0 hc0 hg0
  rw [show (w2.alloc (.map #[] 0)).heap.size = w2.heap.size + 1 from World.size_alloc _ _]
  clear hmm hmf hrg0 hc0 hg0 hs0 h1 h2 HM0
  go_loopw [] (fun wr => ∃ left cnt, Hid (Ga w2 L1.bG S.go cc n mG left cnt wr)) (fun wr => wr.rangeLeft L1.bG (w2.heap.size + 1))
  case atStart => exact ⟨_, _, HG0⟩
  case round =>
    clear HG0
    obtain ⟨left, cnt, HG⟩ := hrel
    have HR : Hid (GRange wr 9 L1.bG (w2.heap.size + 1) n mG left cnt) := by obtain ⟨_, _, k⟩ := HG.out; exact k.rg
    have HBE : Hid (Below w2.heap.size w2 wr) := by obtain ⟨_, _, k⟩ := HG.out; exact k.bel
    go_wp2_with (at_next; go_must (refine wpList_next_gmap rfl _ rfl str_keys HR.out rfl ?_ ?_))
    · intro hlf
      obtain ⟨N, m', k⟩ := HG.out
      have hm' : ∀ x, m' (sk x) = if C.same (C.byd (S.go x) cc) C.z7 = true then none else some (C.byd (S.go x) cc).v := fun x => by
        rw [k.val x, hlf]; simp
      have HF : Hid (SetAt (wr.setCell ⟨g, 2, none⟩ (.map (some w2.heap.size))) g n { L1 with bG := w2.heap.size } (C.dropO S cc)) := HS2.out.newG HBE.out (fun x => C.byd (S.go x) cc) (k.mp.mono (by have := k.le; omega)) hm' (Nat.le_refl _) (Nat.le_refl _)
      have p1 : wr.cell? ⟨gs, 0, none⟩ = some (.pointer (some ⟨g, 0, none⟩)) := by have := HP2.out.below HBE.out; unfold BoxAt at this; simp [World.cell?, this]
      have p2 := (HS2.out.below HBE.out).cells.2.2
      have p3 : wr.frozen? ⟨g, 2, none⟩ = false := by have := (HS2.out.below HBE.out).blk; simp [World.frozen?, this]
      clear k hm' hlf HG HR
      go_wp2
      go_end0
      refine ⟨rfl, ⟨{ L1 with bG := w2.heap.size }, HF.out, fun b hb => ?_⟩, ?_⟩
      · rcases hb with rfl | rfl | rfl | rfl | ⟨x, hx, hb⟩
        · exact HF2.out _ (Or.inl rfl)
        · exact HF2.out _ (Or.inr (Or.inl rfl))
        · exact HF2.out _ (Or.inr (Or.inr (Or.inl rfl)))
        · exact Or.inr HT2.out.size
        · exact HF2.out _ (Or.inr (Or.inr (Or.inr (Or.inr ⟨x, hx, hb⟩))))
      · exact (HT2.out.trans (Turn.of_below HBE.out) fun x hx => Or.inl hx).setCell (Or.inl rfl) _
    · intro key v kl w4 cnt2 hkey hlk hmk hrg2 hlt2 hg2 hs2 hen
      obtain ⟨b, rfl, rfl, hlen⟩ := keyOf_str Try.underlying9 hkey
      obtain ⟨x, hx⟩ : ∃ x : Tx, x = ⟨b.toArray⟩ := ⟨_, rfl⟩
      have hbx : Lit.string b = sk x := by rw [hx, sk]
      have hbv : encStr b = .string x := by rw [hx, encStr]
      rw [hbx] at hkey hlk hmk hrg2
      rw [hbv] at hkey hen ⊢
      clear hbx hbv
      obtain ⟨hth, rfl⟩ := drop_nil (HMR.out x) hmk
      have HXX : Hid (x.size ≤ maxLen) := by show x.size ≤ _; rw [hx]; show b.toArray.size ≤ _; simpa using hlen
      have hbel4 : Below w2.heap.size w2 w4 := ⟨hg2.os.trans HBE.out.os, hg2.tape.trans HBE.out.tape, hg2.output.trans HBE.out.output, by have := HBE.out.size; omega, fun b hb' => (hg2.block b (by have := HBE.out.size; omega) (fun e => by have := Option.some.inj e; omega)).trans (HBE.out.block b hb')⟩
      have HST : Hid _ := fun (w5 : World) (hb : Below w4.heap.size w4 w5) => ga_step HBG.out HG.out hrg2 hlt2 hg2 hb
      have HLT : Hid (cnt2 < cnt) := hlt2
      have HLE : Hid (wr.rangeLeft L1.bG (w2.heap.size + 1) = cnt) := HR.out.left_eq
      have HC4 : Hid (SeenAt w4 gc cc) := HC2.out.below hbel4
      have HBX : Hid (∀ (W : World), Calls Try.prog 58 #[(S.go x).v, .agg #[.int .i64 c0, .int .i64 c1, .int .i64 c2, .int .i64 c3, .int .i64 c4, .int .i64 c5, .int .i64 c6]] W fun e w' => e = .returned (C.byd (S.go x) cc).v ∧ Below W.heap.size W w') := fun W => by have := HBY.out x W; rw [HCC.out] at this; exact this
      obtain ⟨sm, hsm⟩ : ∃ sm, C.same (C.byd (S.go x) cc) C.z7 = sm := ⟨_, rfl⟩
      have HEQ : Hid (∀ W, _) := fun W => eq_vec (a := C.byd (S.go x) cc) (b := C.z7) (x := sm) hsm W
      rw [hsm] at HST
      clear hx hkey hlk hmk hrg2 hlt2 hg2 hs2 hth hbel4 hlen HG HR hsm
      generalize C.byd (S.go x) cc = r at *
      generalize S.go x = y at *
      have HC4' : Hid (SeenAt w4 gc ⟨c0, c1, c2, c3, c4, c5, c6⟩) := by rw [HCC.out]; exact HC4.out
      obtain ⟨y0, y1, y2, y3, y4, y5, y6⟩ := y
      obtain ⟨r0, r1, r2, r3, r4, r5, r6⟩ := r
      simp only [V7.v, C.z7] at hen HBX HEQ ⊢
      obtain ⟨k0, k1, k2, k3, k4, k5, k6⟩ := box7 (HC4'.out.below (below_new w4 (.cells #[.int .i64 y0, .int .i64 y1, .int .i64 y2, .int .i64 y3, .int .i64 y4, .int .i64 y5, .int .i64 y6] 28)))
      go_wp2_with fail
      have hbn := below_new w4 (.cells #[.int .i64 y0, .int .i64 y1, .int .i64 y2, .int .i64 y3, .int .i64 y4, .int .i64 y5, .int .i64 y6] 28)
      refine (HBX.out _).mono ?_
      rintro e w5 ⟨rfl, hb5⟩
      have hq := kept_block hb5
      have HB5 : Hid (Below w4.heap.size w4 w5) := bt hbn hb5
      obtain ⟨⟨a0, a1, a2, a3, a4, a5, a6⟩, ⟨f0, f1, f2, f3, f4, f5, f6⟩⟩ := zf7 hq
      have kE := HEQ.out
      clear hbn hb5 hq k0 k1 k2 k3 k4 k5 k6 hen
      have HB6 : Hid (Below w4.heap.size w4 (((((((w5.setCell ⟨w4.heap.size, 0, none⟩ (.int .i64 r0)).setCell ⟨w4.heap.size, 1, none⟩ (.int .i64 r1)).setCell ⟨w4.heap.size, 2, none⟩ (.int .i64 r2)).setCell ⟨w4.heap.size, 3, none⟩ (.int .i64 r3)).setCell ⟨w4.heap.size, 4, none⟩ (.int .i64 r4)).setCell ⟨w4.heap.size, 5, none⟩ (.int .i64 r5)).setCell ⟨w4.heap.size, 6, none⟩ (.int .i64 r6))) := Below.setCell (Below.setCell (Below.setCell (Below.setCell (Below.setCell (Below.setCell (Below.setCell HB5.out (Nat.le_refl _) _) (Nat.le_refl _) _) (Nat.le_refl _) _) (Nat.le_refl _) _) (Nat.le_refl _) _) (Nat.le_refl _) _) (Nat.le_refl _) _
      cases sm with
      | true =>
        have HD : Hid _ := (HST.out _ HB6.out).1 rfl
        clear HST HBX HEQ HB6
        go_wp2_with fail
        refine ⟨⟨_, _, HD⟩, ?_⟩
        obtain ⟨_, _, k⟩ := HD.out
        rw [HLE.out, k.rg.left_eq]
        exact HLT.out
      | false =>
        obtain ⟨N, m', q1, q2, q3⟩ := (HST.out _ HB6.out).2 rfl
        have HK1 : Hid _ := q1
        have HK2 : Hid (N < maxLen) := Nat.lt_trans q2 HN.out
        have HK3 : Hid _ := q3
        clear HST HBX HEQ HB6 q1 q2 q3
        go_wp2_with (at_mapUpdate; go_must (refine wpList_store_gmap rfl _ _ _ _ rfl Try.underlying63 str_keys HK1.out HK2.out (str_key HXX.out) rfl rfl rfl ?_); intro w7 j1 j2)
        try go_frame
        have HG4 : Hid _ := HK3.out w7 j1 j2
        clear j1 j2 HK1 HK3
        go_roundw
        case rel => exact ⟨_, _, HG4⟩
        case measure =>
          obtain ⟨_, _, k⟩ := HG4.out
          rw [HLE.out, k.rg.left_eq]
          exact HLT.out
end Go.Proofs.Ytoglhhoniojbaaa
