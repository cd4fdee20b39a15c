/-
  The document's own reader (rostrumref1.Reader).
-/
import Derived.Test.YtebfhomopdnkkaaRWrite
import Derived.Deep.QuietTactic
import Derived.BigQuiet
namespace Go.Proofs.Ytebfhomopdnkkaa
open Go.RowKit Go.Lib
set_option linter.unusedVariables false

/-- The document's reader at block g. -/
structure Rr (w : World) (g : Nat) (p : Option Addr) (n c : Nat) (l : List UInt8) (a : Nat) (bad : Bool) : Prop where
  blk : w.heap[g]? = some (.cells #[.slice p n c, .int .i64 (a : Nat), .bool bad] 48)
  is : Is w p n c l
  nc : n ≤ c
  cm : c ≤ maxLen
  al : a ≤ n
  pa : 0 < c → ∃ b o, p = some ⟨b, o, none⟩
section
variable {w w' : World} {g k : Nat} {p : Option Addr} {n c : Nat} {l : List UInt8} {a : Nat} {bad : Bool}
theorem Rr.lt (h : Rr w g p n c l a bad) : g < w.heap.size := (Array.getElem?_eq_some_iff.1 h.blk).1
theorem Rr.c0 (h : Rr w g p n c l a bad) : w.cell? ⟨g, 0, none⟩ = some (.slice p n c) := by simp [World.cell?, h.blk]
theorem Rr.c1 (h : Rr w g p n c l a bad) : w.cell? ⟨g, 1, none⟩ = some (.int .i64 (a : Nat)) := by simp [World.cell?, h.blk]
theorem Rr.c2 (h : Rr w g p n c l a bad) : w.cell? ⟨g, 2, none⟩ = some (.bool bad) := by simp [World.cell?, h.blk]
theorem Rr.fz (h : Rr w g p n c l a bad) (o : Nat) : w.frozen? ⟨g, o, none⟩ = false := by simp [World.frozen?, h.blk]
theorem Rr.nb (h : Rr w g p n c l a bad) : NB w g := by
  intro o x
  simp only [World.cell?, h.blk]
  rcases o with _ | _ | _ | o <;> simp
theorem Rr.kept (h : Rr w g p n c l a bad) (hg : w.grownBy w' (some k)) (hn : NB w k) (hne : g ≠ k) : Rr w' g p n c l a bad :=
  ⟨by rw [hg.block g h.lt (fun e => hne (by cases e; rfl))]; exact h.blk, h.is.grown hg hn, h.nc, h.cm, h.al, h.pa⟩
theorem Rr.below (h : Rr w g p n c l a bad) (hb : Below w.heap.size w w') : Rr w' g p n c l a bad :=
  ⟨by rw [hb.block g h.lt]; exact h.blk, h.is.below hb, h.nc, h.cm, h.al, h.pa⟩
theorem Rr.heap (h : Rr w g p n c l a bad) (hb : Below w.heap.size w w') : Rr w' g p n c l a bad := h.below hb
theorem Rr.at (h : Rr w g p n c l a bad) (m : Nat) (v : Int) (hv : v = (m : Nat)) (hm : m ≤ n) : Rr (w.setCell ⟨g, 1, none⟩ (.int .i64 v)) g p n c l m bad := by
  subst hv
  exact ⟨set_block (o := 1) (v := .int .i64 (m : Nat)) h.blk, h.is.grown (set_grown _ _ _ _) h.nb, h.nc, h.cm, hm, h.pa⟩
theorem Rr.spoilt (h : Rr w g p n c l a bad) : Rr (w.setCell ⟨g, 2, none⟩ (.bool true)) g p n c l a true :=
  ⟨set_block (o := 2) (v := .bool true) h.blk, h.is.grown (set_grown _ _ _ _) h.nb, h.nc, h.cm, h.al, h.pa⟩
end
theorem drawn_below (w : World) (m : Nat) : Below w.heap.size w (w.drewN m) := ⟨rfl, rfl, rfl, Nat.le_refl _, fun _ _ => rfl⟩
theorem and_less (x : UInt8) : bits .and .u8 (x.toNat : Int) 127 = ((x.toNat % 128 : Nat) : Int) := by
  have h := x.toNat_lt
  have := u8_and_nat x.toNat 127 h (by omega)
  have key : ∀ n, n < 256 → n &&& 127 = n % 128 := by decide +kernel
  rw [key x.toNat h] at this
  exact this
theorem raw_bad_ret {x : Nat} (h : x = 0) : Ending.returned (.tuple #[.int .u64 0, .bool false]) = .returned (.tuple #[.int .u64 ((x : Nat) : Int), .bool false]) := by subst h; rfl
set_option maxRecDepth 100000 in
set_option maxHeartbeats 4000000 in
theorem raw_any (w : World) (g : Nat) (p : Option Addr) (n c : Nat) (l : List UInt8) (a : Nat) (bad : Bool) (h : Rr w g p n c l a bad) (hl : l.length ≤ 100000) :
    Calls Try.prog 50 #[.pointer (some ⟨g, 0, none⟩)] w fun e w' => (∃ (x : Nat) (ok : Bool) (a' : Nat), e = .returned (.tuple #[.int .u64 x, .bool ok]) ∧ x < C.lim ∧ Rr w' g p n c l a' bad ∧ (ok = true → C.raw (l.drop a) = some (x, a' - a) ∧ a ≤ a') ∧ (ok = false → C.raw (l.drop a) = none)) ∧ w.grownBy w' (some g) := by
  have H : Hid _ := h
  have hnl := h.is.1
  have HN : Hid (n = l.length) := hnl
  have hn' : n ≤ 100000 := by omega
  have hal := h.al
  clear h hnl
  go_enter Try.func50, Try.ntmps50
  go_wp2
  go_loopw [4, 5] (fun s i wr => ∃ (k acc : Nat), a + k ≤ n ∧ k ≤ 9 ∧ acc < 128 ^ k ∧ i = .int .i64 k ∧ s = .int .u64 acc ∧ C.raw (l.drop a) = C.rawAt k acc (l.drop (a + k)) ∧ Rr wr g p n c l a bad ∧ w.grownBy wr (some g)) (fun _ i _ => n - (intOf i).toNat)
  case atStart => exact ⟨0, 0, by omega, by omega, by simp, rfl, rfl, by simp [C.raw], H.out, World.grownBy.refl _ _⟩
  case round =>
    obtain ⟨k, acc, hk, hk9, ha, rfl, rfl, hr, hrr, hgw⟩ := hrel
    have h0 := hrr.c0
    have h1 := hrr.c1
    have f1 := hrr.fz 1
    have HR : Hid _ := hrr
    have HG : Hid _ := hgw
    clear hrr hgw
    have hd : decide ((k : Int) < 10) = true := by simp; omega
    by_cases hlt : a + k < n
    · have hd2 : decide ((a : Int) + (k : Int) < (n : Int)) = true := by simp; omega
      have hkl : a + k < l.length := by have := HN.out; omega
      obtain ⟨b, o, rfl, hc⟩ := HR.out.is.2.2 (show 0 < l.length by omega)
      have hck := hc (a + k) hkl
      have hdr : l.drop (a + k) = l.getD (a + k) 0 :: l.drop (a + (k + 1)) := by
        rw [List.drop_eq_getElem_cons hkl]; simp [List.getD, hkl, Nat.add_assoc]
      simp only at hck
      generalize l.getD (a + k) 0 = x at hck hdr
      rw [hdr] at hr
      have hx0 := x.toNat_lt
      have HRW : Hid (C.raw (l.drop a) = C.rawAt k acc (x :: l.drop (a + (k + 1)))) := hr
      have HAC : Hid (acc < 128 ^ k) := ha
      have HXL : Hid (x.toNat < 256) := hx0
      have hi1 : (0 : Int) ≤ (a : Int) + (k : Int) := by omega
      have hi2 : (a : Int) + (k : Int) < (n : Int) := by omega
      have hi3 : ((a : Int) + (k : Int)).toNat = a + k := by omega
      clear hc hr ha hdr hkl hx0
      by_cases hbad : k = 9 ∧ 1 < x.toNat
      · obtain ⟨rfl, hx1⟩ := hbad
        have hx1' : (1 : Int) < (x.toNat : Nat) := by omega
        go_wp2_with fail
        go_quiet (fail)
        go_wp2_with fail
        go_quiet (fail)
        go_wp2
        go_ret2
        refine ⟨⟨0, false, a, rfl, by decide, ?_, (fun h => by cases h), fun _ => HRW.out.trans (rawAt_none (Or.inl ⟨rfl, hx1⟩))⟩, ?_⟩
        · exact HR.out.below (drawn_below _ _)
        · exact gtrans HG.out (gbelow (drawn_below _ _))
      have hy := and_less x
      have hg := or_group k acc (x.toNat % 128) hk9 HAC.out (by omega) (fun h => by omega)
      have HQ : Hid (acc + x.toNat % 128 * 128 ^ k < 18446744073709551616) := hg.2.2
      generalize hyy : x.toNat % 128 = y at hy hg HQ
      have hy128 : y < 128 := by omega
      obtain ⟨hw2, hw3, _⟩ := hg
      generalize hz : y * 128 ^ k = z at hw2 hw3 HQ
      generalize hq : acc + z = q at hw3 HQ
      have HE : Hid (q = acc + x.toNat % 128 * 128 ^ k) := by show _ = _; rw [← hq, ← hz, hyy]
      clear hyy hz hq
      by_cases h128 : x.toNat < 128
      · have h128' : ((x.toNat : Nat) : Int) < 128 := by omega
        have HST : Hid (∀ (wq : World) (m : Int), Rr wq g (some ⟨b, o, none⟩) n c l a bad → m = ((a + k + 1 : Nat) : Int) → Rr (wq.setCell ⟨g, 1, none⟩ (.int .i64 m)) g (some ⟨b, o, none⟩) n c l (a + k + 1) bad) := fun wq m hq hm => hq.at (a + k + 1) m hm (by omega)
        by_cases h9 : k = 9
        · subst h9
          rw [two_pow_63] at hw2
          have hx1 : ((x.toNat : Nat) : Int) ≤ 1 := by omega
          by_cases h0 : x.toNat = 0
          · have hk0 : 0 < 9 := by omega
            have hy' : bits .and .u8 0 127 = (y : Int) := by have := hy; rw [h0] at this; exact this
            go_wp2_with fail
            go_quiet (fail)
            go_wp2_with fail
            go_quiet (fail)
            go_wp2
            go_ret2
            refine ⟨⟨q, false, a + 9 + 1, rfl, HQ.out, HST.out _ _ (HR.out.below (drawn_below _ _)) (by push_cast; rfl), (fun h => by cases h), (fun _ => HRW.out.trans (rawAt_none (Or.inr ⟨h0, hk0⟩)))⟩, gtrans HG.out (gtrans (gbelow (drawn_below _ _)) (set_grown _ _ _ _))⟩
          · have hx2 : (0 : Int) < ((x.toNat : Nat) : Int) := by omega
            go_wp2_with fail
            go_quiet (fail)
            go_wp2_with fail
            go_quiet (fail)
            go_wp2
            go_ret2
            refine ⟨⟨q, true, a + 9 + 1, rfl, HQ.out, HST.out _ _ (HR.out.below (drawn_below _ _)) (by push_cast; rfl), (fun _ => ⟨?_, by omega⟩), (fun h => by cases h)⟩, gtrans HG.out (gtrans (gbelow (drawn_below _ _)) (set_grown _ _ _ _))⟩
            rw [HRW.out, rawAt_last (by omega) (by omega) (by omega), HE.out]
            congr 2
            omega
        · have h9' : ¬ ((k : Int) = 9) := by omega
          by_cases h0 : x.toNat = 0
          · have hy' : bits .and .u8 0 127 = (y : Int) := by have := hy; rw [h0] at this; exact this
            by_cases hk0 : 0 < k
            · have hk0' : ((k : Int) == 0) = false := by simp; omega
              go_wp2_with fail
              go_quiet (fail)
              go_wp2_with fail
              go_quiet (fail)
              go_wp2
              go_ret2
              refine ⟨⟨q, false, a + k + 1, rfl, HQ.out, HST.out _ _ (HR.out.below (drawn_below _ _)) (by push_cast; rfl), (fun h => by cases h), (fun _ => HRW.out.trans (rawAt_none (Or.inr ⟨h0, hk0⟩)))⟩, gtrans HG.out (gtrans (gbelow (drawn_below _ _)) (set_grown _ _ _ _))⟩
            · have hk0' : ((k : Int) == 0) = true := by simp; omega
              have HK : Hid (k = 0) := by show _ = _; omega
              clear hk0
              go_wp2_with fail
              go_quiet (fail)
              go_wp2_with fail
              go_quiet (fail)
              go_wp2
              go_ret2
              refine ⟨⟨q, true, a + k + 1, rfl, HQ.out, HST.out _ _ (HR.out.below (drawn_below _ _)) (by push_cast; rfl), (fun _ => ⟨?_, by omega⟩), (fun h => by cases h)⟩, gtrans HG.out (gtrans (gbelow (drawn_below _ _)) (set_grown _ _ _ _))⟩
              rw [HRW.out, rawAt_last (by omega) (by omega) (fun _ => HK.out), HE.out]
              congr 2
              omega
          · have hx2 : (0 : Int) < ((x.toNat : Nat) : Int) := by omega
            go_wp2_with fail
            go_quiet (fail)
            go_wp2_with fail
            go_quiet (fail)
            go_wp2
            go_ret2
            refine ⟨⟨q, true, a + k + 1, rfl, HQ.out, HST.out _ _ (HR.out.below (drawn_below _ _)) (by push_cast; rfl), (fun _ => ⟨?_, by omega⟩), (fun h => by cases h)⟩, gtrans HG.out (gtrans (gbelow (drawn_below _ _)) (set_grown _ _ _ _))⟩
            rw [HRW.out, rawAt_last (by omega) (by omega) (by omega), HE.out]
            congr 2
            omega
      · have h128' : 128 ≤ ((x.toNat : Nat) : Int) := by omega
        have h9 : ¬ k = 9 := by omega
        have h9' : ¬ ((k : Int) = 9) := by omega
        go_wp2_with fail
        go_quiet (fail)
        go_wp2_with fail
        go_quiet (fail)
        go_wp2
        go_roundw
        case rel => exact ⟨k + 1, q, by omega, by omega, by rw [HE.out]; exact acc_lt HAC.out (by omega), by go_num, rfl, by rw [HRW.out, rawAt_more h9 (by omega), HE.out], HR.out.below (drawn_below _ _), gtrans HG.out (gbelow (drawn_below _ _))⟩
        case measure => simp [intOf]; omega
    · have hd2 : decide ((a : Int) + (k : Int) < (n : Int)) = false := by simp; omega
      have HRW : Hid _ := hr
      clear hr ha
      go_wp2_with fail
      go_quiet (fail)
      go_wp2
      go_ret2
      refine ⟨⟨0, false, a, rfl, by decide, HR.out.below (drawn_below _ _), (fun h => by cases h), (fun _ => ?_)⟩, gtrans HG.out (gbelow (drawn_below _ _))⟩
      rw [HRW.out, List.drop_of_length_le (by have := HN.out; omega)]; rfl
end Go.Proofs.Ytebfhomopdnkkaa
