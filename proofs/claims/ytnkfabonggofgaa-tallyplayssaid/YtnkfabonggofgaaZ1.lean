/-
  Several texts in one: RRead, RRead2, RRead3.
-/
import Derived.Test.YtnkfabonggofgaaRWrite
import Derived.Deep.QuietTactic
import Derived.BigQuiet
namespace Go.Proofs.Ytnkfabonggofgaa
open Go.RowKit Go.Lib
set_option linter.unusedVariables false

/-- The document's reader at block g. -/
structure Rr (w : World) (g : Nat) (p : Option Addr) (n c : Nat) (l : List UInt8) (a : Nat) (bad : Bool) : Prop where
  blk : w.heap[g]? = some (.cells #[.slice p n c, .int .i64 (a : Nat), .bool bad] 43)
  is : Is w p n c l
  nc : n ≤ c
  cm : c ≤ maxLen
  al : a ≤ n
  pa : 0 < c → ∃ b o, p = some ⟨b, o, none⟩
section
variable {w w' : World} {g k : Nat} {p : Option Addr} {n c : Nat} {l : List UInt8} {a : Nat} {bad : Bool}
theorem Rr.lt (h : Rr w g p n c l a bad) : g < w.heap.size := (Array.getElem?_eq_some_iff.1 h.blk).1
theorem Rr.c0 (h : Rr w g p n c l a bad) : w.cell? ⟨g, 0, none⟩ = some (.slice p n c) := by simp [World.cell?, h.blk]
theorem Rr.c1 (h : Rr w g p n c l a bad) : w.cell? ⟨g, 1, none⟩ = some (.int .i64 (a : Nat)) := by simp [World.cell?, h.blk]
theorem Rr.c2 (h : Rr w g p n c l a bad) : w.cell? ⟨g, 2, none⟩ = some (.bool bad) := by simp [World.cell?, h.blk]
theorem Rr.fz (h : Rr w g p n c l a bad) (o : Nat) : w.frozen? ⟨g, o, none⟩ = false := by simp [World.frozen?, h.blk]
theorem Rr.nb (h : Rr w g p n c l a bad) : NB w g := by
  intro o x
  simp only [World.cell?, h.blk]
  rcases o with _ | _ | _ | o <;> simp
theorem Rr.kept (h : Rr w g p n c l a bad) (hg : w.grownBy w' (some k)) (hn : NB w k) (hne : g ≠ k) : Rr w' g p n c l a bad :=
  ⟨by rw [hg.block g h.lt (fun e => hne (by cases e; rfl))]; exact h.blk, h.is.grown hg hn, h.nc, h.cm, h.al, h.pa⟩
theorem Rr.below (h : Rr w g p n c l a bad) (hb : Below w.heap.size w w') : Rr w' g p n c l a bad :=
  ⟨by rw [hb.block g h.lt]; exact h.blk, h.is.below hb, h.nc, h.cm, h.al, h.pa⟩
theorem Rr.heap (h : Rr w g p n c l a bad) (hb : Below w.heap.size w w') : Rr w' g p n c l a bad := h.below hb
theorem Rr.at (h : Rr w g p n c l a bad) (m : Nat) (v : Int) (hv : v = (m : Nat)) (hm : m ≤ n) : Rr (w.setCell ⟨g, 1, none⟩ (.int .i64 v)) g p n c l m bad := by
  subst hv
  exact ⟨set_block (o := 1) (v := .int .i64 (m : Nat)) h.blk, h.is.grown (set_grown _ _ _ _) h.nb, h.nc, h.cm, hm, h.pa⟩
theorem Rr.spoilt (h : Rr w g p n c l a bad) : Rr (w.setCell ⟨g, 2, none⟩ (.bool true)) g p n c l a true :=
  ⟨set_block (o := 2) (v := .bool true) h.blk, h.is.grown (set_grown _ _ _ _) h.nb, h.nc, h.cm, h.al, h.pa⟩
end
theorem drawn_below (w : World) (m : Nat) : Below w.heap.size w (w.drewN m) := ⟨rfl, rfl, rfl, Nat.le_refl _, fun _ _ => rfl⟩
theorem and_less (x : UInt8) : bits .and .u8 (x.toNat : Int) 127 = ((x.toNat % 128 : Nat) : Int) := by
  have h := x.toNat_lt
  have := u8_and_nat x.toNat 127 h (by omega)
  have key : ∀ n, n < 256 → n &&& 127 = n % 128 := by decide +kernel
  rw [key x.toNat h] at this
  exact this
theorem raw_bad_ret {x : Nat} (h : x = 0) : Ending.returned (.tuple #[.int .u64 0, .bool false]) = .returned (.tuple #[.int .u64 ((x : Nat) : Int), .bool false]) := by subst h; rfl
set_option maxRecDepth 100000 in
set_option maxHeartbeats 4000000 in
theorem raw_any (w : World) (g : Nat) (p : Option Addr) (n c : Nat) (l : List UInt8) (a : Nat) (bad : Bool) (h : Rr w g p n c l a bad) (hl : l.length ≤ 100000) :
    Calls Try.prog 34 #[.pointer (some ⟨g, 0, none⟩)] w fun e w' => (∃ (x : Nat) (ok : Bool) (a' : Nat), e = .returned (.tuple #[.int .u64 x, .bool ok]) ∧ x < C.lim ∧ Rr w' g p n c l a' bad ∧ (ok = true → C.raw (l.drop a) = some (x, a' - a) ∧ a ≤ a') ∧ (ok = false → C.raw (l.drop a) = none)) ∧ w.grownBy w' (some g) := by
  have H : Hid _ := h
  have hnl := h.is.1
  have HN : Hid (n = l.length) := hnl
  have hn' : n ≤ 100000 := by omega
  have hal := h.al
  clear h hnl
  go_enter Try.func34, Try.ntmps34
  go_wp2
  go_loopw [4, 5] (fun s i wr => ∃ (k acc : Nat), a + k ≤ n ∧ k ≤ 9 ∧ acc < 128 ^ k ∧ i = .int .i64 k ∧ s = .int .u64 acc ∧ C.raw (l.drop a) = C.rawAt k acc (l.drop (a + k)) ∧ Rr wr g p n c l a bad ∧ w.grownBy wr (some g)) (fun _ i _ => n - (intOf i).toNat)
  case atStart => exact ⟨0, 0, by omega, by omega, by simp, rfl, rfl, by simp [C.raw], H.out, World.grownBy.refl _ _⟩
  case round =>
    obtain ⟨k, acc, hk, hk9, ha, rfl, rfl, hr, hrr, hgw⟩ := hrel
    have h0 := hrr.c0
    have h1 := hrr.c1
    have f1 := hrr.fz 1
    have HR : Hid _ := hrr
    have HG : Hid _ := hgw
    clear hrr hgw
    have hd : decide ((k : Int) < 10) = true := by simp; omega
    by_cases hlt : a + k < n
    · have hd2 : decide ((a : Int) + (k : Int) < (n : Int)) = true := by simp; omega
      have hkl : a + k < l.length := by have := HN.out; omega
      obtain ⟨b, o, rfl, hc⟩ := HR.out.is.2.2 (show 0 < l.length by omega)
      have hck := hc (a + k) hkl
      have hdr : l.drop (a + k) = l.getD (a + k) 0 :: l.drop (a + (k + 1)) := by
        rw [List.drop_eq_getElem_cons hkl]; simp [List.getD, hkl, Nat.add_assoc]
      simp only at hck
      generalize l.getD (a + k) 0 = x at hck hdr
      rw [hdr] at hr
      have hx0 := x.toNat_lt
      have HRW : Hid (C.raw (l.drop a) = C.rawAt k acc (x :: l.drop (a + (k + 1)))) := hr
      have HAC : Hid (acc < 128 ^ k) := ha
      have HXL : Hid (x.toNat < 256) := hx0
      have hi1 : (0 : Int) ≤ (a : Int) + (k : Int) := by omega
      have hi2 : (a : Int) + (k : Int) < (n : Int) := by omega
      have hi3 : ((a : Int) + (k : Int)).toNat = a + k := by omega
      clear hc hr ha hdr hkl hx0
      by_cases hbad : k = 9 ∧ 1 < x.toNat
      · obtain ⟨rfl, hx1⟩ := hbad
        have hx1' : (1 : Int) < (x.toNat : Nat) := by omega
        go_wp2_with fail
        go_quiet (fail)
        go_wp2_with fail
        go_quiet (fail)
        go_wp2
        go_ret2
        refine ⟨⟨0, false, a, rfl, by decide, ?_, (fun h => by cases h), fun _ => HRW.out.trans (rawAt_none (Or.inl ⟨rfl, hx1⟩))⟩, ?_⟩
        · exact HR.out.below (drawn_below _ _)
        · exact gtrans HG.out (gbelow (drawn_below _ _))
      have hy := and_less x
      have hg := or_group k acc (x.toNat % 128) hk9 HAC.out (by omega) (fun h => by omega)
      have HQ : Hid (acc + x.toNat % 128 * 128 ^ k < 18446744073709551616) := hg.2.2
      generalize hyy : x.toNat % 128 = y at hy hg HQ
      have hy128 : y < 128 := by omega
      obtain ⟨hw2, hw3, _⟩ := hg
      generalize hz : y * 128 ^ k = z at hw2 hw3 HQ
      generalize hq : acc + z = q at hw3 HQ
      have HE : Hid (q = acc + x.toNat % 128 * 128 ^ k) := by show _ = _; rw [← hq, ← hz, hyy]
      clear hyy hz hq
      by_cases h128 : x.toNat < 128
      · have h128' : ((x.toNat : Nat) : Int) < 128 := by omega
        have HST : Hid (∀ (wq : World) (m : Int), Rr wq g (some ⟨b, o, none⟩) n c l a bad → m = ((a + k + 1 : Nat) : Int) → Rr (wq.setCell ⟨g, 1, none⟩ (.int .i64 m)) g (some ⟨b, o, none⟩) n c l (a + k + 1) bad) := fun wq m hq hm => hq.at (a + k + 1) m hm (by omega)
        by_cases h9 : k = 9
        · subst h9
          rw [two_pow_63] at hw2
          have hx1 : ((x.toNat : Nat) : Int) ≤ 1 := by omega
          by_cases h0 : x.toNat = 0
          · have hk0 : 0 < 9 := by omega
            have hy' : bits .and .u8 0 127 = (y : Int) := by have := hy; rw [h0] at this; exact this
            go_wp2_with fail
            go_quiet (fail)
            go_wp2_with fail
            go_quiet (fail)
            go_wp2
            go_ret2
            refine ⟨⟨q, false, a + 9 + 1, rfl, HQ.out, HST.out _ _ (HR.out.below (drawn_below _ _)) (by push_cast; rfl), (fun h => by cases h), (fun _ => HRW.out.trans (rawAt_none (Or.inr ⟨h0, hk0⟩)))⟩, gtrans HG.out (gtrans (gbelow (drawn_below _ _)) (set_grown _ _ _ _))⟩
          · have hx2 : (0 : Int) < ((x.toNat : Nat) : Int) := by omega
            go_wp2_with fail
            go_quiet (fail)
            go_wp2_with fail
            go_quiet (fail)
            go_wp2
            go_ret2
            refine ⟨⟨q, true, a + 9 + 1, rfl, HQ.out, HST.out _ _ (HR.out.below (drawn_below _ _)) (by push_cast; rfl), (fun _ => ⟨?_, by omega⟩), (fun h => by cases h)⟩, gtrans HG.out (gtrans (gbelow (drawn_below _ _)) (set_grown _ _ _ _))⟩
            rw [HRW.out, rawAt_last (by omega) (by omega) (by omega), HE.out]
            congr 2
            omega
        · have h9' : ¬ ((k : Int) = 9) := by omega
          by_cases h0 : x.toNat = 0
          · have hy' : bits .and .u8 0 127 = (y : Int) := by have := hy; rw [h0] at this; exact this
            by_cases hk0 : 0 < k
            · have hk0' : ((k : Int) == 0) = false := by simp; omega
              go_wp2_with fail
              go_quiet (fail)
              go_wp2_with fail
              go_quiet (fail)
              go_wp2
              go_ret2
              refine ⟨⟨q, false, a + k + 1, rfl, HQ.out, HST.out _ _ (HR.out.below (drawn_below _ _)) (by push_cast; rfl), (fun h => by cases h), (fun _ => HRW.out.trans (rawAt_none (Or.inr ⟨h0, hk0⟩)))⟩, gtrans HG.out (gtrans (gbelow (drawn_below _ _)) (set_grown _ _ _ _))⟩
            · have hk0' : ((k : Int) == 0) = true := by simp; omega
              have HK : Hid (k = 0) := by show _ = _; omega
              clear hk0
              go_wp2_with fail
              go_quiet (fail)
              go_wp2_with fail
              go_quiet (fail)
              go_wp2
              go_ret2
              refine ⟨⟨q, true, a + k + 1, rfl, HQ.out, HST.out _ _ (HR.out.below (drawn_below _ _)) (by push_cast; rfl), (fun _ => ⟨?_, by omega⟩), (fun h => by cases h)⟩, gtrans HG.out (gtrans (gbelow (drawn_below _ _)) (set_grown _ _ _ _))⟩
              rw [HRW.out, rawAt_last (by omega) (by omega) (fun _ => HK.out), HE.out]
              congr 2
              omega
          · have hx2 : (0 : Int) < ((x.toNat : Nat) : Int) := by omega
            go_wp2_with fail
            go_quiet (fail)
            go_wp2_with fail
            go_quiet (fail)
            go_wp2
            go_ret2
            refine ⟨⟨q, true, a + k + 1, rfl, HQ.out, HST.out _ _ (HR.out.below (drawn_below _ _)) (by push_cast; rfl), (fun _ => ⟨?_, by omega⟩), (fun h => by cases h)⟩, gtrans HG.out (gtrans (gbelow (drawn_below _ _)) (set_grown _ _ _ _))⟩
            rw [HRW.out, rawAt_last (by omega) (by omega) (by omega), HE.out]
            congr 2
            omega
      · have h128' : 128 ≤ ((x.toNat : Nat) : Int) := by omega
        have h9 : ¬ k = 9 := by omega
        have h9' : ¬ ((k : Int) = 9) := by omega
        go_wp2_with fail
        go_quiet (fail)
        go_wp2_with fail
        go_quiet (fail)
        go_wp2
        go_roundw
        case rel => exact ⟨k + 1, q, by omega, by omega, by rw [HE.out]; exact acc_lt HAC.out (by omega), by go_num, rfl, by rw [HRW.out, rawAt_more h9 (by omega), HE.out], HR.out.below (drawn_below _ _), gtrans HG.out (gbelow (drawn_below _ _))⟩
        case measure => simp [intOf]; omega
    · have hd2 : decide ((a : Int) + (k : Int) < (n : Int)) = false := by simp; omega
      have HRW : Hid _ := hr
      clear hr ha
      go_wp2_with fail
      go_quiet (fail)
      go_wp2
      go_ret2
      refine ⟨⟨0, false, a, rfl, by decide, HR.out.below (drawn_below _ _), (fun h => by cases h), (fun _ => ?_)⟩, gtrans HG.out (gbelow (drawn_below _ _))⟩
      rw [HRW.out, List.drop_of_length_le (by have := HN.out; omega)]; rfl
end Go.Proofs.Ytnkfabonggofgaa

namespace Go.Proofs.Ytnkfabonggofgaa
open Go.RowKit Go.Lib
set_option linter.unusedVariables false

theorem and_one (x : Nat) (h : x < C.lim) : bits .and .u64 (x : Int) 1 = ((x % 2 : Nat) : Int) := by
  have := u64_and_nat x 1 h (by omega)
  rw [Nat.and_one_is_mod] at this
  exact this
/-- What the document's Num tells, and where it stands then. -/
def RefNum (w' : World) (g : Nat) (p : Option Addr) (n c : Nat) (l : List UInt8) (a : Nat) (least most v : Int) : Prop :=
  (∃ a', Rr w' g p n c l a' false ∧ a ≤ a' ∧ C.fst (l.drop a) = (v, a' - a) ∧ a' - a ≠ 0 ∧ least ≤ v ∧ v ≤ most) ∨
  (v = 0 ∧ (∃ a', Rr w' g p n c l a' true) ∧ ((C.fst (l.drop a)).2 = 0 ∨ (C.fst (l.drop a)).1 < least ∨ most < (C.fst (l.drop a)).1))
theorem RefNum.good {w' : World} {g : Nat} {p : Option Addr} {n c : Nat} {l : List UInt8} {a a' x : Nat} {least most v : Int} (h : Rr w' g p n c l a' false) (hr : C.raw (l.drop a) = some (x, a' - a) ∧ a ≤ a') (hv : v = C.unzig x) (h1 : least ≤ v) (h2 : v ≤ most) : RefNum w' g p n c l a least most v := by
  refine Or.inl ⟨a', h, hr.2, ?_, ?_, h1, h2⟩
  · rw [fst_some hr.1, hv]
  · have := C.raw_lt hr.1; omega
theorem RefNum.none {w' : World} {g : Nat} {p : Option Addr} {n c : Nat} {l : List UInt8} {a a' : Nat} {least most : Int} (h : Rr w' g p n c l a' true) (hr : C.raw (l.drop a) = none) : RefNum w' g p n c l a least most 0 := by
  refine Or.inr ⟨rfl, ⟨a', h⟩, Or.inl ?_⟩
  rw [fst_none hr]
theorem RefNum.out {w' : World} {g : Nat} {p : Option Addr} {n c : Nat} {l : List UInt8} {a a' x : Nat} {least most v : Int} {b : Nat} (h : Rr w' g p n c l a' true) (hr : C.raw (l.drop a) = some (x, b)) (hv : v = C.unzig x) (h1 : v < least ∨ most < v) : RefNum w' g p n c l a least most 0 := by
  refine Or.inr ⟨rfl, ⟨a', h⟩, Or.inr ?_⟩
  rw [fst_some hr, ← hv]; exact h1
theorem unzig_even {x : Nat} (h : x % 2 = 0) : (x : Int) / 2 = C.unzig x := by unfold C.unzig; rw [if_pos h]; omega
theorem unzig_odd {x : Nat} (h : x % 2 = 1) : -1 - (x : Int) / 2 = C.unzig x := by unfold C.unzig; rw [if_neg (by omega)]; omega
set_option maxRecDepth 100000 in
set_option maxHeartbeats 8000000 in
theorem refrnum_walk (w : World) (g : Nat) (p : Option Addr) (n c : Nat) (l : List UInt8) (a : Nat) (least most : Int) (h : Rr w g p n c l a false) (hl : l.length ≤ 100000) :
    Calls Try.prog 29 #[.pointer (some ⟨g, 0, none⟩), .int .i64 least, .int .i64 most] w fun e w' => (∃ v, e = .returned (.int .i64 v) ∧ RefNum w' g p n c l a least most v) ∧ w.grownBy w' (some g) := by
  have h2 := h.c2
  have H : Hid _ := h
  clear h
  go_enter Try.func29, Try.ntmps29
  go_wp2_with fail
  refine (raw_any w g p n c l a false H.out hl).mono ?_
  rintro e w1 ⟨⟨x, ok, a', rfl, hx, hr1, hok, hno⟩, hg1⟩
  have h2 := hr1.c2
  have f2 := hr1.fz 2
  have HR1 : Hid _ := hr1
  have hand := and_one x hx
  have HOK : Hid _ := hok
  have HNO : Hid _ := hno
  have hx' : x < 18446744073709551616 := hx
  clear hx hr1 hok hno
  cases ok with
  | false =>
    clear hx' hand
    by_cases h1 : (bits .and .u64 (x : Int) 1 == 1) = true
    all_goals
      go_wp2
      go_ret
      exact ⟨⟨0, rfl, RefNum.none HR1.out.spoilt (HNO.out (by trivial))⟩, gtrans hg1 (set_grown _ _ _ _)⟩
  | true =>
    rcases Nat.mod_two_eq_zero_or_one x with hm | hm
    · rw [hm] at hand
      have HM : Hid (x % 2 = 0) := hm
      have hodd : (bits .and .u64 (x : Int) 1 == 1) = false := by rw [hand]; decide
      clear hand hm
      by_cases hva : (x : Int) / 2 < least
      · go_wp2
        go_ret
        exact ⟨⟨0, rfl, RefNum.out HR1.out.spoilt (HOK.out (by trivial)).1 (unzig_even HM.out) (Or.inl hva)⟩, gtrans hg1 (set_grown _ _ _ _)⟩
      by_cases hvb : most < (x : Int) / 2
      · go_wp2
        go_ret
        exact ⟨⟨0, rfl, RefNum.out HR1.out.spoilt (HOK.out (by trivial)).1 (unzig_even HM.out) (Or.inr hvb)⟩, gtrans hg1 (set_grown _ _ _ _)⟩
      go_wp2
      go_ret
      exact ⟨⟨_, rfl, RefNum.good HR1.out (HOK.out (by trivial)) (unzig_even HM.out) (by omega) (by omega)⟩, hg1⟩
    · rw [hm] at hand
      have HM : Hid (x % 2 = 1) := hm
      have hodd : (bits .and .u64 (x : Int) 1 == 1) = true := by rw [hand]; decide
      clear hand hm
      by_cases hva : -1 - (x : Int) / 2 < least
      · go_wp2
        go_ret
        exact ⟨⟨0, rfl, RefNum.out HR1.out.spoilt (HOK.out (by trivial)).1 (unzig_odd HM.out) (Or.inl hva)⟩, gtrans hg1 (set_grown _ _ _ _)⟩
      by_cases hvb : most < -1 - (x : Int) / 2
      · go_wp2
        go_ret
        exact ⟨⟨0, rfl, RefNum.out HR1.out.spoilt (HOK.out (by trivial)).1 (unzig_odd HM.out) (Or.inr hvb)⟩, gtrans hg1 (set_grown _ _ _ _)⟩
      go_wp2
      go_ret
      exact ⟨⟨_, rfl, RefNum.good HR1.out (HOK.out (by trivial)) (unzig_odd HM.out) (by omega) (by omega)⟩, hg1⟩
end Go.Proofs.Ytnkfabonggofgaa

namespace Go.Proofs.Ytnkfabonggofgaa
open Go.RowKit Go.Lib
set_option linter.unusedVariables false

/-- The document's reader at block g: none: it is bad. -/
def Rs (w : World) (g : Nat) (p : Option Addr) (n c : Nat) (l : List UInt8) (s : Option (List UInt8)) : Prop := ∃ a, Rr w g p n c l a s.isNone ∧ ∀ r, s = some r → r = l.drop a
section
variable {w w' : World} {g k : Nat} {p : Option Addr} {n c : Nat} {l : List UInt8} {s : Option (List UInt8)}
theorem Rs.nb (h : Rs w g p n c l s) : NB w g := by obtain ⟨a, h, _⟩ := h; exact h.nb
theorem Rs.lt (h : Rs w g p n c l s) : g < w.heap.size := by obtain ⟨a, h, _⟩ := h; exact h.lt
theorem Rs.kept (h : Rs w g p n c l s) (hg : w.grownBy w' (some k)) (hn : NB w k) (hne : g ≠ k) : Rs w' g p n c l s := by obtain ⟨a, h, h'⟩ := h; exact ⟨a, h.kept hg hn hne, h'⟩
theorem Rs.below (h : Rs w g p n c l s) (hb : Below w.heap.size w w') : Rs w' g p n c l s := by obtain ⟨a, h, h'⟩ := h; exact ⟨a, h.below hb, h'⟩
theorem Rs.len (h : Rs w g p n c l s) : (s.getD []).length ≤ l.length := by
  obtain ⟨a, h, h'⟩ := h
  cases s with
  | none => exact Nat.zero_le _
  | some r => rw [h' r rfl]; simp only [Option.getD_some, List.length_drop]; omega
end
theorem refrnum_any (w : World) (g : Nat) (p : Option Addr) (n c : Nat) (l : List UInt8) (s : Option (List UInt8)) (least most : Int) (h : Rs w g p n c l s) (hl : l.length ≤ 100000) :
    Calls Try.prog 29 #[.pointer (some ⟨g, 0, none⟩), .int .i64 least, .int .i64 most] w fun e w' => e = .returned (.int .i64 (C.rnum s least most).1) ∧ Rs w' g p n c l (C.rnum s least most).2 ∧ w.grownBy w' (some g) := by
  obtain ⟨a, h, hs⟩ := h
  cases s with
  | none =>
    have h2 : w.cell? ⟨g, 2, none⟩ = some (.bool true) := h.c2
    have H : Hid _ := h
    have HN : Hid (C.rnum none least most = (0, none)) := rfl
    clear h hs
    rw [HN.out]
    go_enter Try.func29, Try.ntmps29
    go_wp2
    go_ret
    exact ⟨rfl, ⟨a, H.out, fun r hr => by cases hr⟩, World.grownBy.refl _ _⟩
  | some r =>
    obtain rfl := hs r rfl
    refine (refrnum_walk w g p n c l a least most h hl).mono ?_
    rintro e w' ⟨⟨v, rfl, hv⟩, hg⟩
    rw [rnum_all]
    simp only [Option.getD_some]
    rcases hv with ⟨a', h1, h2, h3, h4, h5, h6⟩ | ⟨rfl, ⟨a', h1⟩, h2⟩
    · rw [h3, if_neg (by omega)]
      refine ⟨rfl, ⟨a', h1, fun r hr => ?_⟩, hg⟩
      simp only [Option.some.injEq] at hr
      rw [← hr, List.drop_drop]
      congr 1; omega
    · rw [if_pos h2]
      exact ⟨rfl, ⟨a', h1, fun r hr => by cases hr⟩, hg⟩
theorem refrnum_at (w : World) (g : Nat) (p : Option Addr) (n c : Nat) (l : List UInt8) (s s1 : Option (List UInt8)) (least most v : Int) (h : Rs w g p n c l s) (hl : l.length ≤ 100000) (hr : C.rnum s least most = (v, s1)) :
    Calls Try.prog 29 #[.pointer (some ⟨g, 0, none⟩), .int .i64 least, .int .i64 most] w fun e w' => e = .returned (.int .i64 v) ∧ Rs w' g p n c l s1 ∧ w.grownBy w' (some g) := by
  have := refrnum_any w g p n c l s least most h hl
  rw [hr] at this
  exact this
end Go.Proofs.Ytnkfabonggofgaa
