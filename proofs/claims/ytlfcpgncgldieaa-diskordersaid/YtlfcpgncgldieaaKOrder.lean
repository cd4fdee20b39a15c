/-
  DiskOrder: behind a fall a beginning of all writes is there.
-/
import Derived.Test.YtlfcpgncgldieaaWLaw
import Derived.Test.YtlfcpgncgldieaaBActs
import Derived.Laws.Bits128
import Derived.BigRegion
namespace Go.Proofs.Ytlfcpgncgldieaa
namespace C
theorem crash_append (keep torn : Int) : ∀ (a : List Wr) (n : Nat) (b : List Wr), crashL keep torn n (a ++ b) = crashL keep torn n a ++ crashL keep torn (n + (pend a).length) b
  | [], n, b => by simp [crashL, pend]
  | x :: a, n, b => by
    by_cases hs : x.safe = true
    · have e : pend (x :: a) = pend a := by simp [pend, hs]
      rw [List.cons_append, crashL, if_pos hs, crash_append keep torn a n b, crashL, if_pos hs, e, List.cons_append]
    · have e : pend (x :: a) = x :: pend a := by simp [pend, hs]
      rw [List.cons_append, crashL, if_neg hs, crash_append keep torn a (n + 1) b, crashL, if_neg hs, e, List.cons_append, List.length_cons]
      rw [show n + 1 + (pend a).length = n + ((pend a).length + 1) by omega]
/-- k acts are appended. -/
def orS (F : Nat → Nat) (B : Nat → List UInt8) : Nat → St
  | 0 => newS 65536
  | k + 1 => appS (orS F B k) (F k) (B k)
theorem orS_head (F : Nat → Nat) (B : Nat → List UInt8) : ∀ k, (orS F B k).room = 65536 ∧ (orS F B k).made = k ∧ (orS F B k).off = false ∧ (orS F B k).lives = 1
  | 0 => ⟨rfl, rfl, rfl, rfl⟩
  | k + 1 => by
    obtain ⟨h1, h2, h3, h4⟩ := orS_head F B k
    exact ⟨h1, by show (orS F B k).made + 1 = _; rw [h2], h3, h4⟩
theorem orS_used (F : Nat → Nat) (B : Nat → List UInt8) : ∀ k, (∀ j, j < k → (B j).length ≤ 200) → used (orS F B k).ws ≤ 200 * k
  | 0, _ => Nat.le_refl _
  | k + 1, h => by
    have := orS_used F B k (fun j hj => h j (by omega))
    have h2 := h k (by omega)
    show used ((orS F B k).ws ++ _) ≤ _
    rw [used_append]; simp only [used]; omega
theorem orS_pend (F : Nat → Nat) (B : Nat → List UInt8) : ∀ k, (pend (orS F B k).ws).length = k
  | 0 => rfl
  | k + 1 => by
    show (pend ((orS F B k).ws ++ _)).length = _
    have := orS_pend F B k
    unfold pend at this ⊢
    rw [List.filter_append, List.length_append, this]; rfl
/-- What is wanted of file f behind k acts. -/
def wantL (F : Nat → Nat) (B : Nat → List UInt8) (keep torn : Int) (f : Nat) : Nat → List UInt8
  | 0 => []
  | k + 1 => wantL F B keep torn f k ++ if F k = f then cutW keep torn k (B k) else []
theorem want_dat (F : Nat → Nat) (B : Nat → List UInt8) (keep torn : Int) (f : Nat) : ∀ k, dat (crashL keep torn 0 (orS F B k).ws) f = wantL F B keep torn f k
  | 0 => rfl
  | k + 1 => by
    show dat (crashL keep torn 0 ((orS F B k).ws ++ [⟨(orS F B k).made, F k, B k, false⟩])) f = _
    rw [crash_append, dat_append, want_dat F B keep torn f k, orS_pend, wantL, Nat.zero_add]
    congr 1
    rw [crashL, if_neg (by simp), crashL, dat, dat]
    by_cases h : F k = f
    · simp [h]
    · simp [h]
theorem orS_is (F : Nat → Nat) (B : Nat → List UInt8) (f : Nat) : ∀ k, (orS F B k).is f = false → ∀ j, j < k → F j ≠ f
  | 0, _, j, hj => by omega
  | k + 1, h, j, hj => by
    have h' : ((orS F B k).is f || f == F k) = false := h
    rw [Bool.or_eq_false_iff] at h'
    by_cases e : j = k
    · subst e
      exact fun e' => by have := h'.2; rw [e'] at this; simp at this
    · exact orS_is F B f k h'.1 j (by omega)
theorem want_none (F : Nat → Nat) (B : Nat → List UInt8) (keep torn : Int) (f : Nat) : ∀ k, (∀ j, j < k → F j ≠ f) → wantL F B keep torn f k = []
  | 0, _ => rfl
  | k + 1, h => by rw [wantL, want_none F B keep torn f k (fun j hj => h j (by omega)), if_neg (h k (by omega))]; rfl
theorem want_len (F : Nat → Nat) (B : Nat → List UInt8) (keep torn : Int) (f : Nat) : ∀ k, (∀ j, j < k → (B j).length ≤ 200) → (wantL F B keep torn f k).length ≤ 200 * k
  | 0, _ => Nat.le_refl _
  | k + 1, h => by
    have := want_len F B keep torn f k (fun j hj => h j (by omega))
    have h2 := h k (by omega)
    rw [wantL, List.length_append]
    split
    · have h3 := stay_le keep torn k (B k).length
      rw [cutW_length]; omega
    · simp; omega
end C
open Go.RowKit Go.Lib Go.Maps
open C (upd upd_same upd_other)
set_option linter.unusedVariables false

theorem i64_and3 (n : Int) : bits .and .i64 n 3 = n % 4 := by
  have h3 : (BitVec.ofInt 64 3).toNat = 2 ^ 2 - 1 := by decide
  have key : (BitVec.ofInt 64 n &&& BitVec.ofInt 64 3).toNat = (n % ((2 ^ 64 : Nat) : Int)).toNat % 2 ^ 2 := by
    rw [BitVec.toNat_and, BitVec.toNat_ofInt, h3, Nat.and_two_pow_sub_one_eq_mod]
  show IntKind.i64.wrap ((BitVec.ofInt 64 n &&& BitVec.ofInt 64 3).toNat : Nat) = n % 4
  rw [key, IntKind.wrap_i64]
  omega
def fOf (xs : List ActL) (k : Nat) : Nat := match xs[k]? with | some x => (x.f % 4).toNat | none => 0
def bOf (xs : List ActL) (k : Nat) : List UInt8 := match xs[k]? with | some x => x.b.l | none => []
theorem order_read {xs : List ActL} {keep torn : Int} {k f : Nat} (hf : f < 4) : readB (C.onS (C.crashS (C.orS (fOf xs) (bOf xs) k) keep torn)) (f : Int) = C.wantL (fOf xs) (bOf xs) keep torn f k := by
  have h1 : refE (C.onS (C.crashS (C.orS (fOf xs) (bOf xs) k) keep torn)) (f : Int) = 0 := by
    unfold refE
    rw [if_neg (by simp [C.onS]), if_neg (by omega)]
  unfold readB readE
  rw [if_pos h1, Int.toNat_natCast]
  cases hi : (C.orS (fOf xs) (bOf xs) k).is f with
  | true =>
    have h2 : (C.onS (C.crashS (C.orS (fOf xs) (bOf xs) k) keep torn)).is f = true := hi
    rw [if_pos h2, if_pos rfl]
    exact C.want_dat _ _ keep torn f k
  | false =>
    have h2 : (C.onS (C.crashS (C.orS (fOf xs) (bOf xs) k) keep torn)).is f = false := hi
    rw [h2, C.want_none _ _ keep torn f k (C.orS_is _ _ f k hi)]
    rfl
/-- Beside the disk the four texts that are wanted. -/
def OrA (w : World) (g ab : Nat) (s : C.St) (W : Nat → List UInt8) (wz : World) : Prop := ∃ S, Disk wz g S s ∧ (∀ b, S b → w.heap.size ≤ b) ∧ ¬ S ab ∧ w.heap.size ≤ ab ∧ Below w.heap.size w wz ∧
  wz.heap[ab]? = some (.cells #[.string ⟨(W 0).toArray⟩, .string ⟨(W 1).toArray⟩, .string ⟨(W 2).toArray⟩, .string ⟨(W 3).toArray⟩] 47)
theorem orA_start {w w6 : World} {g : Nat} {s : C.St} (h : DK w w6 g s) (W : Nat → List UInt8) (hW : ∀ f, W f = []) : OrA w g w6.heap.size s W (w6.alloc (.cells #[.string ⟨#[]⟩, .string ⟨#[]⟩, .string ⟨#[]⟩, .string ⟨#[]⟩] 47)) := by
  obtain ⟨S, h1, h2, h3⟩ := h
  refine ⟨S, h1.below (below_new _ _), h2, fun h => by have := h1.lt h; omega, h3.size, bt h3 (below_new _ _), ?_⟩
  rw [hW, hW, hW, hW]
  exact heap_alloc_new _ _
theorem orA_cell {w wz : World} {g ab : Nat} {s : C.St} {W : Nat → List UInt8} (h : OrA w g ab s W wz) {j : Nat} (hj : j < 4) : wz.cell? ⟨ab, j, none⟩ = some (.string ⟨(W j).toArray⟩) ∧ wz.frozen? ⟨ab, j, none⟩ = false := by
  obtain ⟨S, _, _, _, _, _, hb⟩ := h
  refine ⟨?_, blk_free hb j⟩
  rw [blk_cell hb j]
  rcases j with _ | _ | _ | _ | j
  · rfl
  · rfl
  · rfl
  · rfl
  · omega
theorem orA_store {w wz : World} {g ab : Nat} {s : C.St} {W W' : Nat → List UInt8} (h : OrA w g ab s W wz) {j : Nat} (hj : j < 4) (c : List UInt8) (hW : W' j = W j ++ c) (hO : ∀ f, f ≠ j → W' f = W f) (n : Nat) : OrA w g ab s W' ((wz.setCell ⟨ab, j, none⟩ (.string ⟨(W j ++ c).toArray⟩)).drewN n) := by
  obtain ⟨S, h1, h2, h3, h4, h5, hb⟩ := h
  refine ⟨S, ?_, h2, h3, h4, ?_, ?_⟩
  · exact (h1.turn (T := fun x => x = ab) (Turn.setCell (S := fun x => x = ab) (Turn.refl wz _) rfl _) (fun x hx e => h3 (by rw [← e]; exact hx))).below ⟨rfl, rfl, rfl, Nat.le_refl _, fun _ _ => rfl⟩
  · have := h5.setCell (p := ⟨ab, j, none⟩) h4 (.string ⟨(W j ++ c).toArray⟩)
    exact ⟨this.os, this.tape, this.output, this.size, this.block⟩
  · have := set_block (o := j) (v := .string ⟨(W j ++ c).toArray⟩) hb
    show (wz.setCell _ _).heap[ab]? = _
    rw [this]
    rcases j with _ | _ | _ | _ | j
    · rw [hW, hO 1 (by omega), hO 2 (by omega), hO 3 (by omega)]; rfl
    · rw [hW, hO 0 (by omega), hO 2 (by omega), hO 3 (by omega)]; rfl
    · rw [hW, hO 0 (by omega), hO 1 (by omega), hO 3 (by omega)]; rfl
    · rw [hW, hO 0 (by omega), hO 1 (by omega), hO 2 (by omega)]; rfl
    · omega
theorem orA_dk {w wz : World} {g ab : Nat} {s : C.St} {W : Nat → List UInt8} (h : OrA w g ab s W wz) : DK w wz g s := by
  obtain ⟨S, h1, h2, _, _, h5, _⟩ := h; exact ⟨S, h1, h2, h5⟩
theorem orA_below {w wz w' : World} {g ab : Nat} {s : C.St} {W : Nat → List UInt8} (h : OrA w g ab s W wz) (hb : Below wz.heap.size wz w') : OrA w g ab s W w' := by
  obtain ⟨S, h1, h2, h3, h4, h5, h6⟩ := h
  exact ⟨S, h1.below hb, h2, h3, h4, bt h5 hb, by rw [hb.block ab (Array.getElem?_eq_some_iff.1 h6).1]; exact h6⟩
theorem conv_drew {wr : World} {v u : Value} (h : (convert 28 9 v).run Try.prog (wr.drewN 1) = .ok u (wr.drewN 1)) : (convert 28 9 v).run Try.prog wr.drew = .ok u wr.drew := h
theorem ba_append (a b : List UInt8) : (⟨a.toArray⟩ ++ ⟨b.toArray⟩ : ByteArray) = ⟨(a ++ b).toArray⟩ := by
  apply ByteArray.ext; simp [ByteArray.data_append]
set_option maxRecDepth 100000 in
set_option maxHeartbeats 16000000 in
theorem order_any (q : Option Addr) (xs : List ActL) (qc : Nat) (keep : Int) (wk : (Lit.int .i64 keep).wf = true) (torn : Int) (wt : (Lit.int .i64 torn).wf = true) (w : World) (hP : AAt w q xs) (hA : ∀ x ∈ xs, x.ok w) (hcap : xs.length ≤ qc) (hcm : qc ≤ maxLen) :
    Calls Try.prog 5 #[.slice q xs.length qc, .int .i64 keep, .int .i64 torn] w fun e w' => e = .returned (.bool true) ∧ Below w.heap.size w w' := by
  have hk0 : -9223372036854775808 ≤ keep ∧ keep ≤ 9223372036854775807 := by
    have h1 : IntKind.i64.min = -9223372036854775808 := rfl
    have h2 : IntKind.i64.max = 9223372036854775807 := rfl
    simp only [Lit.wf, Bool.and_eq_true, decide_eq_true_eq] at wk
    omega
  have ht0 : -9223372036854775808 ≤ torn ∧ torn ≤ 9223372036854775807 := by
    have h1 : IntKind.i64.min = -9223372036854775808 := rfl
    have h2 : IntKind.i64.max = 9223372036854775807 := rfl
    simp only [Lit.wf, Bool.and_eq_true, decide_eq_true_eq] at wt
    omega
  have HP : Hid (AAt w q xs) := hP
  have HA : Hid (∀ x ∈ xs, x.ok w) := hA
  clear hP hA wk wt hcap hcm
  go_enter Try.func5, Try.ntmps5
  go_wp2_with fail
  refine (awake_any w).mono ?_
  rintro e w1 ⟨rfl, hb1⟩
  have HB1 : Hid (Below w.heap.size w w1) := hb1
  clear hb1
  by_cases h0 : 30 < xs.length
  · go_wp2
    go_ret
    exact ⟨rfl, HB1.out⟩
  go_wp2_with fail
  refine (dk_new 65536 w w1 HB1.out (by omega)).mono ?_
  rintro e w2 ⟨g, rfl, hd2, _⟩
  have HD2 : Hid (DK w w2 g (C.orS (fOf xs) (bOf xs) 0)) := hd2
  clear hd2 HB1
  go_wp2
  go_loopw [9, 10] (fun n i wr => ∃ k z : Nat, k ≤ xs.length ∧ z ≤ 200 * k ∧ n = .int .i64 z ∧ i = .int .i64 k ∧ (∀ j, j < k → (bOf xs j).length ≤ 200) ∧ DK w wr g (C.orS (fOf xs) (bOf xs) k)) (fun _ i _ => xs.length - (intOf i).toNat)
  case atStart => exact ⟨0, 0, Nat.zero_le _, Nat.zero_le _, rfl, rfl, (fun j hj => absurd hj (Nat.not_lt_zero _)), HD2.out⟩
  case round =>
    clear HD2
    obtain ⟨k, z, hk, hz, rfl, rfl, hle, hd⟩ := hrel
    have HLE : Hid (∀ j, j < k → (bOf xs j).length ≤ 200) := hle
    have HD : Hid (DK w wr g (C.orS (fOf xs) (bOf xs) k)) := hd
    have hused := C.orS_used (fOf xs) (bOf xs) k hle
    have hh := C.orS_head (fOf xs) (bOf xs) k
    clear hle hd
    by_cases hlt : k < xs.length
    · obtain ⟨x, hx⟩ : ∃ x, xs[k]? = some x := ⟨xs[k], by simp [hlt]⟩
      obtain ⟨b, o, rfl, hc⟩ := HP.out (by omega)
      have HC : Hid (∀ w5, Below w.heap.size w w5 → w5.cell? ⟨b, o + k * 6 + 1, none⟩ = some (.int .i64 x.f) ∧ w5.cell? ⟨b, o + k * 6 + 5, none⟩ = some x.b.v) := fun w5 hb5 => by
        have e1 := hc k x hx 1 (by omega)
        have e5 := hc k x hx 5 (by omega)
        refine ⟨?_, ?_⟩
        · rw [hb5.cell (p := ⟨b, o + k * 6 + 1, none⟩) (World.block_lt_of_cell? _ _ e1)]; exact e1
        · rw [hb5.cell (p := ⟨b, o + k * 6 + 5, none⟩) (World.block_lt_of_cell? _ _ e5)]; exact e5
      have hbx : bOf xs k = x.b.l := by unfold bOf; rw [hx]
      have hfx : fOf xs k = (x.f % 4).toNat := by unfold fOf; rw [hx]
      have HXO : Hid (x.b.ok w) := (HA.out x (List.mem_of_getElem? hx)).2.2.2.2.2.1
      obtain ⟨x1, x5⟩ := HC.out wr (DK.bel HD.out)
      obtain ⟨xo, xf, xn, xm, xb, ⟨xp, xl, xc⟩⟩ := x
      simp only [Part.v] at x5
      simp only at hbx hfx x1
      clear hc hx
      by_cases hbig : 200 < xl.length
      · have HBD : Hid (Below w.heap.size w wr) := DK.bel HD.out
        clear hused hh hbx hfx
        go_wp2
        go_ret
        exact ⟨rfl, HBD.out⟩
      · obtain ⟨j, hj⟩ : ∃ j, j = fOf xs k := ⟨_, rfl⟩
        have hand : bits .and .i64 xf 3 = (j : Int) := by rw [i64_and3, hj, hfx]; omega
        have hj4 : j < 4 := by rw [hj, hfx]; omega
        have HSS : Hid (C.appS (C.orS (fOf xs) (bOf xs) k) j xl = C.orS (fOf xs) (bOf xs) (k + 1)) := by show _ = C.appS _ _ _; rw [hbx, hj]
        have HAP : Hid (∀ w5, DK w w5 g (C.orS (fOf xs) (bOf xs) k) → Calls Try.prog 10 #[.pointer (some ⟨g, 0, none⟩), .int .i64 (j : Nat), .slice xp xl.length xc] w5 fun e w' => e = .returned (.int .i64 0) ∧ DK w w' g (C.appS (C.orS (fOf xs) (bOf xs) k) j xl)) := fun w5 hd5 =>
          dk_append w w5 g _ j xp xl.length xl xc hd5 rfl (Part.ok.below HXO.out (DK.bel hd5)) (by unfold refE; rw [hh.2.2.1, if_neg (by simp), if_neg (by omega)]) (by rw [hh.1]; omega) (by rw [hh.2.1]; omega)
        have HLE2 : Hid (∀ j, j < k + 1 → (bOf xs j).length ≤ 200) := fun j hj => by
          by_cases e : j = k
          · subst e; rw [hbx]; omega
          · exact HLE.out j (by omega)
        have HCC : Hid (∀ w5, Below w.heap.size w w5 → w5.cell? ⟨b, o + k * 6 + 1, none⟩ = some (.int .i64 xf) ∧ w5.cell? ⟨b, o + k * 6 + 5, none⟩ = some (.slice xp xl.length xc)) := fun w5 hb5 => HC.out w5 hb5
        have HBW : Hid (Below w.heap.size w wr) := DK.bel HD.out
        have HAP2 : Hid _ := HAP.out wr.drew (DK.below HD.out (Below.refl _ _).drew)
        have hxl : xl.length ≤ 200 := by omega
        have hki : (k : Int) < (xs.length : Int) := by omega
        clear hused hh hbx hfx hj HC HLE
        go_wp2
        go_region_held_law (fun w5 => w5.cell? ⟨b, o + k * 6 + 1, none⟩ = some (.int .i64 xf) ∧ w5.cell? ⟨b, o + k * 6 + 5, none⟩ = some (.slice xp xl.length xc))
          ((first | assumption | exact HCC.out _ HBW.out | (refine HCC.out _ ?_; first | assumption | exact Below.drew HBW.out)))
          ((go_at_call 10; refine Calls.mono HAP2.out ?_; rintro e w5 ⟨rfl, hd5⟩; have hb5 : Below w.heap.size w w5 := DK.bel hd5))
        have HD5 : Hid (DK w w5 g (C.orS (fOf xs) (bOf xs) (k + 1))) := by rw [← HSS.out]; exact hd5
        obtain ⟨y1, y5⟩ := HCC.out w5 hb5
        clear hd5 hb5 HAP HAP2 HSS HD HCC HBW x1 x5
        go_wp2
        go_roundw
        case rel => exact ⟨k + 1, z + xl.length, by omega, by omega, by go_num, by go_num, HLE2.out, HD5.out⟩
        case measure => simp [intOf]; omega
    · obtain rfl : k = xs.length := by omega
      have HCR : Hid _ := dk_crash w wr g _ keep torn HD.out (by rw [hh.2.1]; omega) hk0.1 hk0.2 ht0.1 ht0.2
      have HL1 : Hid ((C.crashS (C.orS (fOf xs) (bOf xs) xs.length) keep torn).lives ≤ 1000000) := by show (C.orS (fOf xs) (bOf xs) xs.length).lives ≤ _; rw [hh.2.2.2]; decide
      clear hused hh hz
      go_wp2_with fail
      refine Calls.mono HCR.out ?_
      rintro e w5 ⟨rfl, hd5⟩
      have HD5 : Hid _ := hd5
      clear hd5 HCR HD
      go_wp2_with fail
      refine (dk_on w w5 g _ HD5.out HL1.out).mono ?_
      rintro e w6 ⟨rfl, hd6⟩
      have HD6 : Hid (DK w w6 g (C.onS (C.crashS (C.orS (fOf xs) (bOf xs) xs.length) keep torn))) := hd6
      clear hd6 HD5 HL1
      go_upto_region 18 with fail
      refine wp_world (OrA w g w6.heap.size (C.onS (C.crashS (C.orS (fOf xs) (bOf xs) xs.length) keep torn)) (fun f => C.wantL (fOf xs) (bOf xs) keep torn f 0)) (orA_start HD6.out _ (fun f => rfl)) ?_
      intro w7 ho7
      have HO7 : Hid _ := ho7
      clear ho7 HD6
      generalize w6.heap.size = ab at HO7 ⊢
      have HRD : Hid (∀ f : Nat, f < 4 → readB (C.onS (C.crashS (C.orS (fOf xs) (bOf xs) xs.length) keep torn)) (f : Int) = C.wantL (fOf xs) (bOf xs) keep torn f xs.length) := fun f hf => order_read hf
      generalize C.onS (C.crashS (C.orS (fOf xs) (bOf xs) xs.length) keep torn) = sF at HO7 HRD
      go_wp2
      go_loopw [12, 13] (fun i b13 wr => ∃ k : Nat, k ≤ xs.length ∧ i = .int .i64 k ∧ OrA w g ab sF (fun f => C.wantL (fOf xs) (bOf xs) keep torn f k) wr) (fun i _ _ => xs.length - (intOf i).toNat)
      case atStart => exact ⟨0, Nat.zero_le _, rfl, HO7.out⟩
      case round =>
        clear HO7
        obtain ⟨k, hk, rfl, ho⟩ := hrel
        have HO : Hid (OrA w g ab sF (fun f => C.wantL (fOf xs) (bOf xs) keep torn f k) wr) := ho
        have HBW : Hid (Below w.heap.size w wr) := DK.bel (orA_dk ho)
        clear ho
        by_cases hlt : k < xs.length
        · obtain ⟨x, hx⟩ : ∃ x, xs[k]? = some x := ⟨xs[k], by simp [hlt]⟩
          obtain ⟨b, o, rfl, hc⟩ := HP.out (by omega)
          have e1 := hc k x hx 1 (by omega)
          have e5 := hc k x hx 5 (by omega)
          have x1 : wr.cell? ⟨b, o + k * 6 + 1, none⟩ = some (.int .i64 x.f) := by
            rw [(HBW.out : Below _ _ _).cell (p := ⟨b, o + k * 6 + 1, none⟩) (World.block_lt_of_cell? _ _ e1)]; exact e1
          have x5 : wr.cell? ⟨b, o + k * 6 + 5, none⟩ = some x.b.v := by
            rw [(HBW.out : Below _ _ _).cell (p := ⟨b, o + k * 6 + 5, none⟩) (World.block_lt_of_cell? _ _ e5)]; exact e5
          have hbx : bOf xs k = x.b.l := by unfold bOf; rw [hx]
          have hfx : fOf xs k = (x.f % 4).toNat := by unfold fOf; rw [hx]
          have HXO : Hid (x.b.ok w) := (HA.out x (List.mem_of_getElem? hx)).2.2.2.2.2.1
          have HXC := (HA.out x (List.mem_of_getElem? hx)).2.2.2.2.2.2
          obtain ⟨xo, xf, xn, xm, xb, ⟨xp, xl, xc⟩⟩ := x
          simp only [Part.v] at x5
          simp only at hbx hfx x1 HXC
          have hxlc : xl.length ≤ xc := HXC.1
          have hxcm : xc ≤ 9223372036854775807 := Nat.le_trans HXC.2 (by decide)
          obtain ⟨j, hj⟩ : ∃ j, j = fOf xs k := ⟨_, rfl⟩
          have hand : bits .and .i64 xf 3 = (j : Int) := by rw [i64_and3, hj, hfx]; omega
          have hj4 : j < 4 := by rw [hj, hfx]; omega
          obtain ⟨ya, yf⟩ := orA_cell HO.out hj4
          have hbl : ∀ i, i < xs.length → (bOf xs i).length ≤ 200 := HLE.out
          have hxl : xl.length ≤ 200 := by rw [← hbx]; exact hbl k hlt
          have hdl : (C.wantL (fOf xs) (bOf xs) keep torn j k).length ≤ 6000 := by have := C.want_len (fOf xs) (bOf xs) keep torn j k (fun i hi => hbl i (by omega)); omega
          have HBX : Hid (bOf xs k = xl) := hbx
          have HFX : Hid (fOf xs k = j) := hj.symm
          have hki : (k : Int) < (xs.length : Int) := by omega
          have hji : (j : Int) < 4 := by omega
          clear hc hx e1 e5 hbx hfx hj HXC hbl HRD HLE
          have cases5 : (k : Int) < keep ∨ keep < k ∨ ((k : Int) = keep ∧ torn ≤ 0) ∨ ((k : Int) = keep ∧ 0 < torn ∧ torn < xl.length) ∨ ((k : Int) = keep ∧ 0 < torn ∧ (xl.length : Int) ≤ torn) := by omega
          rcases cases5 with hkk | hkk | hkk | hkk | hkk
          · skip
            have HCUT : Hid (C.cutW keep torn k xl = xl) := by
              show _ = _
              unfold C.cutW C.stay
              rw [if_pos hkk, List.take_length]
            skip
            have HIS : Hid (Is wr xp xl.length xc (xl)) := ⟨rfl, Part.ok.below HXO.out HBW.out⟩
            have HKV : Hid (∀ m, (convert 28 9 (.slice xp xl.length xc)).run Try.prog (wr.drewN m) = .ok (.string ⟨(xl).toArray⟩) (wr.drewN m)) := fun m => conv_is (w := wr.drewN m) ⟨HIS.out.1, HIS.out.2.1, HIS.out.2.2⟩
            have kv := conv_drew (HKV.out 1)
            have HST : Hid (∀ m, OrA w g ab sF (fun f => C.wantL (fOf xs) (bOf xs) keep torn f (k + 1)) ((wr.setCell ⟨ab, j, none⟩ (.string ⟨(C.wantL (fOf xs) (bOf xs) keep torn j k ++ xl).toArray⟩)).drewN m)) := fun m => orA_store HO.out hj4 _ (by show C.wantL _ _ _ _ _ (k + 1) = _; rw [C.wantL, HFX.out, if_pos rfl, HBX.out, HCUT.out]) (fun f hf => by show C.wantL _ _ _ _ _ (k + 1) = _; rw [C.wantL, HFX.out, if_neg (Ne.symm hf), List.append_nil]) m
            go_upto_region 27 with fail
            generalize C.wantL (fOf xs) (bOf xs) keep torn j k = D at ya hdl HST
            go_region
            all_goals
              go_wp2
              go_roundw
              case rel => exact ⟨k + 1, by omega, by go_num, by first | exact HST.out 1 | (rw [ba_append]; exact HST.out 1)⟩
              case measure => simp [intOf]; omega
          · skip
            have HCUT : Hid (C.cutW keep torn k xl = ([] : List UInt8)) := by
              show _ = _
              unfold C.cutW C.stay
              rw [if_neg (by omega), if_neg (by omega), List.take_zero]
            skip
            have HIS : Hid (Is wr none 0 0 (([] : List UInt8))) := Is.nil _
            have HKV : Hid (∀ m, (convert 28 9 (.slice none 0 0)).run Try.prog (wr.drewN m) = .ok (.string ⟨(([] : List UInt8)).toArray⟩) (wr.drewN m)) := fun m => conv_is (w := wr.drewN m) ⟨HIS.out.1, HIS.out.2.1, HIS.out.2.2⟩
            have kv := conv_drew (HKV.out 1)
            have HST : Hid (∀ m, OrA w g ab sF (fun f => C.wantL (fOf xs) (bOf xs) keep torn f (k + 1)) ((wr.setCell ⟨ab, j, none⟩ (.string ⟨(C.wantL (fOf xs) (bOf xs) keep torn j k ++ ([] : List UInt8)).toArray⟩)).drewN m)) := fun m => orA_store HO.out hj4 _ (by show C.wantL _ _ _ _ _ (k + 1) = _; rw [C.wantL, HFX.out, if_pos rfl, HBX.out, HCUT.out]) (fun f hf => by show C.wantL _ _ _ _ _ (k + 1) = _; rw [C.wantL, HFX.out, if_neg (Ne.symm hf), List.append_nil]) m
            go_upto_region 27 with fail
            generalize C.wantL (fOf xs) (bOf xs) keep torn j k = D at ya hdl HST
            go_region
            all_goals
              go_wp2
              go_roundw
              case rel => exact ⟨k + 1, by omega, by go_num, by first | exact HST.out 1 | (rw [ba_append]; exact HST.out 1)⟩
              case measure => simp [intOf]; omega
          · obtain ⟨hke, htn⟩ := hkk
            skip
            have HCUT : Hid (C.cutW keep torn k xl = ([] : List UInt8)) := by
              show _ = _
              unfold C.cutW C.stay
              rw [if_neg (by omega), if_pos (by omega), show torn.toNat = 0 by omega, Nat.zero_min, List.take_zero]
            skip
            have HIS : Hid (Is wr none 0 0 (([] : List UInt8))) := Is.nil _
            have HKV : Hid (∀ m, (convert 28 9 (.slice none 0 0)).run Try.prog (wr.drewN m) = .ok (.string ⟨(([] : List UInt8)).toArray⟩) (wr.drewN m)) := fun m => conv_is (w := wr.drewN m) ⟨HIS.out.1, HIS.out.2.1, HIS.out.2.2⟩
            have kv := conv_drew (HKV.out 1)
            have HST : Hid (∀ m, OrA w g ab sF (fun f => C.wantL (fOf xs) (bOf xs) keep torn f (k + 1)) ((wr.setCell ⟨ab, j, none⟩ (.string ⟨(C.wantL (fOf xs) (bOf xs) keep torn j k ++ ([] : List UInt8)).toArray⟩)).drewN m)) := fun m => orA_store HO.out hj4 _ (by show C.wantL _ _ _ _ _ (k + 1) = _; rw [C.wantL, HFX.out, if_pos rfl, HBX.out, HCUT.out]) (fun f hf => by show C.wantL _ _ _ _ _ (k + 1) = _; rw [C.wantL, HFX.out, if_neg (Ne.symm hf), List.append_nil]) m
            have hge : keep ≤ (k : Int) := by omega
            have hng : decide (keep < (k : Int)) = false := by simp; omega
            clear hke
            go_upto_region 27 with fail
            generalize C.wantL (fOf xs) (bOf xs) keep torn j k = D at ya hdl HST
            go_region
            all_goals
              go_wp2
              go_roundw
              case rel => exact ⟨k + 1, by omega, by go_num, by first | exact HST.out 1 | (rw [ba_append]; exact HST.out 1)⟩
              case measure => simp [intOf]; omega
          · obtain ⟨hke, htn, htl⟩ := hkk
            skip
            obtain ⟨pb, po, hpe, _⟩ := (HXO.out : Part.ok _ _).2 (show 0 < xl.length by omega)
            simp only at hpe
            subst hpe
            have htc : torn ≤ (xc : Int) := by omega
            have HCUT : Hid (C.cutW keep torn k xl = xl.take torn.toNat) := by
              show _ = _
              unfold C.cutW C.stay
              rw [if_neg (by omega), if_pos (by omega), Nat.min_eq_left (by omega)]
            skip
            have HIS : Hid (Is wr (some ⟨pb, po, none⟩) torn.toNat xc (xl.take torn.toNat)) := ⟨by rw [List.length_take]; omega, Part.ok.take (Part.ok.below HXO.out HBW.out) torn.toNat⟩
            have HKV : Hid (∀ m, (convert 28 9 (.slice (some ⟨pb, po, none⟩) torn.toNat xc)).run Try.prog (wr.drewN m) = .ok (.string ⟨(xl.take torn.toNat).toArray⟩) (wr.drewN m)) := fun m => conv_is (w := wr.drewN m) ⟨HIS.out.1, HIS.out.2.1, HIS.out.2.2⟩
            have kv := conv_drew (HKV.out 1)
            have HST : Hid (∀ m, OrA w g ab sF (fun f => C.wantL (fOf xs) (bOf xs) keep torn f (k + 1)) ((wr.setCell ⟨ab, j, none⟩ (.string ⟨(C.wantL (fOf xs) (bOf xs) keep torn j k ++ xl.take torn.toNat).toArray⟩)).drewN m)) := fun m => orA_store HO.out hj4 _ (by show C.wantL _ _ _ _ _ (k + 1) = _; rw [C.wantL, HFX.out, if_pos rfl, HBX.out, HCUT.out]) (fun f hf => by show C.wantL _ _ _ _ _ (k + 1) = _; rw [C.wantL, HFX.out, if_neg (Ne.symm hf), List.append_nil]) m
            have hge : keep ≤ (k : Int) := by omega
            have hng : decide (keep < (k : Int)) = false := by simp; omega
            have hnt : decide (torn ≤ 0) = false := by simp; omega
            clear hke
            go_upto_region 27 with fail
            generalize C.wantL (fOf xs) (bOf xs) keep torn j k = D at ya hdl HST
            go_region
            all_goals
              go_wp2
              go_roundw
              case rel => exact ⟨k + 1, by omega, by go_num, by first | exact HST.out 1 | (rw [ba_append]; exact HST.out 1)⟩
              case measure => simp [intOf]; omega
          · obtain ⟨hke, htn, htl⟩ := hkk
            skip
            have HCUT : Hid (C.cutW keep torn k xl = xl) := by
              show _ = _
              unfold C.cutW C.stay
              rw [if_neg (by omega), if_pos (by omega), Nat.min_eq_right (by omega), List.take_length]
            skip
            have HIS : Hid (Is wr xp xl.length xc (xl)) := ⟨rfl, Part.ok.below HXO.out HBW.out⟩
            have HKV : Hid (∀ m, (convert 28 9 (.slice xp xl.length xc)).run Try.prog (wr.drewN m) = .ok (.string ⟨(xl).toArray⟩) (wr.drewN m)) := fun m => conv_is (w := wr.drewN m) ⟨HIS.out.1, HIS.out.2.1, HIS.out.2.2⟩
            have kv := conv_drew (HKV.out 1)
            have HST : Hid (∀ m, OrA w g ab sF (fun f => C.wantL (fOf xs) (bOf xs) keep torn f (k + 1)) ((wr.setCell ⟨ab, j, none⟩ (.string ⟨(C.wantL (fOf xs) (bOf xs) keep torn j k ++ xl).toArray⟩)).drewN m)) := fun m => orA_store HO.out hj4 _ (by show C.wantL _ _ _ _ _ (k + 1) = _; rw [C.wantL, HFX.out, if_pos rfl, HBX.out, HCUT.out]) (fun f hf => by show C.wantL _ _ _ _ _ (k + 1) = _; rw [C.wantL, HFX.out, if_neg (Ne.symm hf), List.append_nil]) m
            have hge : keep ≤ (k : Int) := by omega
            have hng : decide (keep < (k : Int)) = false := by simp; omega
            have hnt : decide (torn ≤ 0) = false := by simp; omega
            clear hke
            go_upto_region 27 with fail
            generalize C.wantL (fOf xs) (bOf xs) keep torn j k = D at ya hdl HST
            go_region
            all_goals
              go_wp2
              go_roundw
              case rel => exact ⟨k + 1, by omega, by go_num, by first | exact HST.out 1 | (rw [ba_append]; exact HST.out 1)⟩
              case measure => simp [intOf]; omega
        · obtain rfl : k = xs.length := by omega
          go_wp2
          go_loopw [14] (fun i wr => ∃ f : Nat, f ≤ 4 ∧ i = .int .i64 f ∧ OrA w g ab sF (fun f => C.wantL (fOf xs) (bOf xs) keep torn f xs.length) wr) (fun i _ => 4 - (intOf i).toNat)
          case atStart => exact ⟨0, Nat.zero_le _, rfl, HO.out⟩
          case round =>
            clear HO HBW
            obtain ⟨f, hf, rfl, ho⟩ := hrel
            have HO : Hid (OrA w g ab sF (fun f => C.wantL (fOf xs) (bOf xs) keep torn f xs.length) _) := ho
            clear ho
            by_cases hf4 : f < 4
            · have HRR : Hid _ := HRD.out f hf4
              go_wp2_with fail
              refine (dk_read w _ g sF f _ _ (orA_dk HO.out) rfl HRR.out).mono ?_
              rintro e w8 ⟨⟨p8, n8, c8, rfl, hi8⟩, hd8, hb8⟩
              have ho8 := orA_below HO.out hb8
              obtain ⟨ya, _⟩ := orA_cell ho8 hf4
              have HO8 : Hid _ := ho8
              have k8 : ∀ m, (convert 28 9 (.slice p8 n8 c8)).run Try.prog (w8.drewN m) = .ok (.string ⟨(C.wantL (fOf xs) (bOf xs) keep torn f xs.length).toArray⟩) (w8.drewN m) := fun m => conv_is (w := w8.drewN m) ⟨hi8.1, hi8.2.1, hi8.2.2⟩
              generalize hD : C.wantL (fOf xs) (bOf xs) keep torn f xs.length = D at ya k8
              have g5 : (D == D) = true := beq_self_eq_true D
              have hfi : (f : Int) < 4 := by omega
              generalize readE sF (f : Int) = er
              clear hD hi8 hd8 hb8 ho8 HO HRR
              go_wp2
              go_quiet (fail)
              go_wp2
              go_roundw
              case rel => exact ⟨f + 1, by omega, by go_num, orA_below HO8.out ⟨rfl, rfl, rfl, Nat.le_refl _, fun _ _ => rfl⟩⟩
              case measure => simp [intOf]; omega
            · have HB : Hid (Below w.heap.size w _) := DK.bel (orA_dk HO.out)
              go_wp2
              go_ret
              exact ⟨rfl, HB.out⟩
end Go.Proofs.Ytlfcpgncgldieaa
