/-
  rostrumref1.Same: are two rows of rows of bytes alike?
-/
import Derived.Test.YtjnlkgamnabhjaaDoorWRScan
namespace Go.Proofs.YtjnlkgamnabhjaaDoor
open Go.RowKit Go.Lib
set_option linter.unusedVariables false

theorem conv_at {w : World} {p : Option Addr} {l : List UInt8} {n c : Nat} (hx : (Part.mk p l c).ok w) (hn : n = l.length) : (convert 23 9 (.slice p n c)).run Tryd.prog w = .ok (.string ⟨l.toArray⟩) w := by
  subst hn; exact conv_str hx
set_option maxHeartbeats 4000000 in
theorem same_any (va vb : Value) (A B : List (List UInt8)) (w : World) (hA : Rows w va A) (hB : Rows w vb B) :
    Calls Tryd.prog 15 #[va, vb] w fun e w' => e = .returned (.bool (decide (A = B))) ∧ Below w.heap.size w w' := by
  obtain ⟨p, ps, cap, rfl, hp, hps, hpl, hpc, hpm⟩ := hA
  obtain ⟨q, qs, caq, rfl, hq, hqs, hql, hqc, hqm⟩ := hB
  have HA : Hid (ps.map Part.l = A) := hpl
  have HB : Hid (qs.map Part.l = B) := hql
  have HPS : Hid (∀ x ∈ ps, x.ok w) := hps
  have HQS : Hid (∀ x ∈ qs, x.ok w) := hqs
  have HP : Hid (PAt w p ps) := hp
  have HQ : Hid (PAt w q qs) := hq
  have h1 : ps.length ≤ 9223372036854775807 := Nat.le_trans hpc (Nat.le_trans hpm (by decide))
  have h2 : qs.length ≤ 9223372036854775807 := Nat.le_trans hqc (Nat.le_trans hqm (by decide))
  clear hp hps hq hqs hpl hql hpc hpm hqc hqm
  go_enter Tryd.func15, Tryd.ntmps15
  by_cases hne : ps.length = qs.length
  · have hne' : (ps.length : Int) = qs.length := by omega
    go_wp2
    go_loopw [5] (fun i wr => ∃ k : Nat, k ≤ ps.length ∧ i = .int .i64 k ∧ Below w.heap.size w wr ∧ A.take k = B.take k) (fun i _ => ps.length - (intOf i).toNat)
    case atStart => exact ⟨0, Nat.zero_le _, rfl, Below.refl _ _, by simp⟩
    case round =>
      obtain ⟨k, hk, rfl, hbw, htk⟩ := hrel
      have HBW : Hid (Below w.heap.size w wr) := hbw
      have HTK : Hid (A.take k = B.take k) := htk
      clear hbw htk
      by_cases hlt : k < ps.length
      · obtain ⟨b, o, rfl, hc⟩ := HP.out (by omega)
        obtain ⟨b', o', rfl, hc'⟩ := HQ.out (by omega)
        obtain ⟨x, hx⟩ : ∃ x, ps[k]? = some x := ⟨ps[k], by simp [hlt]⟩
        obtain ⟨y, hy⟩ : ∃ y, qs[k]? = some y := ⟨qs[k]'(by omega), by simp [show k < qs.length by omega]⟩
        have HCX : Hid (w.cell? ⟨b, o + k, none⟩ = some x.v) := hc k x hx
        have HCY : Hid (w.cell? ⟨b', o' + k, none⟩ = some y.v) := hc' k y hy
        have HOX : Hid (x.ok w) := HPS.out x (List.mem_of_getElem? hx)
        have HOY : Hid (y.ok w) := HQS.out y (List.mem_of_getElem? hy)
        have HAX : Hid (A[k]? = some x.l) := by show _ = _; rw [← HA.out, List.getElem?_map, hx]; rfl
        have HBY : Hid (B[k]? = some y.l) := by show _ = _; rw [← HB.out, List.getElem?_map, hy]; rfl
        obtain ⟨xp, xl, xc⟩ := x
        obtain ⟨yp, yl, yc⟩ := y
        simp only [Part.v] at HCX HCY HAX HBY
        clear hc hc' hx hy
        have HSW : Hid (∀ w', Below w.heap.size w w' → w'.cell? ⟨b, o + k, none⟩ = some (.slice xp xl.length xc) ∧ w'.cell? ⟨b', o' + k, none⟩ = some (.slice yp yl.length yc) ∧
            (convert 23 9 (.slice xp xl.length xc)).run Tryd.prog w' = .ok (.string ⟨xl.toArray⟩) w' ∧ (convert 23 9 (.slice yp yl.length yc)).run Tryd.prog w' = .ok (.string ⟨yl.toArray⟩) w') := by
          intro w' hb
          refine ⟨?_, ?_, conv_str (HOX.out.below hb), conv_str (HOY.out.below hb)⟩
          · rw [hb.cell (p := ⟨b, o + k, none⟩) (World.block_lt_of_cell? _ _ HCX.out)]; exact HCX.out
          · rw [hb.cell (p := ⟨b', o' + k, none⟩) (World.block_lt_of_cell? _ _ HCY.out)]; exact HCY.out
        have hi1 : (k : Int) < ps.length := by omega
        have hi2 : (k : Int) < qs.length := by omega
        go_wp2
        go_region_held3 (fun w' => w'.cell? ⟨b, o + k, none⟩ = some (.slice xp xl.length xc) ∧ w'.cell? ⟨b', o' + k, none⟩ = some (.slice yp yl.length yc) ∧
            (convert 23 9 (.slice xp xl.length xc)).run Tryd.prog w' = .ok (.string ⟨xl.toArray⟩) w' ∧ (convert 23 9 (.slice yp yl.length yc)).run Tryd.prog w' = .ok (.string ⟨yl.toArray⟩) w')
          ((refine HSW.out _ ?_; repeat (first | exact HBW.out | refine Below.drew ?_))) (fail)
        by_cases he : xl = yl
        · have hb4 : (xl == yl) = true := by rw [he]; simp
          rw [hb4]
          have HE : Hid (xl = yl) := he
          clear he hb4
          go_wp2
          go_roundw
          case rel =>
            refine ⟨k + 1, by omega, by go_num, HBW.out.drew, ?_⟩
            rw [List.take_add_one, List.take_add_one, HTK.out, HAX.out, HBY.out, HE.out]
          case measure => simp [intOf]; omega
        · have hb4 : (xl == yl) = false := by rw [beq_eq_false_iff_ne]; exact he
          rw [hb4]
          have HE : Hid (¬ A = B) := by
            intro h
            have h1 := HAX.out
            rw [h, HBY.out] at h1
            exact he (Option.some.inj h1).symm
          clear he hb4
          go_wp2
          go_ret
          refine ⟨ret_bool (by rw [decide_eq_false HE.out]), HBW.out.drew⟩
      · have HE : Hid (A = B) := by
          have h1 := HTK.out
          rwa [List.take_of_length_le (by rw [← HA.out, List.length_map]; omega), List.take_of_length_le (by rw [← HB.out, List.length_map]; omega)] at h1
        go_wp2
        go_ret
        exact ⟨ret_bool (by rw [decide_eq_true HE.out]), HBW.out⟩
  · have hne' : ¬ (ps.length : Int) = qs.length := by omega
    have HE : Hid (¬ A = B) := by
      intro h
      apply hne
      rw [← HA.out, ← HB.out] at h
      have := congrArg List.length h
      simpa using this
    go_wp2
    go_ret
    exact ⟨ret_bool (by rw [decide_eq_false HE.out]), Below.refl _ _⟩
end Go.Proofs.YtjnlkgamnabhjaaDoor
