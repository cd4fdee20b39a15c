/-
  LastPlays: any texts written in any order, any bytes, are as the document says.
-/
import Derived.Test.YtebfhomopdnkkaaEObjs2
namespace Go.Proofs.Ytebfhomopdnkkaa
open Go.RowKit Go.Lib
set_option linter.unusedVariables false

set_option maxRecDepth 100000 in
set_option maxHeartbeats 0 in
theorem plays_walk (pa : Option Addr) (l : List C.La) (ca : Nat) (pe : Option Addr) (lb : List UInt8) (ce : Nat) (w : World) (ha : ArgL w pa l) (hxl : ∀ x ∈ l, x.x.size ≤ maxLen) (hla : l.length ≤ ca) (hca : ca ≤ maxLen) (hx : (Part.mk pe lb ce).ok w) (hlc3 : lb.length ≤ ce) (hcm3 : ce ≤ maxLen) (hat : 0 < ce → ∃ b o, pe = some ⟨b, o, none⟩) :
    Calls Try.prog 4 #[.slice pa l.length ca, .slice pe lb.length ce] w fun e w' => e = .returned (.bool true) ∧ Below w.heap.size w w' := by
  have HA : Hid (ArgL w pa l) := ha
  have HXL : Hid (∀ x ∈ l, x.x.size ≤ maxLen) := hxl
  obtain ⟨n, hn⟩ : ∃ n, n = l.length := ⟨_, rfl⟩
  have HN : Hid (n = l.length) := hn
  obtain ⟨v, hv⟩ : ∃ v, v = lb.length := ⟨_, rfl⟩
  have HX : Hid (Is w pe v ce lb) := ⟨hv, hx⟩
  have HCM : Hid (v ≤ ce ∧ ce ≤ maxLen ∧ (0 < ce → ∃ b o, pe = some ⟨b, o, none⟩)) := ⟨by omega, hcm3, hat⟩
  have HVL : Hid (v = lb.length) := hv
  have hvb : v ≤ 9223372036854775807 := by unfold maxLen at hcm3; omega
  have hnb : n ≤ 9223372036854775807 := by unfold maxLen at hca; omega
  rw [← hn] at hla ⊢
  rw [← hv]
  clear hn hv ha hxl hx hlc3 hcm3 hat hla hca
  go_enter Try.func4, Try.ntmps4
  go_wp2_with fail
  refine (awake11_any _).mono ?_
  rintro e w1 ⟨rfl, hb1⟩
  have HB1 : Hid (Below w.heap.size w w1) := hb1
  clear hb1
  by_cases h1 : (60 : Int) < n
  · have g1 : decide ((60 : Int) < n) = true := decide_eq_true h1
    go_wp2
    go_ret
    exact ⟨rfl, HB1.out⟩
  have g1 : decide ((60 : Int) < n) = false := decide_eq_false h1
  by_cases h2 : (200 : Int) < v
  · have g2 : decide ((200 : Int) < v) = true := decide_eq_true h2
    go_wp2
    go_ret
    exact ⟨rfl, HB1.out⟩
  have g2 : decide ((200 : Int) < v) = false := decide_eq_false h2
  have HLB : Hid (lb.length ≤ 200) := by have := HVL.out; show _ ≤ _; omega
  go_wp2_with fail
  clear g1 g2 h1 h2
  refine (e_new (Els.nil HB1.out)).mono ?_
  rintro e w2 ⟨gs, rfl, h2, -⟩
  have h3' := d_new h2
  go_wp2_with fail
  obtain ⟨gw, hgw⟩ : ∃ gw, w2.heap.size = gw := ⟨_, rfl⟩
  rw [hgw] at h3' ⊢
  generalize World.alloc w2 _ = W3 at h3' ⊢
  have H3 : Hid (Els w W3 [⟨gs, C.La.zero, false⟩, ⟨gw, C.La.zero, true⟩]) := h3'
  clear h2 h3' hgw
  go_loopw [7] (fun s7 wr => ∃ (k : Nat) (S : C.La), s7 = .int .i64 k ∧ k ≤ n ∧ Hid (Els w wr [⟨gs, S, false⟩, ⟨gw, S, true⟩])) (fun s7 _ => n - (RowKit.intOf s7).toNat)
  case atStart => exact ⟨0, _, rfl, Nat.zero_le _, H3.out⟩
  case round =>
    clear H3
    obtain ⟨k, S, rfl, hkn, HO⟩ := hrel
    by_cases hlt : k < n
    · obtain ⟨a, hak⟩ : ∃ a, l[k]? = some a := ⟨_, List.getElem?_eq_getElem (by have := HN.out; omega)⟩
      obtain ⟨b, oo, hpa, hat⟩ := HA.out.at hak
      subst hpa
      have HXS : Hid (a.x.size ≤ maxLen) := HXL.out a (List.mem_of_getElem? hak)
      have hlz : (k : Int) < (n : Int) := by omega
      obtain ⟨S', hS'⟩ : ∃ S', C.wrL S a = S' := ⟨_, rfl⟩
      obtain ⟨z, hz⟩ : ∃ z, C.didL S a = z := ⟨_, rfl⟩
      obtain ⟨er, her⟩ : ∃ er, C.errL S a = er := ⟨_, rfl⟩
      have HS' : Hid _ := hS'
      have HZ' : Hid _ := hz
      have HER : Hid _ := her
      have hat2 := hat.below HO.out.bel
      clear hak hat hS' hz her
      obtain ⟨x, t, r, m⟩ := a
      simp only at HXS
      obtain ⟨y0, y1, y2, y3⟩ := hat2.cells
      have hblk := World.block_lt_of_cell? _ _ y0
      simp only at hblk
      have a0 : ∀ ob, (wr.alloc ob).cell? ⟨b, oo + k * 4, none⟩ = some (.string x) := fun ob => ((below_new wr ob).cell (p := ⟨b, oo + k * 4, none⟩) hblk).trans y0
      clear hat2
      have hxm : x.size ≤ 9223372036854775807 := by have := HXS.out; unfold maxLen at this; omega
      have HQ : Hid _ := heap_alloc_new wr (.cells #[.string x, .int .i64 t, .int .i64 r, .int .i64 m] 45)
      have HBA : Hid _ := below_new wr (.cells #[.string x, .int .i64 t, .int .i64 r, .int .i64 m] 45)
      obtain ⟨q0, q1, q2, q3⟩ := (AtL.boxed (a := ⟨x, t, r, m⟩) HQ.out).cells
      simp only [Nat.zero_add] at q0 q1 q2 q3
      by_cases h3 : 150 < x.size
      · go_wp2
        go_ret
        exact ⟨rfl, bt HO.out.bel HBA.out⟩
      go_wp2_with fail
      obtain ⟨gb, hgb⟩ : ∃ gb, gb = wr.heap.size := ⟨_, rfl⟩
      have HGN : Hid (gb ≠ gs ∧ gb ≠ gw) := by
        have h1 := (HO.out.at_ ⟨gs, S, false⟩ (by simp)).1.lt
        have h2 := (HO.out.at_ ⟨gw, S, true⟩ (by simp)).1.lt
        simp only at h1 h2
        show _ ∧ _
        omega
      have HO2 : Hid (Els w (wr.alloc (.cells #[.string x, .int .i64 t, .int .i64 r, .int .i64 m] 45)) ([] ++ ⟨gs, S, false⟩ :: [⟨gw, S, true⟩])) := HO.out.below HBA.out
      rw [← hgb] at HQ q0 q1 q2 q3 ⊢
      clear y0 y1 y2 y3 a0 hblk h3 HBA HO
      generalize wr.alloc (.cells #[.string x, .int .i64 t, .int .i64 r, .int .i64 m] 45) = wq at *
      clear hgb
      refine (e_wr [] [⟨gw, S, true⟩] gs S S' x t r m z er HO2.out HXS.out HZ'.out HER.out HS'.out).mono ?_
      rintro e w5 ⟨rfl, h5, ht5⟩
      have H5 : Hid (Els w w5 ([⟨gs, S', false⟩] ++ ⟨gw, S, true⟩ :: [])) := h5
      have HQ5 : Hid _ := (ht5.block gb (Array.getElem?_eq_some_iff.1 HQ.out).1 HGN.out.1).trans HQ.out
      clear h5 ht5 q0 q1 q2 q3 HO2 HQ
      obtain ⟨q0, q1, q2, q3⟩ := (AtL.boxed (a := ⟨x, t, r, m⟩) HQ5.out).cells
      simp only [Nat.zero_add] at q0 q1 q2 q3
      go_wp2_with fail
      refine (d_wr [⟨gs, S', false⟩] [] gw S S' x t r m z er H5.out HXS.out HZ'.out HER.out HS'.out).mono ?_
      rintro e w6 ⟨rfl, h6, -⟩
      have H6 : Hid (Els w w6 ([] ++ ⟨gs, S', false⟩ :: [⟨gw, S', true⟩])) := h6
      clear h6 q0 q1 q2 q3 H5 HQ5
      obtain ⟨zl, hzl⟩ : ∃ zl, C.isL S' = zl := ⟨_, rfl⟩
      obtain ⟨lp, hlp⟩ : ∃ lp, lp = lb ++ C.putL S' := ⟨_, rfl⟩
      have HLP : Hid (lp = lb ++ C.putL S') := hlp
      have HZL : Hid _ := hzl
      clear hzl hlp HZ' HER HS'
      obtain ⟨y, u, q, p⟩ := S'
      go_wp2_with fail
      refine (e_value [] [⟨gw, ⟨y, u, q, p⟩, true⟩] gs ⟨y, u, q, p⟩ y zl H6.out rfl HZL.out).mono ?_
      rintro e w7 ⟨rfl, hb7⟩
      have H7 : Hid (Els w w7 ([] ++ ⟨gs, ⟨y, u, q, p⟩, false⟩ :: [⟨gw, ⟨y, u, q, p⟩, true⟩])) := H6.out.below hb7
      clear hb7 H6
      go_wp2_with fail
      refine (e_when [] [⟨gw, ⟨y, u, q, p⟩, true⟩] gs ⟨y, u, q, p⟩ H7.out).mono ?_
      rintro e w8 ⟨rfl, hb8⟩
      have H8 : Hid (Els w w8 ([] ++ ⟨gs, ⟨y, u, q, p⟩, false⟩ :: [⟨gw, ⟨y, u, q, p⟩, true⟩])) := H7.out.below hb8
      clear hb8 H7
      simp only
      go_wp2_with fail
      have hq9 := heap_alloc_new w8 (.cells #[.int .i64 q, .int .i64 p] 31)
      have HB9 : Hid (Below w8.heap.size w8 (w8.alloc (.cells #[.int .i64 q, .int .i64 p] 31))) := below_new _ _
      obtain ⟨gd, hgd⟩ : ∃ gd, gd = w8.heap.size := ⟨_, rfl⟩
      rw [← hgd] at hq9 ⊢
      generalize w8.alloc (.cells #[.int .i64 q, .int .i64 p] 31) = w9 at *
      have H9 : Hid (Els w w9 [⟨gs, ⟨y, u, q, p⟩, false⟩, ⟨gw, ⟨y, u, q, p⟩, true⟩]) := H8.out.below HB9.out
      obtain ⟨d0, d1⟩ := box2_all hq9
      obtain ⟨z0, z1, z2, z3, z4⟩ := cells5_all (H9.out.at_ ⟨gw, ⟨y, u, q, p⟩, true⟩ (by simp)).1 HZL.out
      have HP1 : Hid (∀ W, Below w9.heap.size w9 W → Calls Try.prog 15 #[.pointer (some ⟨gs, 0, none⟩), .slice pe v ce] W fun e w' => (∃ p n k, e = .returned (.slice p n k) ∧ Is w' p n k lp) ∧ Below W.heap.size W w') := fun W hW => e_put [] [⟨gw, ⟨y, u, q, p⟩, true⟩] gs ⟨y, u, q, p⟩ pe v ce lb lp (H9.out.below hW) (HX.out.below (bt H9.out.bel hW)) (Nat.le_trans HLB.out (by decide)) HLP.out
      have HP2 : Hid (∀ W, Below w9.heap.size w9 W → Calls Try.prog 18 #[.pointer (some ⟨gw, 0, none⟩), .slice pe v ce] W fun e w' => (∃ p n k, e = .returned (.slice p n k) ∧ Is w' p n k lp) ∧ Below W.heap.size W w') := fun W hW => d_put [⟨gs, ⟨y, u, q, p⟩, false⟩] [] gw ⟨y, u, q, p⟩ pe v ce lb lp (H9.out.below hW) (HX.out.below (bt H9.out.bel hW)) (Nat.le_trans HLB.out (by decide)) HLP.out
      have hll : (lp == lp) = true := beq_self_eq_true lp
      have j1 : (z != z) = false := bne_self_eq_false z
      have j2 : (er != er) = false := bne_self_eq_false er
      have j3 : (er == er) = true := beq_self_eq_true er
      have j4 : (zl != zl) = false := bne_self_eq_false zl
      have j5 : (u == u) = true := beq_self_eq_true u
      have j6 : (y.toList == y.toList) = true := beq_self_eq_true _
      have j7 : (z == z) = true := beq_self_eq_true z
      have j8 : (zl == zl) = true := beq_self_eq_true zl
      have j9 := fun W => eq_dot q p q p W
      simp only [BEq.rfl, Bool.and_self] at j9
      have hne : Nonempty (NewW w9) := ⟨NewW.start w9⟩
      clear hq9 hgd HB9 H8 HLP HZL
      have hC : ∃ m : NewW w9, w9.drew = m.v := ⟨⟨w9.drew, (Below.refl _ w9).drew⟩, rfl⟩
      refine wp_region_held_drew (S := fun w' => ∃ m : NewW w9, w' = m.v) (by kernel_rfl) hC (fun _ => ?_)
      have hB : Below w9.heap.size w9 w9.drew := (Below.refl _ w9).drew
      generalize w9.drew = W0 at *
      refine takeList (i := 0) rfl (by kernel_rfl) (by kernel_rfl) (by kernel_rfl) (fun _ _ _ _ h => h) rfl rfl hC (fun K hK => ?_)
      go_big_quiet_op
      refine hK _ ?_
      clear hK K
      refine takeList (i := 1) rfl (by kernel_rfl) (by kernel_rfl) (by kernel_rfl) (fun _ _ _ _ h => h) rfl rfl hC (fun K hK => ?_)
      go_big_quiet_op
      refine hK _ ?_
      clear hK K
      refine takeList (i := 2) rfl (by kernel_rfl) (by kernel_rfl) (by kernel_rfl) (fun _ _ _ _ h => h) rfl rfl hC (fun K hK => ?_)
      go_big_quiet_op
      refine hK _ ?_
      clear hK K
      refine takeList (i := 3) rfl (by kernel_rfl) (by kernel_rfl) (by kernel_rfl) (fun _ _ _ _ h => h) rfl rfl hC (fun K hK => ?_)
      go_big_quiet_op
      refine hK _ ?_
      clear hK K
      refine takeList (i := 4) rfl (by kernel_rfl) (by kernel_rfl) (by kernel_rfl) (fun _ _ _ _ h => h) rfl rfl hC (fun K hK => ?_)
      go_big_quiet_op
      refine hK _ ?_
      clear hK K
      refine takeList (i := 5) rfl (by kernel_rfl) (by kernel_rfl) (by kernel_rfl) (fun _ _ _ _ h => h) rfl rfl hC (fun K hK => ?_)
      go_big_quiet_op
      refine hK _ ?_
      clear hK K
      refine takeList (i := 6) rfl (by kernel_rfl) (by kernel_rfl) (by kernel_rfl) (fun _ _ _ _ h => h) rfl rfl hC (fun K hK => ?_)
      go_big_quiet_op
      refine hK _ ?_
      clear hK K
      refine takeList (i := 7) rfl (by kernel_rfl) (by kernel_rfl) (by kernel_rfl) (fun _ _ _ _ h => h) rfl rfl hC (fun K hK => ?_)
      go_big_quiet_op
      refine hK _ ?_
      clear hK K
      refine takeList (i := 8) rfl (by kernel_rfl) (by kernel_rfl) (by kernel_rfl) (fun _ _ _ _ h => h) rfl rfl hC (fun K hK => ?_)
      go_big_quiet_op
      refine hK _ ?_
      clear hK K
      refine takeList (i := 9) rfl (by kernel_rfl) (by kernel_rfl) (by kernel_rfl) (fun _ _ _ _ h => h) rfl rfl hC (fun K hK => ?_)
      go_big_quiet_op
      refine hK _ ?_
      clear hK K
      refine takeList (i := 10) rfl (by kernel_rfl) (by kernel_rfl) (by kernel_rfl) (fun _ _ _ _ h => h) rfl rfl hC (fun K hK => ?_)
      go_big_quiet_op
      refine hK _ ?_
      clear hK K
      refine takeNil (i := 11) rfl rfl rfl (by kernel_rfl) (by kernel_rfl) (by kernel_rfl) (fun _ _ _ _ h => h) rfl hC ?_
      go_simp
      refine takeList (i := 12) rfl (by kernel_rfl) (by kernel_rfl) (by kernel_rfl) (fun _ _ _ _ h => h) rfl rfl hC (fun K hK => ?_)
      go_big_quiet_op
      refine hK _ ?_
      clear hK K
      refine takeList (i := 13) rfl (by kernel_rfl) (by kernel_rfl) (by kernel_rfl) (fun _ _ _ _ h => h) rfl rfl hC (fun K hK => ?_)
      go_big_quiet_op
      refine hK _ ?_
      clear hK K
      refine takeList (i := 14) rfl (by kernel_rfl) (by kernel_rfl) (by kernel_rfl) (fun _ _ _ _ h => h) rfl rfl hC (fun K hK => ?_)
      go_big_quiet_op
      refine hK _ ?_
      clear hK K
      refine takeList (i := 15) rfl (by kernel_rfl) (by kernel_rfl) (by kernel_rfl) (fun _ _ _ _ h => h) rfl rfl hC (fun K hK => ?_)
      go_big_quiet_op
      refine hK _ ?_
      clear hK K
      refine takeList (i := 16) rfl (by kernel_rfl) (by kernel_rfl) (by kernel_rfl) (fun _ _ _ _ h => h) rfl rfl hC (fun K hK => ?_)
      go_big_quiet_op
      refine hK _ ?_
      clear hK K
      refine takeList (i := 17) rfl (by kernel_rfl) (by kernel_rfl) (by kernel_rfl) (fun _ _ _ _ h => h) rfl rfl hC (fun K hK => ?_)
      go_big_quiet_op
      refine hK _ ?_
      clear hK K
      refine takeList (i := 18) rfl (by kernel_rfl) (by kernel_rfl) (by kernel_rfl) (fun _ _ _ _ h => h) rfl rfl hC (fun K hK => ?_)
      go_big_quiet_op
      refine hK _ ?_
      clear hK K
      refine takeNil (i := 19) rfl rfl rfl (by kernel_rfl) (by kernel_rfl) (by kernel_rfl) (fun _ _ _ _ h => h) rfl hC ?_
      go_simp
      refine takeList (i := 20) rfl (by kernel_rfl) (by kernel_rfl) (by kernel_rfl) (fun _ _ _ _ h => h) rfl rfl hC (fun K hK => ?_)
      go_big_quiet_op
      refine hK _ ?_
      clear hK K
      refine takeList (i := 21) rfl (by kernel_rfl) (by kernel_rfl) (by kernel_rfl) (fun _ _ _ _ h => h) rfl rfl hC (fun K hK => ?_)
      go_big_quiet_op
      refine hK _ ?_
      clear hK K
      refine takeList (i := 22) rfl (by kernel_rfl) (by kernel_rfl) (by kernel_rfl) (fun _ _ _ _ h => h) rfl rfl hC (fun K hK => ?_)
      go_big_quiet_op
      refine hK _ ?_
      clear hK K
      refine takeList (i := 23) rfl (by kernel_rfl) (by kernel_rfl) (by kernel_rfl) (fun _ _ _ _ h => h) rfl rfl hC (fun K hK => ?_)
      go_big_quiet_op
      refine hK _ ?_
      clear hK K
      refine takeList (i := 24) rfl (by kernel_rfl) (by kernel_rfl) (by kernel_rfl) (fun _ _ _ _ h => h) rfl rfl hC (fun K hK => ?_)
      go_big_quiet_op
      refine hK _ ?_
      clear hK K
      refine takeList (i := 25) rfl (by kernel_rfl) (by kernel_rfl) (by kernel_rfl) (fun _ _ _ _ h => h) rfl rfl hC (fun K hK => ?_)
      go_big_quiet_op
      refine hK _ ?_
      clear hK K
      refine takeList (i := 26) rfl (by kernel_rfl) (by kernel_rfl) (by kernel_rfl) (fun _ _ _ _ h => h) rfl rfl hC (fun K hK => ?_)
      go_big_quiet_op
      refine hK _ ?_
      clear hK K
      refine takeNil (i := 27) rfl rfl rfl (by kernel_rfl) (by kernel_rfl) (by kernel_rfl) (fun _ _ _ _ h => h) rfl hC ?_
      go_simp
      refine takeList (i := 28) rfl (by kernel_rfl) (by kernel_rfl) (by kernel_rfl) (fun _ _ _ _ h => h) rfl rfl hC (fun K hK => ?_)
      go_big_quiet_op
      refine hK _ ?_
      clear hK K
      refine takeList (i := 29) rfl (by kernel_rfl) (by kernel_rfl) (by kernel_rfl) (fun _ _ _ _ h => h) rfl rfl hC (fun K hK => ?_)
      go_big_quiet_op
      refine hK _ ?_
      clear hK K
      refine takeList (i := 30) rfl (by kernel_rfl) (by kernel_rfl) (by kernel_rfl) (fun _ _ _ _ h => h) rfl rfl hC (fun K hK => ?_)
      go_big_quiet_op
      refine hK _ ?_
      clear hK K
      refine takeList (i := 31) rfl (by kernel_rfl) (by kernel_rfl) (by kernel_rfl) (fun _ _ _ _ h => h) rfl rfl hC (fun K hK => ?_)
      go_big_quiet_op
      refine hK _ ?_
      clear hK K
      refine takeList (i := 32) rfl (by kernel_rfl) (by kernel_rfl) (by kernel_rfl) (fun _ _ _ _ h => h) rfl rfl hC (fun K hK => ?_)
      go_big_quiet_op
      refine hK _ ?_
      clear hK K
      refine takeList (i := 33) rfl (by kernel_rfl) (by kernel_rfl) (by kernel_rfl) (fun _ _ _ _ h => h) rfl rfl hC (fun K hK => ?_)
      go_big_quiet_op
      refine hK _ ?_
      clear hK K
      refine takeList (i := 34) rfl (by kernel_rfl) (by kernel_rfl) (by kernel_rfl) (fun _ _ _ _ h => h) rfl rfl hC (fun K hK => ?_)
      go_big_quiet_op
      refine hK _ ?_
      clear hK K
      refine takeNil (i := 35) rfl rfl rfl (by kernel_rfl) (by kernel_rfl) (by kernel_rfl) (fun _ _ _ _ h => h) rfl hC ?_
      go_simp
      refine takeList (i := 36) rfl (by kernel_rfl) (by kernel_rfl) (by kernel_rfl) (fun _ _ _ _ h => h) rfl rfl hC (fun K hK => ?_)
      go_big_quiet_op
      refine hK _ ?_
      clear hK K
      refine takeList (i := 37) rfl (by kernel_rfl) (by kernel_rfl) (by kernel_rfl) (fun _ _ _ _ h => h) rfl rfl hC (fun K hK => ?_)
      go_big_quiet_op
      refine hK _ ?_
      clear hK K
      refine takeList (i := 38) rfl (by kernel_rfl) (by kernel_rfl) (by kernel_rfl) (fun _ _ _ _ h => h) rfl rfl hC (fun K hK => ?_)
      go_big_quiet_op
      refine hK _ ?_
      clear hK K
      refine takeList (i := 39) rfl (by kernel_rfl) (by kernel_rfl) (by kernel_rfl) (fun _ _ _ _ h => h) rfl rfl hC (fun K hK => ?_)
      go_big_quiet_op
      refine hK _ ?_
      clear hK K
      refine takeList (i := 40) rfl (by kernel_rfl) (by kernel_rfl) (by kernel_rfl) (fun _ _ _ _ h => h) rfl rfl hC (fun K hK => ?_)
      go_big_quiet_op
      refine hK _ ?_
      clear hK K
      refine takeList (i := 41) rfl (by kernel_rfl) (by kernel_rfl) (by kernel_rfl) (fun _ _ _ _ h => h) rfl rfl hC (fun K hK => ?_)
      go_big_quiet_op
      refine hK _ ?_
      clear hK K
      refine takeList (i := 42) rfl (by kernel_rfl) (by kernel_rfl) (by kernel_rfl) (fun _ _ _ _ h => h) rfl rfl hC (fun K hK => ?_)
      go_big_quiet_op
      refine hK _ ?_
      clear hK K
      refine takeList (i := 45) rfl (by kernel_rfl) (by kernel_rfl) (by kernel_rfl) (fun _ _ _ _ h => h) rfl rfl hC (fun K hK => ?_)
      go_big_quiet_op
      refine hK _ ?_
      clear hK K
      refine takeList (i := 46) rfl (by kernel_rfl) (by kernel_rfl) (by kernel_rfl) (fun _ _ _ _ h => h) rfl rfl hC (fun K hK => ?_)
      go_big_quiet_op
      refine hK _ ?_
      clear hK K
      refine callList (i := 43) rfl (by kernel_rfl) rfl (fun K hK => ?_)
      go_simp
      refine (HP1.out _ hB).mono ?_
      rintro e wc ⟨⟨p5, n5, c5, rfl, hi5⟩, hk⟩
      refine hK.out _ _ ⟨⟨_, bt hB hk⟩, rfl⟩ ?_
      try go_simp
      clear hK K hC hne
      refine wpAnyH_strengthen (S' := fun w' => ∃ m : NewW wc, w' = m.v) (fun w' ⟨m, hm⟩ => ⟨⟨m.v, bt (bt hB hk) m.h⟩, hm⟩) _ _ _ _ ?_
      have hne : Nonempty (NewW wc) := ⟨NewW.start wc⟩
      have k5 : ∀ m : NewW wc, (convert 32 9 (.slice p5 n5 c5)).run Try.prog m.v = .ok (.string ⟨lp.toArray⟩) m.v := fun m => conv_is (hi5.below m.h)
      have hC : ∃ m : NewW wc, wc = m.v := ⟨⟨_, Below.refl _ _⟩, rfl⟩
      refine takeList (i := 44) rfl (by kernel_rfl) (by kernel_rfl) (by kernel_rfl) (fun _ _ _ _ h => h) rfl rfl hC (fun K hK => ?_)
      go_big_quiet_op
      refine hK _ ?_
      clear hK K
      replace hB := bt hB hk
      clear hk
      have hBX := hB
      replace hB := Below.refl wc.heap.size wc
      refine callList (i := 47) rfl (by kernel_rfl) rfl (fun K hK => ?_)
      go_simp
      refine (HP2.out _ hBX).mono ?_
      rintro e wd ⟨⟨p6, n6, c6, rfl, hi6⟩, hk⟩
      refine hK.out _ _ ⟨⟨_, hk⟩, rfl⟩ ?_
      try go_simp
      clear hK K hC hne k5
      refine wpAnyH_strengthen (S' := fun w' => ∃ m : NewW wd, w' = m.v) (fun w' ⟨m, hm⟩ => ⟨⟨m.v, bt hk m.h⟩, hm⟩) _ _ _ _ ?_
      have hne : Nonempty (NewW wd) := ⟨NewW.start wd⟩
      have k6 : ∀ m : NewW wd, (convert 32 9 (.slice p6 n6 c6)).run Try.prog m.v = .ok (.string ⟨lp.toArray⟩) m.v := fun m => conv_is (hi6.below m.h)
      have hC : ∃ m : NewW wd, wd = m.v := ⟨⟨_, Below.refl _ _⟩, rfl⟩
      refine takeList (i := 48) rfl (by kernel_rfl) (by kernel_rfl) (by kernel_rfl) (fun _ _ _ _ h => h) rfl rfl hC (fun K hK => ?_)
      go_big_quiet_op
      refine hK _ ?_
      clear hK K
      refine takeList (i := 49) rfl (by kernel_rfl) (by kernel_rfl) (by kernel_rfl) (fun _ _ _ _ h => h) rfl rfl hC (fun K hK => ?_)
      go_big_quiet_op
      refine hK _ ?_
      clear hK K
      refine takeList (i := 50) rfl (by kernel_rfl) (by kernel_rfl) (by kernel_rfl) (fun _ _ _ _ h => h) rfl rfl hC (fun K hK => ?_)
      go_big_quiet_op
      refine hK _ ?_
      clear hK K
      refine wpAnyH_done (by kernel_rfl) ?_ _
      have HD : Hid (Els w wd [⟨gs, ⟨y, u, q, p⟩, false⟩, ⟨gw, ⟨y, u, q, p⟩, true⟩]) := H9.out.below (bt hBX hk)
      clear z0 z1 z2 z3 z4 d0 d1 j1 j2 j3 j4 j5 j6 j7 j8 j9 hll hne k6 hC hB hBX hk hi5 hi6 HP1 HP2 H9
      go_wp2
      go_roundw
      case rel => exact ⟨k + 1, _, by go_num, by omega, HD.out⟩
      case measure => simp [RowKit.intOf]; omega
    · obtain rfl : k = n := by omega
      have HO2 : Hid (Els w wr [⟨gs, S, false⟩, ⟨gw, S, true⟩]) := HO.out
      clear HO
      go_wp2_with fail
      refine (read_at wr pe v ce lb (HX.out.below HO2.out.bel) (Nat.le_trans HLB.out (by decide))).mono ?_
      rintro e w8 ⟨⟨gr, p8, n8, c8, rfl, hlo, hlt8, hr8⟩, hb8⟩
      have HR8 : Hid (Rd w8 gr (some lb) p8 n8 c8) := hr8
      have HG8 : Hid (w.heap.size ≤ gr) := Nat.le_trans HO2.out.bel.size hlo
      have H8 : Hid (Els w w8 [⟨gs, S, false⟩, ⟨gw, S, true⟩]) := HO2.out.below hb8
      clear hr8 hlo hlt8 hb8 HO2
      go_wp2_with fail
      have hX : Rd (w8.alloc (.cells #[.slice pe v ce, .int .i64 0, .bool false] 48)) gr (some lb) p8 n8 c8 ∧ Rs (w8.alloc (.cells #[.slice pe v ce, .int .i64 0, .bool false] 48)) w8.heap.size pe v ce lb (some lb) ∧ Els w (w8.alloc (.cells #[.slice pe v ce, .int .i64 0, .bool false] 48)) [⟨gs, S, false⟩, ⟨gw, S, true⟩] ∧ w8.heap.size < (w8.alloc (.cells #[.slice pe v ce, .int .i64 0, .bool false] 48)).heap.size := ⟨HR8.out.below (below_new _ _), ⟨0, ⟨heap_alloc_new _ _, Is.below HX.out (bt H8.out.bel (below_new _ _)), HCM.out.1, HCM.out.2.1, Nat.zero_le _, HCM.out.2.2⟩, fun r hr => by cases hr; rfl⟩, H8.out.below (below_new _ _), by simp⟩
      generalize World.alloc w8 _ = w9 at hX ⊢
      obtain ⟨hr9, hs9, h9, -⟩ := hX
      have HNE : Hid (gr ≠ w8.heap.size) := by have := HR8.out.lt; show _ ≠ _; omega
      have HGS : Hid (w.heap.size ≤ w8.heap.size) := H8.out.bel.size
      have HR9 : Hid _ := hr9
      have HS9 : Hid (Rs w9 w8.heap.size pe v ce lb (some lb)) := hs9
      have H9 : Hid _ := h9
      clear hr9 hs9 h9 HR8 H8
      generalize w8.heap.size = gq at *
      obtain ⟨G, sG, hG⟩ : ∃ G sG, C.getL (some lb) = (G, sG) := ⟨_, _, rfl⟩
      have HGT : Hid (C.getL (some lb) = (G, sG)) := hG
      clear hG
      refine (eget_any w9 gr (some lb) sG p8 n8 c8 G HR9.out (Nat.le_trans HLB.out (by decide)) HGT.out).mono ?_
      rintro e w10 ⟨ht10, hr10, hg10⟩
      have HR10 : Hid (∃ p n c, Rd w10 gr sG p n c) := hr10
      have HS10 : Hid (Rs w10 gq pe v ce lb (some lb)) := HS9.out.kept hg10 HR9.out.nb HNE.out.symm
      have H10 : Hid (Els w w10 [⟨gs, S, false⟩, ⟨gw, S, true⟩]) := H9.out.grown HR9.out HG8.out hg10
      have HN10 : Hid (w9.heap.size ≤ w10.heap.size) := hg10.size
      cases sG with
      | none =>
        obtain rfl : e = .returned (.pointer none) := by
          rcases ht10 with ⟨-, h⟩ | ⟨r, k, h, -⟩
          · exact h
          · cases h
        clear ht10 hg10 hr10 HR9 HS9 H9 HR10
        go_wp2_with fail
        refine (dget_any w10 gq pe v ce lb (some lb) none G HS10.out (Nat.le_trans HLB.out (by decide)) HGT.out).mono ?_
        rintro e w11 ⟨ht11, -, hg11⟩
        obtain rfl : e = .returned (.pointer none) := by
          rcases ht11 with ⟨-, h⟩ | ⟨r, k, h, -⟩
          · exact h
          · cases h
        have H11 : Hid (Els w w11 [⟨gs, S, false⟩, ⟨gw, S, true⟩]) := H10.out.grown_rs HS10.out HGS.out hg11
        clear ht11 hg11 H10 HS10
        have hne11 : Nonempty (NewW w11) := ⟨NewW.start w11⟩
        go_wp2_with fail
        refine wp_region_new (by kernel_rfl) (by kernel_rfl) ?_
        repeat (go_big_quiet_step (fail))
        refine wpQuiet_nil ?_
        rintro _ ⟨w12, rfl⟩
        have HZ : Hid (Below w.heap.size w w12.v) := bt H11.out.bel w12.h
        clear H11 hne11
        go_wp2
        go_ret
        exact ⟨rfl, HZ.out⟩
      | some rr =>
        have HGO : Hid G.Ok := C.getL_ok HGT.out
        obtain ⟨gx, rfl, hx1, hx2⟩ : ∃ gx, e = .returned (.pointer (some ⟨gx, 0, none⟩)) ∧ w9.heap.size ≤ gx ∧ EAt w10 gx false G := by
          rcases ht10 with ⟨h, -⟩ | ⟨r, k, -, h, h1, h2⟩
          · cases h
          · exact ⟨k, h, h1, h2⟩
        have H10' : Hid (Els w w10 ([⟨gs, S, false⟩, ⟨gw, S, true⟩] ++ [⟨gx, G, false⟩])) := H10.out.add false hx2 HGO.out (fun o ho => by have := (H9.out.at_ o ho).1.lt; omega) (Nat.le_trans H9.out.bel.size hx1)
        clear ht10 hr10 hg10 HR9 HS9 H9 H10 hx1 hx2
        go_wp2_with fail
        refine (dget_any w10 gq pe v ce lb (some lb) (some rr) G HS10.out (Nat.le_trans HLB.out (by decide)) HGT.out).mono ?_
        rintro e w11 ⟨ht11, hs11, hg11⟩
        obtain ⟨gy, rfl, hy1, hy2⟩ : ∃ gx, e = .returned (.pointer (some ⟨gx, 0, none⟩)) ∧ w10.heap.size ≤ gx ∧ EAt w11 gx true G := by
          rcases ht11 with ⟨h, -⟩ | ⟨r, k, -, h, h1, h2⟩
          · cases h
          · exact ⟨k, h, h1, h2⟩
        have H11 : Hid (Els w w11 ([⟨gs, S, false⟩, ⟨gw, S, true⟩] ++ ⟨gx, G, false⟩ :: [⟨gy, G, true⟩])) := (H10'.out.grown_rs HS10.out HGS.out hg11).add true hy2 HGO.out (fun o ho => by have := (H10'.out.at_ o ho).1.lt; omega) (Nat.le_trans H10'.out.bel.size hy1)
        have HS11 : Hid (Rs w11 gq pe v ce lb (some rr)) := hs11
        obtain ⟨pr, nr, cr, hr10⟩ := HR10.out
        have HR11 : Hid (Rd w11 gr (some rr) pr nr cr) := hr10.kept hg11 HS10.out.nb HNE.out
        clear ht11 hs11 hg11 hr10 HR10 H10' HS10 hy1 hy2
        obtain ⟨lg, hlg⟩ : ∃ lg, lg = [] ++ C.putL G := ⟨_, rfl⟩
        have HLG : Hid (lg = [] ++ C.putL G) := hlg
        clear hlg
        have HP1 : Hid (∀ W, Below w11.heap.size w11 W → Calls Try.prog 15 #[.pointer (some ⟨gx, 0, none⟩), .slice none 0 0] W fun e w' => (∃ p n k, e = .returned (.slice p n k) ∧ Is w' p n k lg) ∧ Below W.heap.size W w') := fun W hW => e_put [⟨gs, S, false⟩, ⟨gw, S, true⟩] [⟨gy, G, true⟩] gx G none 0 0 [] lg (H11.out.below hW) (Is.nil _) (by decide) HLG.out
        have HP2 : Hid (∀ W, Below w11.heap.size w11 W → Calls Try.prog 18 #[.pointer (some ⟨gy, 0, none⟩), .slice none 0 0] W fun e w' => (∃ p n k, e = .returned (.slice p n k) ∧ Is w' p n k lg) ∧ Below W.heap.size W w') := fun W hW => d_put [⟨gs, S, false⟩, ⟨gw, S, true⟩, ⟨gx, G, false⟩] [] gy G none 0 0 [] lg (H11.out.below hW) (Is.nil _) (by decide) HLG.out
        have hll : (lg == lg) = true := beq_self_eq_true lg
        obtain ⟨ze, hze⟩ : ∃ ze, (some rr == some []) = ze := ⟨_, rfl⟩
        have HE1 : Hid (∀ W, Below w11.heap.size w11 W → Calls Try.prog 20 #[.pointer (some ⟨gr, 0, none⟩)] W fun e w' => e = .returned (.bool ze) ∧ w' = W) := fun W hW => by rw [← hze]; exact end_any W gr _ pr nr cr (HR11.out.below hW)
        have HE2 : Hid (∀ W, Below w11.heap.size w11 W → Calls Try.prog 21 #[.pointer (some ⟨gq, 0, none⟩)] W fun e w' => e = .returned (.bool ze) ∧ Below W.heap.size W w') := fun W hW => by rw [← hze]; exact refend_any W gq pe v ce lb _ (HS11.out.below hW) (Nat.le_trans HLB.out (by decide))
        have hzz : (ze == ze) = true := beq_self_eq_true ze
        have hne : Nonempty (NewW w11) := ⟨NewW.start w11⟩
        clear hze HLG HR11 HS11
        go_wp2_with fail
        have hC : ∃ m : NewW w11, w11.drew = m.v := ⟨⟨w11.drew, (Below.refl _ w11).drew⟩, rfl⟩
        refine wp_region_held_drew (S := fun w' => ∃ m : NewW w11, w' = m.v) (by kernel_rfl) hC (fun _ => ?_)
        have hB : Below w11.heap.size w11 w11.drew := (Below.refl _ w11).drew
        generalize w11.drew = W0 at *
        refine takeList (i := 0) rfl (by kernel_rfl) (by kernel_rfl) (by kernel_rfl) (fun _ _ _ _ h => h) rfl rfl hC (fun K hK => ?_)
        go_big_quiet_op
        refine hK _ ?_
        clear hK K
        refine takeList (i := 1) rfl (by kernel_rfl) (by kernel_rfl) (by kernel_rfl) (fun _ _ _ _ h => h) rfl rfl hC (fun K hK => ?_)
        go_big_quiet_op
        refine hK _ ?_
        clear hK K
        refine takeList (i := 2) rfl (by kernel_rfl) (by kernel_rfl) (by kernel_rfl) (fun _ _ _ _ h => h) rfl rfl hC (fun K hK => ?_)
        go_big_quiet_op
        refine hK _ ?_
        clear hK K
        refine takeList (i := 3) rfl (by kernel_rfl) (by kernel_rfl) (by kernel_rfl) (fun _ _ _ _ h => h) rfl rfl hC (fun K hK => ?_)
        go_big_quiet_op
        refine hK _ ?_
        clear hK K
        refine takeList (i := 4) rfl (by kernel_rfl) (by kernel_rfl) (by kernel_rfl) (fun _ _ _ _ h => h) rfl rfl hC (fun K hK => ?_)
        go_big_quiet_op
        refine hK _ ?_
        clear hK K
        refine takeList (i := 5) rfl (by kernel_rfl) (by kernel_rfl) (by kernel_rfl) (fun _ _ _ _ h => h) rfl rfl hC (fun K hK => ?_)
        go_big_quiet_op
        refine hK _ ?_
        clear hK K
        refine takeList (i := 6) rfl (by kernel_rfl) (by kernel_rfl) (by kernel_rfl) (fun _ _ _ _ h => h) rfl rfl hC (fun K hK => ?_)
        go_big_quiet_op
        refine hK _ ?_
        clear hK K
        refine takeList (i := 7) rfl (by kernel_rfl) (by kernel_rfl) (by kernel_rfl) (fun _ _ _ _ h => h) rfl rfl hC (fun K hK => ?_)
        go_big_quiet_op
        refine hK _ ?_
        clear hK K
        refine takeList (i := 8) rfl (by kernel_rfl) (by kernel_rfl) (by kernel_rfl) (fun _ _ _ _ h => h) rfl rfl hC (fun K hK => ?_)
        go_big_quiet_op
        refine hK _ ?_
        clear hK K
        refine takeList (i := 9) rfl (by kernel_rfl) (by kernel_rfl) (by kernel_rfl) (fun _ _ _ _ h => h) rfl rfl hC (fun K hK => ?_)
        go_big_quiet_op
        refine hK _ ?_
        clear hK K
        refine takeList (i := 12) rfl (by kernel_rfl) (by kernel_rfl) (by kernel_rfl) (fun _ _ _ _ h => h) rfl rfl hC (fun K hK => ?_)
        go_big_quiet_op
        refine hK _ ?_
        clear hK K
        refine callList (i := 10) rfl (by kernel_rfl) rfl (fun K hK => ?_)
        go_simp
        refine (HP1.out _ hB).mono ?_
        rintro e wc ⟨⟨p5, n5, c5, rfl, hi5⟩, hk⟩
        refine hK.out _ _ ⟨⟨_, bt hB hk⟩, rfl⟩ ?_
        try go_simp
        clear hK K hC hne
        refine wpAnyH_strengthen (S' := fun w' => ∃ m : NewW wc, w' = m.v) (fun w' ⟨m, hm⟩ => ⟨⟨m.v, bt (bt hB hk) m.h⟩, hm⟩) _ _ _ _ ?_
        have hne : Nonempty (NewW wc) := ⟨NewW.start wc⟩
        have k5 : ∀ m : NewW wc, (convert 32 9 (.slice p5 n5 c5)).run Try.prog m.v = .ok (.string ⟨lg.toArray⟩) m.v := fun m => conv_is (hi5.below m.h)
        have hC : ∃ m : NewW wc, wc = m.v := ⟨⟨_, Below.refl _ _⟩, rfl⟩
        refine takeList (i := 11) rfl (by kernel_rfl) (by kernel_rfl) (by kernel_rfl) (fun _ _ _ _ h => h) rfl rfl hC (fun K hK => ?_)
        go_big_quiet_op
        refine hK _ ?_
        clear hK K
        replace hB := bt hB hk
        clear hk
        have hBX := hB
        replace hB := Below.refl wc.heap.size wc
        refine callList (i := 13) rfl (by kernel_rfl) rfl (fun K hK => ?_)
        go_simp
        refine (HP2.out _ hBX).mono ?_
        rintro e wd ⟨⟨p6, n6, c6, rfl, hi6⟩, hk⟩
        refine hK.out _ _ ⟨⟨_, hk⟩, rfl⟩ ?_
        try go_simp
        clear hK K hC hne k5
        refine wpAnyH_strengthen (S' := fun w' => ∃ m : NewW wd, w' = m.v) (fun w' ⟨m, hm⟩ => ⟨⟨m.v, bt hk m.h⟩, hm⟩) _ _ _ _ ?_
        have hne : Nonempty (NewW wd) := ⟨NewW.start wd⟩
        have k6 : ∀ m : NewW wd, (convert 32 9 (.slice p6 n6 c6)).run Try.prog m.v = .ok (.string ⟨lg.toArray⟩) m.v := fun m => conv_is (hi6.below m.h)
        have hC : ∃ m : NewW wd, wd = m.v := ⟨⟨_, Below.refl _ _⟩, rfl⟩
        have hBY := bt hBX hk
        refine takeList (i := 14) rfl (by kernel_rfl) (by kernel_rfl) (by kernel_rfl) (fun _ _ _ _ h => h) rfl rfl hC (fun K hK => ?_)
        go_big_quiet_op
        refine hK _ ?_
        clear hK K
        refine takeList (i := 15) rfl (by kernel_rfl) (by kernel_rfl) (by kernel_rfl) (fun _ _ _ _ h => h) rfl rfl hC (fun K hK => ?_)
        go_big_quiet_op
        refine hK _ ?_
        clear hK K
        refine takeList (i := 16) rfl (by kernel_rfl) (by kernel_rfl) (by kernel_rfl) (fun _ _ _ _ h => h) rfl rfl hC (fun K hK => ?_)
        go_big_quiet_op
        refine hK _ ?_
        clear hK K
        refine takeList (i := 17) rfl (by kernel_rfl) (by kernel_rfl) (by kernel_rfl) (fun _ _ _ _ h => h) rfl rfl hC (fun K hK => ?_)
        go_big_quiet_op
        refine hK _ ?_
        clear hK K
        refine takeList (i := 19) rfl (by kernel_rfl) (by kernel_rfl) (by kernel_rfl) (fun _ _ _ _ h => h) rfl rfl hC (fun K hK => ?_)
        go_big_quiet_op
        refine hK _ ?_
        clear hK K
        refine callList (i := 18) rfl (by kernel_rfl) rfl (fun K hK => ?_)
        go_simp
        refine (HE1.out _ hBY).mono ?_
        rintro e wk ⟨rfl, hk2⟩
        rw [hk2]
        clear hk2 wk
        refine hK.out _ _ hC ?_
        try go_simp
        clear hK K
        refine callList (i := 20) rfl (by kernel_rfl) rfl (fun K hK => ?_)
        go_simp
        refine (HE2.out _ hBY).mono ?_
        rintro e wf ⟨rfl, hk3⟩
        refine hK.out _ _ ⟨⟨_, hk3⟩, rfl⟩ ?_
        try go_simp
        clear hK K hC
        have hC : ∃ m : NewW wd, wf = m.v := ⟨⟨_, hk3⟩, rfl⟩
        refine takeList (i := 21) rfl (by kernel_rfl) (by kernel_rfl) (by kernel_rfl) (fun _ _ _ _ h => h) rfl rfl hC (fun K hK => ?_)
        go_big_quiet_op
        refine hK _ ?_
        clear hK K
        refine takeList (i := 22) rfl (by kernel_rfl) (by kernel_rfl) (by kernel_rfl) (fun _ _ _ _ h => h) rfl rfl hC (fun K hK => ?_)
        go_big_quiet_op
        refine hK _ ?_
        clear hK K
        refine takeList (i := 23) rfl (by kernel_rfl) (by kernel_rfl) (by kernel_rfl) (fun _ _ _ _ h => h) rfl rfl hC (fun K hK => ?_)
        go_big_quiet_op
        refine hK _ ?_
        clear hK K
        refine takeList (i := 24) rfl (by kernel_rfl) (by kernel_rfl) (by kernel_rfl) (fun _ _ _ _ h => h) rfl rfl hC (fun K hK => ?_)
        go_big_quiet_op
        refine hK _ ?_
        clear hK K
        refine takeList (i := 25) rfl (by kernel_rfl) (by kernel_rfl) (by kernel_rfl) (fun _ _ _ _ h => h) rfl rfl hC (fun K hK => ?_)
        go_big_quiet_op
        refine hK _ ?_
        clear hK K
        refine wpAnyH_done (by kernel_rfl) ?_ _
        have HFB : Hid (Below w.heap.size w wf) := bt H11.out.bel (bt hBY hk3)
        clear hC hB hBX hBY hk hk3 hi5 hi6 hne k6 HP1 HP2 HE1 HE2 hzz hll H11
        go_wp2
        go_ret
        exact ⟨rfl, HFB.out⟩
theorem plays_all (pa : Option Addr) (l : List C.La) (ca : Nat) (pe : Option Addr) (lb : List UInt8) (ce : Nat) (w : World) (ha : ArgL w pa l) (hxl : ∀ x ∈ l, x.x.size ≤ maxLen) (hla : l.length ≤ ca) (hca : ca ≤ maxLen) (hx : (Part.mk pe lb ce).ok w ∧ lb.length ≤ ce ∧ ce ≤ maxLen) (hat : 0 < ce → ∃ b o, pe = some ⟨b, o, none⟩) :
    Calls Try.prog 4 #[.slice pa l.length ca, .slice pe lb.length ce] w fun e w' => e = .returned (.bool true) ∧ Below w.heap.size w w' :=
  plays_walk pa l ca pe lb ce w ha hxl hla hca hx.1 hx.2.1 hx.2.2 hat
end Go.Proofs.Ytebfhomopdnkkaa
