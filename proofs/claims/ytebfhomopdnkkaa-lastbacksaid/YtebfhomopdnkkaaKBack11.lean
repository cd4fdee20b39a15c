/-
  LastBack: what is written is read again; it goes on as if nothing had been.
-/
import Derived.Test.YtebfhomopdnkkaaKKnown11
import Derived.Test.YtebfhomopdnkkaaEArg
namespace Go.Proofs.Ytebfhomopdnkkaa
open Go.RowKit Go.Lib
set_option linter.unusedVariables false

set_option maxRecDepth 100000 in
set_option maxHeartbeats 8000000 in
theorem back_all (pa : Option Addr) (l : List C.La) (ca : Nat) (A : C.La) (w : World) (ha : ArgL w pa l) (hxl : ∀ x ∈ l, x.x.size ≤ maxLen) (hla : l.length ≤ ca) (hca : ca ≤ maxLen) (hax : A.x.size ≤ maxLen) :
    Calls Try.prog 7 #[.slice pa l.length ca, .agg A.cells.toArray] w fun e w' => e = .returned (.bool true) ∧ Below w.heap.size w w' := by
  have HA : Hid (ArgL w pa l) := ha
  have HXL : Hid (∀ x ∈ l, x.x.size ≤ maxLen) := hxl
  have HAX : Hid (A.x.size ≤ maxLen) := hax
  unfold maxLen at hca
  obtain ⟨n, hn⟩ : ∃ n, n = l.length := ⟨_, rfl⟩
  have HN : Hid (n = l.length) := hn
  rw [← hn] at hla ⊢
  clear hn ha hxl hax
  have hnb : n ≤ 9223372036854775807 := by omega
  clear hla hca
  obtain ⟨ax, at_, ar, am⟩ := A
  simp only [C.La.cells]
  simp only at HAX
  have HBX : Hid (Below w.heap.size w (w.alloc (.cells #[.string ax, .int .i64 at_, .int .i64 ar, .int .i64 am] 45))) := below_new _ _
  have HQX : Hid ((w.alloc (.cells #[.string ax, .int .i64 at_, .int .i64 ar, .int .i64 am] 45)).heap[w.heap.size]? = some (.cells #[.string ax, .int .i64 at_, .int .i64 ar, .int .i64 am] 45)) := heap_alloc_new _ _
  go_enter Try.func7, Try.ntmps7
  go_wp2_with fail
  obtain ⟨gb, hgb⟩ : ∃ gb, gb = w.heap.size := ⟨_, rfl⟩
  have HGB : Hid (gb = w.heap.size) := hgb
  rw [← hgb] at HQX ⊢
  generalize w.alloc (.cells #[.string ax, .int .i64 at_, .int .i64 ar, .int .i64 am] 45) = w0 at *
  clear hgb
  refine (awake11_any _).mono ?_
  rintro e w1 ⟨rfl, hb1⟩
  have HB1 : Hid (Below w.heap.size w w1) := bt HBX.out hb1
  have HQ1 : Hid _ := keep_on hb1 HQX.out
  have HW1 : Hid (gb < w1.heap.size) := (Array.getElem?_eq_some_iff.1 HQ1.out).1
  clear hb1 HQX HBX
  by_cases hbig : 30 < n
  · go_wp2
    go_ret
    exact ⟨rfl, HB1.out⟩
  go_wp2_with fail
  refine (e_new (Els.nil (Below.refl _ w1))).mono ?_
  rintro e w2 ⟨g, rfl, h2, -⟩
  have H2 : Hid (Els w1 w2 ([] ++ ⟨g, C.La.zero, false⟩ :: [])) := h2
  clear h2
  go_wp2_with fail
  go_loopw [6] (fun s6 wr => ∃ (k : Nat) (S : C.La), s6 = .int .i64 k ∧ k ≤ n ∧ Hid (Els w1 wr ([] ++ ⟨g, S, false⟩ :: []))) (fun s6 _ => n - (RowKit.intOf s6).toNat)
  case atStart => exact ⟨0, C.La.zero, rfl, Nat.zero_le _, H2.out⟩
  case round =>
    clear H2
    obtain ⟨k, S, rfl, hkn, HO⟩ := hrel
    by_cases hlt : k < n
    · obtain ⟨a, hak⟩ : ∃ a, l[k]? = some a := ⟨_, List.getElem?_eq_getElem (by have := HN.out; omega)⟩
      obtain ⟨b, oo, hpa, hat⟩ := HA.out.at hak
      subst hpa
      have HXS : Hid (a.x.size ≤ maxLen) := HXL.out a (List.mem_of_getElem? hak)
      have hlz : (k : Int) < (n : Int) := by omega
      obtain ⟨S', hS'⟩ : ∃ S', C.wrL S a = S' := ⟨_, rfl⟩
      have HS' : Hid _ := hS'
      have HAT : Hid (∀ W, Below w1.heap.size w1 W → AtL a b (oo + k * 4) W) := fun W hW => hat.below (bt HB1.out hW)
      clear hak hat hS'
      obtain ⟨x, t, r, m⟩ := a
      simp only at HXS
      go_wp2_with fail
      obtain ⟨z0, z1, z2, z3⟩ := AtL.all (x := x) (t := t) (r := r) (n := m) (b := b) (o := oo + k * 4)
      have hne : Nonempty (HeldL (AtL ⟨x, t, r, m⟩ b (oo + k * 4))) := ⟨⟨wr, HAT.out wr HO.out.bel⟩⟩
      have hC : ∃ T : HeldL (AtL ⟨x, t, r, m⟩ b (oo + k * 4)), wr.drew = T.v := ⟨⟨wr.drew, (HAT.out wr HO.out.bel).drew⟩, rfl⟩
      refine wp_region_held_drew (S := fun w' => ∃ T : HeldL (AtL ⟨x, t, r, m⟩ b (oo + k * 4)), w' = T.v) (by kernel_rfl) hC (fun _ => ?_)
      refine takeList (i := 0) rfl (by kernel_rfl) (by kernel_rfl) (by kernel_rfl) (fun _ _ _ _ h => h) rfl rfl hC (fun K hK => ?_)
      go_big_quiet_op
      refine hK _ ?_
      clear hK K
      refine takeList (i := 1) rfl (by kernel_rfl) (by kernel_rfl) (by kernel_rfl) (fun _ _ _ _ h => h) rfl rfl hC (fun K hK => ?_)
      go_big_quiet_op
      refine hK _ ?_
      clear hK K
      refine takeList (i := 2) rfl (by kernel_rfl) (by kernel_rfl) (by kernel_rfl) (fun _ _ _ _ h => h) rfl rfl hC (fun K hK => ?_)
      go_big_quiet_op
      refine hK _ ?_
      clear hK K
      refine takeList (i := 3) rfl (by kernel_rfl) (by kernel_rfl) (by kernel_rfl) (fun _ _ _ _ h => h) rfl rfl hC (fun K hK => ?_)
      go_big_quiet_op
      refine hK _ ?_
      clear hK K
      refine takeList (i := 4) rfl (by kernel_rfl) (by kernel_rfl) (by kernel_rfl) (fun _ _ _ _ h => h) rfl rfl hC (fun K hK => ?_)
      go_big_quiet_op
      refine hK _ ?_
      clear hK K
      refine takeList (i := 5) rfl (by kernel_rfl) (by kernel_rfl) (by kernel_rfl) (fun _ _ _ _ h => h) rfl rfl hC (fun K hK => ?_)
      go_big_quiet_op
      refine hK _ ?_
      clear hK K
      refine takeList (i := 6) rfl (by kernel_rfl) (by kernel_rfl) (by kernel_rfl) (fun _ _ _ _ h => h) rfl rfl hC (fun K hK => ?_)
      go_big_quiet_op
      refine hK _ ?_
      clear hK K
      refine takeList (i := 7) rfl (by kernel_rfl) (by kernel_rfl) (by kernel_rfl) (fun _ _ _ _ h => h) rfl rfl hC (fun K hK => ?_)
      go_big_quiet_op
      refine hK _ ?_
      clear hK K
      refine takeList (i := 8) rfl (by kernel_rfl) (by kernel_rfl) (by kernel_rfl) (fun _ _ _ _ h => h) rfl rfl hC (fun K hK => ?_)
      go_big_quiet_op
      refine hK _ ?_
      clear hK K
      refine takeList (i := 9) rfl (by kernel_rfl) (by kernel_rfl) (by kernel_rfl) (fun _ _ _ _ h => h) rfl rfl hC (fun K hK => ?_)
      go_big_quiet_op
      refine hK _ ?_
      clear hK K
      refine takeList (i := 10) rfl (by kernel_rfl) (by kernel_rfl) (by kernel_rfl) (fun _ _ _ _ h => h) rfl rfl hC (fun K hK => ?_)
      go_big_quiet_op
      refine hK _ ?_
      clear hK K
      refine takeList (i := 11) rfl (by kernel_rfl) (by kernel_rfl) (by kernel_rfl) (fun _ _ _ _ h => h) rfl rfl hC (fun K hK => ?_)
      go_big_quiet_op
      refine hK _ ?_
      clear hK K
      refine takeList (i := 12) rfl (by kernel_rfl) (by kernel_rfl) (by kernel_rfl) (fun _ _ _ _ h => h) rfl rfl hC (fun K hK => ?_)
      go_big_quiet_op
      refine hK _ ?_
      clear hK K
      refine takeList (i := 13) rfl (by kernel_rfl) (by kernel_rfl) (by kernel_rfl) (fun _ _ _ _ h => h) rfl rfl hC (fun K hK => ?_)
      go_big_quiet_op
      refine hK _ ?_
      clear hK K
      refine takeList (i := 14) rfl (by kernel_rfl) (by kernel_rfl) (by kernel_rfl) (fun _ _ _ _ h => h) rfl rfl hC (fun K hK => ?_)
      go_big_quiet_op
      refine hK _ ?_
      clear hK K
      refine takeList (i := 15) rfl (by kernel_rfl) (by kernel_rfl) (by kernel_rfl) (fun _ _ _ _ h => h) rfl rfl hC (fun K hK => ?_)
      go_big_quiet_op
      refine hK _ ?_
      clear hK K
      refine callList (i := 16) rfl (by kernel_rfl) rfl (fun K hK => ?_)
      go_simp
      refine (e_wr [] [] g S S' x t r m _ _ (HO.out.below ((Below.refl _ wr).drew)) HXS.out rfl rfl HS'.out).mono ?_
      rintro e w5 ⟨rfl, h5, -⟩
      have hatn := HAT.out w5 h5.bel
      refine hK.out _ _ ⟨⟨_, hatn⟩, rfl⟩ ?_
      try go_simp
      clear hK K hC
      have hC : ∃ T : HeldL (AtL ⟨x, t, r, m⟩ b (oo + k * 4)), w5 = T.v := ⟨⟨_, hatn⟩, rfl⟩
      refine wpAnyH_done (by kernel_rfl) ?_ _
      clear z0 z1 z2 z3 hne hC hatn
      have H5 : Hid (Els w1 w5 ([] ++ ⟨g, S', false⟩ :: [])) := h5
      clear h5 HO
      go_wp2
      go_roundw
      case rel => exact ⟨k + 1, S', by go_num, by omega, H5.out⟩
      case measure => simp [RowKit.intOf]; omega
    · obtain rfl : k = n := by omega
      have HSOK : Hid S.Ok := (HO.out.at_ ⟨g, S, false⟩ (by simp)).2.1
      obtain ⟨bs, hbs⟩ : ∃ bs, C.putL S = bs := ⟨_, rfl⟩
      have HBS : Hid (bs = [] ++ C.putL S) := by show _ = _; rw [hbs]; rfl
      have HGT : Hid (C.getL (some bs) = (S, some [])) := by show _ = _; rw [← hbs]; exact put_get HSOK.out
      have HLN : Hid (bs.length ≤ 100000) := by show _ ≤ _; rw [← hbs]; exact Nat.le_trans (C.putL_len HSOK.out) (by decide)
      obtain ⟨S', hS'⟩ : ∃ S', C.wrL S ⟨ax, at_, ar, am⟩ = S' := ⟨_, rfl⟩
      obtain ⟨z, hz⟩ : ∃ z, C.didL S ⟨ax, at_, ar, am⟩ = z := ⟨_, rfl⟩
      obtain ⟨er, her⟩ : ∃ er, C.errL S ⟨ax, at_, ar, am⟩ = er := ⟨_, rfl⟩
      have HS' : Hid _ := hS'
      have HZ' : Hid _ := hz
      have HER : Hid _ := her
      clear hbs hS' hz her
      go_wp2_with fail
      refine (e_put [] [] g S none 0 0 [] bs HO.out (Is.nil _) (by decide) HBS.out).mono ?_
      rintro e w4 ⟨⟨p4, n4, c4, rfl, hi4⟩, hb4⟩
      have HI4 : Hid (Is w4 p4 n4 c4 bs) := hi4
      have H4 : Hid (Els w1 w4 ([] ++ ⟨g, S, false⟩ :: [])) := HO.out.below hb4
      clear hi4 hb4 HO
      go_wp2_with fail
      refine (read_at w4 p4 n4 c4 bs HI4.out HLN.out).mono ?_
      rintro e w5 ⟨⟨gr, p5, n5, c5, rfl, hlo, hlt5, hr5⟩, hb5⟩
      have HR5 : Hid (Rd w5 gr (some bs) p5 n5 c5) := hr5
      have HLO : Hid (w1.heap.size ≤ gr) := Nat.le_trans H4.out.bel.size hlo
      have H5 : Hid (Els w1 w5 ([] ++ ⟨g, S, false⟩ :: [])) := H4.out.below hb5
      clear hr5 hlo hlt5 hb5 H4 HI4
      go_wp2_with fail
      refine (eget_any w5 gr (some bs) (some []) p5 n5 c5 S HR5.out HLN.out HGT.out).mono ?_
      rintro e w6 ⟨ht, ⟨p6, n6, c6, hr6⟩, hg6⟩
      obtain ⟨gx, rfl, hx1, hx2⟩ : ∃ gx, e = .returned (.pointer (some ⟨gx, 0, none⟩)) ∧ w5.heap.size ≤ gx ∧ EAt w6 gx false S := by
        rcases ht with ⟨h, -⟩ | ⟨r, k, -, h, h1, h2⟩
        · cases h
        · exact ⟨k, h, h1, h2⟩
      have HR6 : Hid (Rd w6 gr (some []) p6 n6 c6) := hr6
      have H6 : Hid (Els w1 w6 ([] ++ ⟨g, S, false⟩ :: [⟨gx, S, false⟩])) := (H5.out.grown HR5.out HLO.out hg6).add false hx2 HSOK.out (fun o ho => by have := (H5.out.at_ o ho).1.lt; omega) (Nat.le_trans H5.out.bel.size hx1)
      clear ht hr6 hg6 hx1 hx2 H5 HR5
      go_wp2_with fail
      refine (end_any w6 gr _ p6 n6 c6 HR6.out).mono ?_
      rintro e w7 ⟨rfl, hw⟩
      subst hw
      have hee : ((some [] : Option (List UInt8)) == some []) = true := rfl
      rw [hee]
      clear hee
      go_wp2_with fail
      refine (e_same g gx S S true H6.out (by simp) (by simp) (C.sameL_self S)).mono ?_
      rintro e w8 ⟨rfl, hb8⟩
      have H8 : Hid (Els w1 w8 ([] ++ ⟨g, S, false⟩ :: [⟨gx, S, false⟩])) := H6.out.below hb8
      have HQ8 : Hid (w8.heap[gb]? = some (.cells #[.string ax, .int .i64 at_, .int .i64 ar, .int .i64 am] 45)) := keep_on H8.out.bel HQ1.out
      obtain ⟨y0, y1, y2, y3⟩ := (AtL.boxed (a := ⟨ax, at_, ar, am⟩) HQ8.out).cells
      simp only [Nat.zero_add] at y0 y1 y2 y3
      clear hb8 H6 HR6
      go_wp2_with fail
      refine (e_wr [] [⟨gx, S, false⟩] g S S' ax at_ ar am z er H8.out HAX.out HZ'.out HER.out HS'.out).mono ?_
      rintro e w9 ⟨rfl, h9, -⟩
      have H9 : Hid (Els w1 w9 ([⟨g, S', false⟩] ++ ⟨gx, S, false⟩ :: [])) := h9
      have HQ9 : Hid (w9.heap[gb]? = some (.cells #[.string ax, .int .i64 at_, .int .i64 ar, .int .i64 am] 45)) := keep_on h9.bel HQ1.out
      clear y0 y1 y2 y3 HQ8
      obtain ⟨y0, y1, y2, y3⟩ := (AtL.boxed (a := ⟨ax, at_, ar, am⟩) HQ9.out).cells
      simp only [Nat.zero_add] at y0 y1 y2 y3
      clear h9 H8
      go_wp2_with fail
      refine (e_wr [⟨g, S', false⟩] [] gx S S' ax at_ ar am z er H9.out HAX.out HZ'.out HER.out HS'.out).mono ?_
      rintro e wa ⟨rfl, ha, -⟩
      have HA : Hid (Els w1 wa ([⟨g, S', false⟩] ++ ⟨gx, S', false⟩ :: [])) := ha
      clear y0 y1 y2 y3 HQ9 H9 ha
      have k1 : (z == z) = true := beq_self_eq_true _
      have k2 : (er == er) = true := beq_self_eq_true _
      go_wp2_with fail
      refine (e_same g gx S' S' true HA.out (by simp) (by simp) (C.sameL_self S')).mono ?_
      rintro e wb ⟨rfl, hbb⟩
      have HBB : Hid (Below w.heap.size w wb) := bt HB1.out (bt HA.out.bel hbb)
      clear hbb HA
      go_wp2
      go_ret
      exact ⟨rfl, HBB.out⟩
theorem back_at (pa : Option Addr) (l : List C.La) (ca : Nat) (A : C.La) (hax : A.x.size ≤ maxLen) (w : World) (ha : ArgL w pa l) (hxl : ∀ x ∈ l, x.x.size ≤ maxLen) (hla : l.length ≤ ca) (hca : ca ≤ maxLen) :
    Calls Try.prog 7 #[.slice pa l.length ca, .agg A.cells.toArray] w fun e w' => e = .returned (.bool true) ∧ Below w.heap.size w w' :=
  back_all pa l ca A w ha hxl hla hca hax
end Go.Proofs.Ytebfhomopdnkkaa
