/-
  rostrumref5.Disk: Append, taken: its walk.
-/
import Derived.Test.YtlfcpgncgldieaaRApp3
namespace Go.Proofs.Ytlfcpgncgldieaa
open Go.RowKit Go.Lib Go.Maps
open C (upd upd_same upd_other)
set_option linter.unusedVariables false

set_option maxRecDepth 100000 in
set_option maxHeartbeats 8000000 in
theorem rappend_ok (w : World) (g : Nat) (S : Nat → Prop) (s : C.St) (f : Nat) (p : Option Addr) (l : List UInt8) (cap : Nat) (h : Ref w g S s) (hok : s.Ok) (hm : s.made ≤ 1000000) (hx : Part.ok w ⟨p, l, cap⟩) (hr : refE s f = 0) (hu : C.used s.ws + l.length ≤ s.room) :
    Calls Try.prog 19 #[.pointer (some ⟨g, 0, none⟩), .int .i64 (f : Nat), .slice p l.length cap] w fun e w' => e = .returned (.int .i64 0) ∧ Ref w' g (Ext w w' S) (C.appS s f l) ∧ Turn w w' S := by
  obtain ⟨er, her⟩ : ∃ er, readE s f = er := ⟨_, rfl⟩
  have h04 := readE_two hr
  rw [her] at h04
  have HC : Hid _ := ask_at w g S s f er h her
  have h00 := refE_zero hr
  have hf9 : f < 1000 := by omega
  obtain ⟨v1, c0, ck, -, -, -, cf⟩ := h.cells
  have ckf := ck f hf9
  have cff := cf (1 + f)
  obtain ⟨v, ls, M, hF, hS⟩ := h
  have hlen := M.len
  have hll : ls.length ≤ 1000000 := by rw [hlen]; exact Nat.le_trans (C.ws_le hok) hm
  have hused : C.used s.ws ≤ 1048576 := Nat.le_trans hok.used hok.room.2
  have hlc : l.length ≤ 1048576 := by have := hok.room.2; omega
  have HUT : Hid (∀ k, C.used (s.ws.take k) ≤ 1048576) := fun k => Nat.le_trans (C.used_take _ k) hused
  obtain ⟨q, c, hv⟩ := OwnR.shape M.row
  rw [hv] at M hF
  have HM : Hid (RMem w g (.slice q ls.length c) ls s) := M
  have HF : Hid _ := hF
  have HS : Hid _ := hS
  have HLN : Hid (ls.length = s.ws.length) := hlen
  have hroom := hok.room.2
  obtain ⟨n, hn⟩ : ∃ n, n = ls.length := ⟨_, rfl⟩
  rw [← hn] at HM hll HF
  have HN : Hid _ := hn
  have H1 : Hid _ := hu
  obtain ⟨r, hrr⟩ : ∃ r, r = s.room := ⟨_, rfl⟩
  rw [← hrr] at c0 hroom H1
  have c1 := RMem.c1 HM.out
  have HX : Hid (Part.ok (w.setCell ⟨g, 1 + f, none⟩ (.bool true)) ⟨p, l, cap⟩) := RMem.part HM.out (fun b _ hne => set_other hne) hx
  have hfi : (f : Int) < 1000 := by omega
  clear M hv hF hS hused hlen hn hr hrr her hu hx ck cf hok hm h00
  rcases h04 with rfl | rfl
  all_goals
    go_enter Try.func19, Try.ntmps19
    go_wp2_with fail
    refine Calls.mono HC.out ?_
    rintro e w1 ⟨rfl, hw⟩
    subst w1
    go_wp2
    go_loop [8, 9] (fun z i => ∃ k : Nat, k ≤ n ∧ i = .int .i64 (k : Int) ∧ z = .int .i64 (((l.length + C.used (s.ws.take k) : Nat)) : Int)) (fun _ i => n - (intOf i).toNat)
    case atStart => exact ⟨0, Nat.zero_le _, rfl, rfl⟩
    case round =>
      obtain ⟨k, hk, rfl, rfl⟩ := hrel
      have hu1 := HUT.out k
      by_cases hlt : k < n
      · obtain ⟨rb, x, u, hp, hnc, hcm, hx, hsx, hox, x0, x1, _, _⟩ := RMem.get HM.out HN.out hlt
        subst hp
        obtain ⟨q2, m2, d2, rfl, hi2⟩ := Own.is hox
        have hm2 : m2 = x.bytes.length := hi2.1
        have hu2 := HUT.out (k + 1)
        have hsn := C.used_snoc hsx
        rw [hsn, ← hm2] at hu2
        have HSN : Hid (C.used (s.ws.take (k + 1)) = C.used (s.ws.take k) + m2) := by rw [hm2]; exact hsn
        have hcm' : c ≤ 9223372036854775807 := Nat.le_trans hcm (by decide)
        have hki : (k : Int) < (n : Int) := by omega
        clear hi2 hsx hox hx hcm hm2 hsn x0
        generalize C.used (s.ws.take k) = t at *
        go_wp2
        go_round
        case rel => exact ⟨k + 1, by omega, by go_num, by rw [HSN.out]; go_num⟩
        case measure => simp [intOf]; omega
      · obtain rfl : k = n := by omega
        have h2 := H1.out
        rw [← List.take_of_length_le (l := s.ws) (i := k) (by rw [← HLN.out, ← HN.out]; exact Nat.le_refl _)] at h2
        generalize C.used (s.ws.take k) = t at *
        have h3 : ¬ (r : Int) < ((l.length + t : Nat) : Int) := by omega
        have h4 : ((l.length + t : Nat) : Int) ≤ (r : Int) := by omega
        clear H1 HUT
        go_upto_region 12 with fail
        refine wp_here ?_
        intro wa hwa
        have HWA : Hid _ := hwa
        have hga0 : g < w.heap.size := World.block_lt_of_cell? _ _ c1
        have hszA : wa.heap.size = w.heap.size := by rw [hwa]; simp [World.setCell]
        have c1a : wa.cell? ⟨g, 1001, none⟩ = some (.slice q k c) := by
          obtain ⟨cs, hb0, hc⟩ := (HM.out : RMem _ _ _ _ _).blk
          rw [hwa]
          exact (blk_cell (set_block hb0) 1001).trans (hc.setIs (by omega) true).row
        have HFA : Hid (wa.frozen? ⟨g, 1001, none⟩ = false) := by
          obtain ⟨cs, hb0, hc⟩ := (HM.out : RMem _ _ _ _ _).blk
          show _ = _
          rw [hwa]
          exact blk_free (set_block hb0) 1001
        have HXA : Hid (Part.ok wa ⟨p, l, cap⟩) := by rw [hwa]; exact HX.out
        have hrow : wa.ownsRow 0 70 3 (.slice q k c) ls.length (rowR ls) := row_same (HM.out : RMem _ _ _ _ _).row fun b hb => by rw [hwa]; exact set_other (RMem.v_g HM.out hb)
        have HSRC : Hid (SrcAt (wa.alloc (.cells #[] 70)) 3 (.slice q k c) ls.length (rowR ls)) := row_src (row_same hrow fun b hb => Below.heap_alloc _ _ _ (row_lt hrow hb))
        have HONE : Hid _ := RMem.one HM.out
        have hkl : ls.length ≤ 1000000 := by rw [← HN.out]; omega
        have HN1 : Hid (0 + ls.length ≤ maxLen) := by show _ ≤ _; unfold maxLen; omega
        have HN2 : Hid ((0 + ls.length) * 40 ≤ 140737488355328) := by show _ ≤ _; omega
        have HN3 : Hid (0 + ls.length + 1 ≤ maxLen) := by show _ ≤ _; unfold maxLen; omega
        have HN4 : Hid ((0 + ls.length + 1) * 40 ≤ 140737488355328) := by show _ ≤ _; omega
        have HL : Hid (([] : List UInt8).length + l.length ≤ 100000000) := by show _ ≤ _; simp only [List.length_nil]; omega
        have HCA : Hid (∀ W, Below wa.heap.size wa W → W.cell? ⟨g, 1001, none⟩ = some (.slice q k c) ∧ W.frozen? ⟨g, 1001, none⟩ = false) := fun W hb => ⟨(hb.cell (p := ⟨g, 1001, none⟩) (by simpa [hszA] using hga0)).trans c1a, (hb.frozen (p := ⟨g, 1001, none⟩) (by simpa [hszA] using hga0)).trans HFA.out⟩
        have HSZA : Hid _ := hszA
        have c1b : ∀ ob, (wa.alloc ob).cell? ⟨g, 1001, none⟩ = some (.slice q k c) := fun ob => (HCA.out _ (below_new wa ob)).1
        clear hwa hszA hrow hkl h2 h3 h4 hu1 hk hlt c1 c0 ckf cff HX
        go_wp2_with (first
          | (at_builtin; (refine wpList_append_src Try.underlying40 info_rw rfl (by decide) rfl _ _ rfl rfl ho5.out rfl hr5.out (rowR_one (fun x hx => by simp only [List.mem_singleton] at hx; subst hx; rfl)) HN3.out HN4.out ?_; intro vc W6 hrc hgc hlc; obtain ⟨hB6, hO6, n2, n3⟩ := rapp3 (x := ⟨s.made, f, l, false⟩) hB2 hna hra hbb hob hgc hlc; obtain ⟨y1, y2⟩ := HCA.out W6 hB6; have hO3 := ownR_of_row (l := ls ++ [(⟨s.made, f, l, false⟩, .slice pb nb cb)]) hrc (by rw [List.nil_append, rowR_append]) (by simp); obtain ⟨pc, nc, cc, rfl⟩ : ∃ p n c, vc = .slice p n c := by (obtain ⟨a1, a2, a3⟩ := OwnR.shape hO3; exact ⟨_, _, _, a3⟩)))
          | (at_builtin; (refine wpList_append_part rfl _ _ rfl W2.heap.size _ [] rfl (Own.empty W2 W2.heap.size (Nat.le_refl _)) ⟨p, l, cap⟩ rfl (Part.ok.below (Part.ok.below HXA.out hB2) (below_new _ _)) HL.out (by simp) ?_; intro vb W4 hob hgb; rw [List.nil_append] at hob; have hbb : Below W2.heap.size W2 W4 := Own.grown (Own.empty W2 W2.heap.size (Nat.le_refl _)) (below_new _ _) (by simp) hgb; obtain ⟨pb, nb, cb, rfl, _⟩ := Own.is hob; have hr5 : Hid (SrcAt (W4.alloc (.cells #[.int .i64 (f : Nat), .slice pb nb cb, .bool false] 70)) 3 (.slice (some ⟨W4.heap.size, 0, none⟩) 1 1) 1 (rowR [(⟨s.made, f, l, false⟩, .slice pb nb cb)])) := row_one_r W4 (⟨s.made, f, l, false⟩, .slice pb nb cb); have ho5 : Hid ((W4.alloc (.cells #[.int .i64 (f : Nat), .slice pb nb cb, .bool false] 70)).ownsRow 0 70 3 va (0 + ls.length) ([] ++ rowR ls)) := rapp_src hra hbb))
          | (at_builtin; (refine wpList_append_src Try.underlying40 info_rw rfl (by decide) rfl _ _ rfl rfl (row_empty wa) rfl HSRC.out HONE.out HN1.out HN2.out ?_; intro va W2 hra hga hla; obtain ⟨hB2, hna⟩ := rapp1 hga hla)))
        go_ret
        exact ⟨rfl, rapp_end HM.out HF.out HS.out (by omega) HWA.out (by rw [← HSZA.out]; exact hB6) hO3 hO6 (by rw [← HSZA.out]; exact n2) (by rw [← HSZA.out]; exact n3)⟩
end Go.Proofs.Ytlfcpgncgldieaa
