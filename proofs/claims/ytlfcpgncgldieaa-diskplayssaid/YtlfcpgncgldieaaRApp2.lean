/-
  rostrumref5.Disk: Append.
-/
import Derived.Test.YtlfcpgncgldieaaRApp
namespace Go.Proofs.Ytlfcpgncgldieaa
open Go.RowKit Go.Lib Go.Maps
open C (upd upd_same upd_other)
set_option linter.unusedVariables false

theorem readE_ref {s : C.St} {f : Int} (h : refE s f ≠ 0) : readE s f = refE s f := if_neg h
theorem refE_three (s : C.St) (f : Int) : refE s f = 7 ∨ refE s f = 1 ∨ refE s f = 0 := by
  unfold refE
  split
  · exact Or.inl rfl
  · split
    · exact Or.inr (Or.inl rfl)
    · exact Or.inr (Or.inr rfl)
theorem readE_two {s : C.St} {f : Int} (h : refE s f = 0) : readE s f = 0 ∨ readE s f = 4 := by
  unfold readE
  rw [if_pos h]
  split
  · exact Or.inl rfl
  · exact Or.inr rfl
set_option maxRecDepth 100000 in
set_option maxHeartbeats 4000000 in
theorem rappend_bad (w : World) (g : Nat) (S : Nat → Prop) (s : C.St) (f : Int) (p : Option Addr) (l : List UInt8) (cap : Nat) (h : Ref w g S s) (hok : s.Ok) (hm : s.made ≤ 1000000) (hl : l.length ≤ 100000000) (h0 : appE s f l ≠ 0) :
    Calls Try.prog 19 #[.pointer (some ⟨g, 0, none⟩), .int .i64 f, .slice p l.length cap] w fun e w' => e = .returned (.int .i64 (appE s f l)) ∧ w' = w := by
  by_cases hr : refE s f = 0
  · have h1 : s.room < C.used s.ws + l.length := by
      unfold appE at h0; rw [if_pos hr] at h0
      by_cases h2 : s.room < C.used s.ws + l.length
      · exact h2
      · rw [if_neg h2] at h0; exact absurd rfl h0
    have e1 : appE s f l = 6 := by unfold appE; rw [if_pos hr, if_pos h1]
    rw [e1]
    obtain ⟨er, her⟩ : ∃ er, readE s f = er := ⟨_, rfl⟩
    have h04 := readE_two hr
    rw [her] at h04
    have HC : Hid _ := ask_at w g S s f er h her
    obtain ⟨v1, c0, -, -, -, -, -⟩ := h.cells
    obtain ⟨v, ls, M, hF, hS⟩ := h
    have hlen := M.len
    have hll : ls.length ≤ 1000000 := by rw [hlen]; exact Nat.le_trans (C.ws_le hok) hm
    have hused : C.used s.ws ≤ 1048576 := Nat.le_trans hok.used hok.room.2
    have HUT : Hid (∀ k, C.used (s.ws.take k) ≤ 1048576) := fun k => Nat.le_trans (C.used_take _ k) hused
    obtain ⟨q, c, hv⟩ := OwnR.shape M.row
    rw [hv] at M
    have HM : Hid (RMem w g (.slice q ls.length c) ls s) := M
    have HLN : Hid (ls.length = s.ws.length) := hlen
    have hroom := hok.room.2
    obtain ⟨n, hn⟩ : ∃ n, n = ls.length := ⟨_, rfl⟩
    rw [← hn] at HM hll
    have HN : Hid _ := hn
    have H1 : Hid _ := h1
    obtain ⟨r, hrr⟩ : ∃ r, r = s.room := ⟨_, rfl⟩
    rw [← hrr] at c0 hroom H1
    have c1 := RMem.c1 HM.out
    clear M hv hF hS hused hlen hn e1 h0 hr h1 hrr her
    rcases h04 with rfl | rfl
    all_goals
      go_enter Try.func19, Try.ntmps19
      go_wp2_with fail
      refine Calls.mono HC.out ?_
      rintro e w1 ⟨rfl, hw⟩
      subst w1
      go_wp2
      go_loop [8, 9] (fun z i => ∃ k : Nat, k ≤ n ∧ i = .int .i64 (k : Int) ∧ z = .int .i64 (((l.length + C.used (s.ws.take k) : Nat)) : Int)) (fun _ i => n - (intOf i).toNat)
      case atStart => exact ⟨0, Nat.zero_le _, rfl, rfl⟩
      case round =>
        obtain ⟨k, hk, rfl, rfl⟩ := hrel
        have hu1 := HUT.out k
        by_cases hlt : k < n
        · obtain ⟨rb, x, u, hp, hnc, hcm, hx, hsx, hox, x0, x1, _, _⟩ := RMem.get HM.out HN.out hlt
          subst hp
          obtain ⟨q2, m2, d2, rfl, hi2⟩ := Own.is hox
          have hm2 : m2 = x.bytes.length := hi2.1
          have hu2 := HUT.out (k + 1)
          have hsn := C.used_snoc hsx
          rw [hsn, ← hm2] at hu2
          have HSN : Hid (C.used (s.ws.take (k + 1)) = C.used (s.ws.take k) + m2) := by rw [hm2]; exact hsn
          have hcm' : c ≤ 9223372036854775807 := Nat.le_trans hcm (by decide)
          have hki : (k : Int) < (n : Int) := by omega
          clear hi2 hsx hox hx hcm hm2 hsn x0
          generalize C.used (s.ws.take k) = t at *
          go_wp2
          go_round
          case rel => exact ⟨k + 1, by omega, by go_num, by rw [HSN.out]; go_num⟩
          case measure => simp [intOf]; omega
        · obtain rfl : k = n := by omega
          have h2 := H1.out
          rw [← List.take_of_length_le (l := s.ws) (i := k) (by rw [← HLN.out, ← HN.out]; exact Nat.le_refl _)] at h2
          generalize C.used (s.ws.take k) = t at *
          have h3 : (r : Int) < ((l.length + t : Nat) : Int) := by omega
          go_wp2
          go_ret
          exact ⟨rfl, rfl⟩
  · have e1 : appE s f l = refE s f := if_neg hr
    have h3 := refE_three s f
    rw [e1]
    have HC : Hid _ := ask_at w g S s f (refE s f) h (readE_ref hr)
    generalize refE s f = er at *
    clear h h0 e1
    have h4 : er = 7 ∨ er = 1 := by omega
    clear h3 hr
    rcases h4 with rfl | rfl
    all_goals
      go_enter Try.func19, Try.ntmps19
      go_wp2_with fail
      refine Calls.mono HC.out ?_
      rintro e w1 ⟨rfl, hw⟩
      subst w1
      go_wp2
      go_ret
      exact ⟨rfl, rfl⟩
end Go.Proofs.Ytlfcpgncgldieaa
