/-
  rostrumref5.Disk: Read, Files, On.
-/
import Derived.Test.YtlfcpgncgldieaaRMem
import Derived.BigQuiet
namespace Go.Proofs.Ytlfcpgncgldieaa
namespace C
theorem take_snoc {α : Type} {l : List α} {k : Nat} {x : α} (h : l[k]? = some x) : l.take (k + 1) = l.take k ++ [x] := by
  rw [List.take_add_one, h]; rfl
theorem dat_snoc {ws : List Wr} {k : Nat} {x : Wr} (h : ws[k]? = some x) (f : Nat) : dat (ws.take (k + 1)) f = dat (ws.take k) f ++ if x.file = f then x.bytes else [] := by
  rw [take_snoc h, dat_append]
  simp [dat]
theorem used_snoc {ws : List Wr} {k : Nat} {x : Wr} (h : ws[k]? = some x) : used (ws.take (k + 1)) = used (ws.take k) + x.bytes.length := by
  rw [take_snoc h, used_append]
  simp [used]
theorem used_take (ws : List Wr) (k : Nat) : used (ws.take k) ≤ used ws := by
  have := used_append (ws.take k) (ws.drop k)
  rw [List.take_append_drop] at this
  omega
end C
open Go.RowKit Go.Lib Go.Maps
open C (upd upd_same upd_other)
set_option linter.unusedVariables false

/-- A write of the row: where its cells lie. -/
theorem RMem.get {w : World} {g : Nat} {p : Option Addr} {n c : Nat} {ls : List RW} {s : C.St} (M : RMem w g (.slice p n c) ls s) (hn : n = ls.length) {k : Nat} (hk : k < n) :
    ∃ rb x u, p = some ⟨rb, 0, none⟩ ∧ n ≤ c ∧ c ≤ maxLen ∧ ls[k]? = some (x, u) ∧ s.ws[k]? = some x ∧ Own w 0 u x.bytes ∧ w.cell? ⟨rb, k * 3, none⟩ = some (.int .i64 (x.file : Nat)) ∧ w.cell? ⟨rb, k * 3 + 1, none⟩ = some u ∧ w.cell? ⟨rb, k * 3 + 2, none⟩ = some (.bool x.safe) ∧ w.frozen? ⟨rb, k * 3 + 2, none⟩ = false := by
  subst hn
  obtain ⟨rb, cap, hv, h1, h2, hc⟩ := OwnR.at M.row (by omega)
  cases hv
  obtain ⟨y, hy⟩ : ∃ y, ls[k]? = some y := ⟨ls[k], by simp [hk]⟩
  obtain ⟨x, u⟩ := y
  obtain ⟨a, b, d, e⟩ := hc k _ hy
  refine ⟨rb, x, u, rfl, h1, h2, hy, ?_, M.dat _ (List.mem_of_getElem? hy), a, b, d, e⟩
  rw [← M.ws, List.getElem?_map, hy]; rfl
theorem RMem.below {w w' : World} {g : Nat} {v : Value} {ls : List RW} {s : C.St} (M : RMem w g v ls s) (hb : Below w.heap.size w w') : RMem w' g v ls s := M.same fun b h => hb.block b (M.foot_lt h)
theorem RMem.c1 {w : World} {g : Nat} {v : Value} {ls : List RW} {s : C.St} (M : RMem w g v ls s) : w.cell? ⟨g, 1001, none⟩ = some v := by
  obtain ⟨cs, hb, hc⟩ := M.blk
  exact (blk_cell hb 1001).trans hc.row
set_option maxRecDepth 100000 in
set_option maxHeartbeats 4000000 in
theorem rread_bad (w : World) (g : Nat) (S : Nat → Prop) (s : C.St) (f : Int) (h : Ref w g S s) (he : readE s f ≠ 0) :
    Calls Try.prog 25 #[.pointer (some ⟨g, 0, none⟩), .int .i64 f] w fun e w' => e = .returned (.tuple #[.slice none 0 0, .int .i64 (readE s f)]) ∧ w' = w := by
  have HC : Hid _ := ask_any w g S s f h
  obtain ⟨v, ls, M, hF, hS⟩ := h
  have c1 := M.c1
  obtain ⟨p, c, hv⟩ := OwnR.shape M.row
  rw [hv] at c1
  generalize ls.length = n at *
  have he' : (readE s f == 0) = false := by simpa using he
  generalize readE s f = er at *
  clear M hF hS hv he
  go_enter Try.func25, Try.ntmps25
  go_wp2_with fail
  refine Calls.mono HC.out ?_
  rintro e w1 ⟨rfl, hw⟩
  subst w1
  go_wp2
  go_loopw [7, 8] (fun b i wr => b = .slice none 0 0 ∧ i = .int .i64 0 ∧ wr = w) (fun _ _ _ => 0)
  case atStart => exact ⟨rfl, rfl, rfl⟩
  case round =>
    obtain ⟨rfl, rfl, rfl⟩ := hrel
    by_cases h0 : 0 < n
    · go_wp2
      go_ret2
      exact ⟨rfl, rfl⟩
    · go_wp2
      go_ret2
      exact ⟨rfl, rfl⟩
set_option maxRecDepth 100000 in
set_option maxHeartbeats 4000000 in
theorem rread_ok (w : World) (g : Nat) (S : Nat → Prop) (s : C.St) (f : Nat) (h : Ref w g S s) (hok : s.Ok) (hm : s.made ≤ 1000000) (he : readE s f = 0) :
    Calls Try.prog 25 #[.pointer (some ⟨g, 0, none⟩), .int .i64 (f : Nat)] w fun e w' => (∃ p n c, e = .returned (.tuple #[.slice p n c, .int .i64 0]) ∧ Is w' p n c (C.dat s.ws f)) ∧ Below w.heap.size w w' := by
  have HC : Hid _ := ask_at w g S s f 0 h he
  obtain ⟨v, ls, M, hF, hS⟩ := h
  have hlen := M.len
  have hll : ls.length ≤ 1000000 := by rw [hlen]; exact Nat.le_trans (C.ws_le hok) hm
  have hused : C.used s.ws ≤ 1048576 := Nat.le_trans hok.used hok.room.2
  have hmem : ∀ (k : Nat) (x : C.Wr), s.ws[k]? = some x → x.bytes.length ≤ 1048576 := fun k x hx => Nat.le_trans (C.bytes_le (List.mem_of_getElem? hx)) hused
  have HMM : Hid _ := hmem
  have HDL : Hid (∀ k, (C.dat (s.ws.take k) f).length ≤ 1048576) := fun k => Nat.le_trans (C.dat_le _ _) (Nat.le_trans (C.used_take _ _) hused)
  obtain ⟨p, c, hv⟩ := OwnR.shape M.row
  rw [hv] at M
  have HM : Hid (RMem w g (.slice p ls.length c) ls s) := M
  have HLN : Hid (ls.length = s.ws.length) := hlen
  obtain ⟨n, hn⟩ : ∃ n, n = ls.length := ⟨_, rfl⟩
  rw [← hn] at HM hll
  have HN : Hid _ := hn
  clear M hv hF hS hmem hused hlen hn he
  go_enter Try.func25, Try.ntmps25
  go_wp2_with fail
  refine Calls.mono HC.out ?_
  rintro e w1 ⟨rfl, hw⟩
  subst w1
  go_wp2
  go_loopw [7, 8] (fun b i wr => ∃ k q m d, k ≤ n ∧ i = .int .i64 ((k : Nat) : Int) ∧ b = .slice q m d ∧ Own wr w.heap.size (.slice q m d) (C.dat (s.ws.take k) f) ∧ Below w.heap.size w wr) (fun _ i _ => n - (intOf i).toNat)
  case atStart => exact ⟨0, none, 0, 0, Nat.zero_le _, rfl, rfl, Own.nil _ _, Below.refl _ _⟩
  case round =>
    obtain ⟨k, q, m, d, hk, rfl, rfl, ho, hb⟩ := hrel
    have HO : Hid (Own wr w.heap.size (.slice q m d) (C.dat (s.ws.take k) f)) := ho
    have HB : Hid (Below w.heap.size w wr) := hb
    have HMW : Hid (RMem wr g (.slice p n c) ls s) := RMem.below HM.out hb
    have c1 := RMem.c1 HMW.out
    clear ho hb
    by_cases hlt : k < n
    · obtain ⟨rb, x, u, hp, hnc, hcm, hx, hsx, hox, x0, x1, _, _⟩ := RMem.get HMW.out HN.out hlt
      subst hp
      obtain ⟨q2, m2, d2, rfl, hi2⟩ := Own.is hox
      have hm2 : m2 = x.bytes.length := hi2.1
      have hcm' : c ≤ 9223372036854775807 := Nat.le_trans hcm (by decide)
      have HX : Hid (Part.ok wr ⟨q2, x.bytes, d2⟩) := hi2.2
      have HSX : Hid _ := hsx
      have HXL : Hid (x.bytes.length ≤ 1048576) := HMM.out k x hsx
      have HDK : Hid _ := HDL.out k
      clear hi2 hsx hox hx hcm
      have hki : (k : Int) < (n : Int) := by omega
      by_cases hf : x.file = f
      · have hfi : ((x.file : Int) == (f : Int)) = true := by simp [hf]
        have hDN : C.dat (s.ws.take (k + 1)) f = C.dat (s.ws.take k) f ++ x.bytes := by rw [C.dat_snoc HSX.out, if_pos hf]
        have HDN : Hid _ := hDN
        have HNL : Hid ((C.dat (s.ws.take k) f).length + x.bytes.length ≤ 100000000) := by show _ ≤ _; have := HXL.out; have := HDK.out; omega
        subst hm2
        clear hDN hf
        generalize x.file = xf at *
        go_wp2_with (at_builtin; go_must (refine wpList_append_part rfl _ _ rfl w.heap.size _ (C.dat (s.ws.take k) f) rfl HO.out ⟨q2, x.bytes, d2⟩ rfl HX.out HNL.out (HB.out : Below _ _ _).size ?_); intro v3 w3 ho3 hg3; obtain ⟨p3, n3, c3, rfl, _⟩ := Own.is ho3)
        have HO3 : Hid _ := ho3
        have HB3 : Hid (Below w.heap.size w w3) := Own.grown HO.out HB.out (HB.out : Below _ _ _).size hg3
        clear ho3 hg3
        go_roundw
        case rel => exact ⟨k + 1, p3, n3, c3, by omega, by go_num, rfl, by rw [HDN.out]; exact HO3.out, HB3.out⟩
        case measure => simp [intOf]; omega
      · have hfi : ((x.file : Int) == (f : Int)) = false := by simp; omega
        have hDN : C.dat (s.ws.take (k + 1)) f = C.dat (s.ws.take k) f := by rw [C.dat_snoc HSX.out, if_neg hf, List.append_nil]
        have HDN : Hid _ := hDN
        clear hDN hf
        generalize x.file = xf at *
        go_wp2
        go_roundw
        case rel => exact ⟨k + 1, q, m, d, by omega, by go_num, rfl, by rw [HDN.out]; exact HO.out, HB.out⟩
        case measure => simp [intOf]; omega
    · obtain rfl : k = n := by omega
      have hI := Own.is HO.out
      rw [List.take_of_length_le (by rw [← HLN.out, ← HN.out]; exact Nat.le_refl _)] at hI
      have HI : Hid _ := hI
      clear hI
      go_wp2
      go_ret2
      obtain ⟨p5, n5, c5, hv5, hi5⟩ := HI.out
      cases hv5
      exact ⟨⟨q, m, d, rfl, hi5⟩, HB.out⟩
end Go.Proofs.Ytlfcpgncgldieaa
