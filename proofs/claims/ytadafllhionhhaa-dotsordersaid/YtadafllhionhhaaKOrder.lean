/-
  DotsOrder: dots in whatever order are the same; merged either way, too. (Over what Merge does, handed in as a premise.)
-/
import Derived.Test.YtadafllhionhhaaTSame
import Derived.Test.YtadafllhionhhaaTArg
namespace Go.Proofs.Ytadafllhionhhaa
open Go.RowKit Go.Lib
set_option linter.unusedVariables false

/-- What Merge does among some dots beside each other. -/
def MergeDoes : Prop := ∀ (L1 L2 : List DObj) (w0 w : World) (g : Nat) (v : Value) (s s' : C.Ds) (o2 : DObj), Objs w0 w (L1 ++ ⟨g, v, s⟩ :: L2) → o2 ∈ L1 ++ ⟨g, v, s⟩ :: L2 → s.l.length + o2.s.l.length ≤ 1000 → C.mergeS s o2.s = s' →
    Calls Try.prog 24 #[.pointer (some ⟨g, 0, none⟩), .pointer (some ⟨o2.g, 0, none⟩)] w fun e w' => e = .returned (.int .i64 0) ∧ ∃ v', Objs w0 w' (L1 ++ ⟨g, v', s'⟩ :: L2)
namespace C
theorem merge_all {s : Ds} (h : s.Ok) (m : List Dt) : mergeS s (addAll zeroS m) = addAll s m :=
  canon (merge_ok h (all_ok m _ zero_ok)) (all_ok m _ h) fun x => by
    rw [Bool.eq_iff_iff, merge_mem h (all_ok m _ zero_ok), all_mem x m s h, all_mem x m zeroS zero_ok, zero_mem]
    simp
theorem all_lenS : ∀ (m : List Dt) (s : Ds), s.Ok → lenS s ≤ lenS (addAll s m)
  | [], s, _ => Int.le_refl _
  | d :: t, s, h => by
    have e : addAll s (d :: t) = addAll (addM s d) t := rfl
    have h1 := all_lenS t (addM s d) (addM_ok h d)
    have h2 := lenM h d
    rw [e]
    split at h2 <;> omega
theorem add_take {l : List Dt} {k : Nat} {x : Dt} (hx : l[k]? = some x) : addAll zeroS (l.take (k + 1)) = addM (addAll zeroS (l.take k)) x := by rw [take_snoc hx, all_snoc]
theorem take_small (l : List Dt) (k n : Nat) (h : l.length ≤ n) : (addAll zeroS (l.take k)).l.length ≤ n := by
  have h1 := all_len (l.take k) zeroS
  have h2 := List.length_take_le' k l
  have h4 : zeroS.l.length = 0 := rfl
  omega
end C
set_option maxRecDepth 100000 in
set_option maxHeartbeats 8000000 in
theorem order_walk (HMD : MergeDoes) (pa : Option Addr) (l : List C.Dt) (ca : Nat) (pb : Option Addr) (m : List C.Dt) (cb : Nat) (w : World) (ha : ArgD w pa l) (hla : l.length ≤ maxLen) (hb : ArgD w pb m) (hlb : m.length ≤ maxLen) :
    Calls Try.prog 6 #[.slice pa l.length ca, .slice pb m.length cb] w fun e w' => e = .returned (.bool true) ∧ Below w.heap.size w w' := by
  have HMG : Hid MergeDoes := HMD
  have HA : Hid (ArgD w pa l) := ha
  have HB : Hid (ArgD w pb m) := hb
  clear ha hb HMD
  unfold maxLen at hla hlb
  obtain ⟨n, hn⟩ : ∃ n, n = l.length := ⟨_, rfl⟩
  have HN : Hid (n = l.length) := hn
  obtain ⟨q, hq⟩ : ∃ q, q = m.length := ⟨_, rfl⟩
  have HQ : Hid (q = m.length) := hq
  rw [← hn] at hla ⊢
  rw [← hq] at hlb ⊢
  clear hn hq
  by_cases hbig : 60 < n
  · go_enter Try.func6, Try.ntmps6
    go_wp2_with fail
    refine (awake_any _).mono ?_
    rintro e w1 ⟨rfl, hb1⟩
    have HB1 : Hid (Below w.heap.size w w1) := hb1
    clear hb1
    go_wp2
    go_ret
    exact ⟨rfl, HB1.out⟩
  by_cases hbig2 : 60 < q
  · go_enter Try.func6, Try.ntmps6
    go_wp2_with fail
    refine (awake_any _).mono ?_
    rintro e w1 ⟨rfl, hb1⟩
    have HB1 : Hid (Below w.heap.size w w1) := hb1
    clear hb1
    go_wp2
    go_ret
    exact ⟨rfl, HB1.out⟩
  have HL60 : Hid (l.length ≤ 60) := by have := HN.out; show _ ≤ _; omega
  have HM60 : Hid (m.length ≤ 60) := by have := HQ.out; show _ ≤ _; omega
  have HR60 : Hid (l.reverse.length ≤ 60) := by show _ ≤ _; rw [List.length_reverse]; exact HL60.out
  go_enter Try.func6, Try.ntmps6
  go_wp2_with fail
  refine (awake_any _).mono ?_
  rintro e w1 ⟨rfl, hb1⟩
  go_wp2_with fail
  refine (o_new (Objs.nil hb1)).mono ?_
  rintro e w2 ⟨ga, rfl, h2, -⟩
  go_wp2_with fail
  refine (o_new h2).mono ?_
  rintro e w3 ⟨gb, rfl, h3, -⟩
  go_wp2_with fail
  refine (o_new h3).mono ?_
  rintro e w4 ⟨gc, rfl, h4, -⟩
  go_wp2_with fail
  refine (o_new h4).mono ?_
  rintro e w5 ⟨gd, rfl, h5, -⟩
  have H5 : Hid (Objs w w5 [⟨ga, .slice none 0 0, C.addAll C.zeroS (l.take 0)⟩, ⟨gb, .slice none 0 0, C.addAll C.zeroS (l.reverse.take 0)⟩, ⟨gc, .slice none 0 0, C.addAll C.zeroS (l.take 0)⟩, ⟨gd, .slice none 0 0, C.zeroS⟩]) := h5
  clear hb1 h2 h3 h4 h5
  go_wp2_with fail
  go_loopw [9] (fun s9 wr => ∃ (k : Nat) (va vb vc : Value), s9 = .int .i64 k ∧ k ≤ n ∧ Hid (Objs w wr [⟨ga, va, C.addAll C.zeroS (l.take k)⟩, ⟨gb, vb, C.addAll C.zeroS (l.reverse.take k)⟩, ⟨gc, vc, C.addAll C.zeroS (l.take k)⟩, ⟨gd, .slice none 0 0, C.zeroS⟩])) (fun s9 _ => n - (intOf s9).toNat)
  case atStart => exact ⟨0, _, _, _, rfl, Nat.zero_le _, H5.out⟩
  case round =>
    clear H5
    obtain ⟨k, va, vb, vc, rfl, hkn, HO⟩ := hrel
    by_cases hlt : k < n
    · obtain ⟨x, hx⟩ : ∃ x, l[k]? = some x := ⟨_, List.getElem?_eq_getElem (by have := HN.out; omega)⟩
      obtain ⟨j, hj0⟩ : ∃ j, n = k + 1 + j := ⟨n - (k + 1), by omega⟩
      have HJ : Hid (n = k + 1 + j) := hj0
      have hjn : j < n := by omega
      clear hj0
      obtain ⟨y, hy⟩ : ∃ y, l[j]? = some y := ⟨_, List.getElem?_eq_getElem (by have := HN.out; omega)⟩
      have hyr : l.reverse[k]? = some y := by
        rw [List.getElem?_reverse (by have := HN.out; omega), ← hy]
        congr 1
        have := HN.out; have := HJ.out; omega
      obtain ⟨b, o, rfl, hc⟩ := HA.out (by have := HN.out; omega)
      have HXA : Hid (C.addAll C.zeroS (l.take (k + 1)) = C.addM (C.addAll C.zeroS (l.take k)) x) := C.add_take hx
      have HYA : Hid (C.addAll C.zeroS (l.reverse.take (k + 1)) = C.addM (C.addAll C.zeroS (l.reverse.take k)) y) := C.add_take hyr
      obtain ⟨a0, a1⟩ := hc k x hx
      obtain ⟨b0, b1⟩ := hc j y hy
      have HCX : Hid (∀ W, Below w.heap.size w W → W.cell? ⟨b, o + k * 2, none⟩ = some (.int .i64 x.1) ∧ W.cell? ⟨b, o + k * 2 + 1, none⟩ = some (.int .i64 x.2)) := fun W hW => ⟨(hW.cell (p := ⟨b, o + k * 2, none⟩) (World.block_lt_of_cell? _ _ a0)).trans a0, (hW.cell (p := ⟨b, o + k * 2 + 1, none⟩) (World.block_lt_of_cell? _ _ a1)).trans a1⟩
      have HCY : Hid (∀ W, Below w.heap.size w W → W.cell? ⟨b, o + j * 2, none⟩ = some (.int .i64 y.1) ∧ W.cell? ⟨b, o + j * 2 + 1, none⟩ = some (.int .i64 y.2)) := fun W hW => ⟨(hW.cell (p := ⟨b, o + j * 2, none⟩) (World.block_lt_of_cell? _ _ b0)).trans b0, (hW.cell (p := ⟨b, o + j * 2 + 1, none⟩) (World.block_lt_of_cell? _ _ b1)).trans b1⟩
      have HKA : Hid ((C.addAll C.zeroS (l.take k)).l.length < 1000) := Nat.lt_of_le_of_lt (C.take_small l k 60 HL60.out) (by decide)
      have HKB : Hid ((C.addAll C.zeroS (l.reverse.take k)).l.length < 1000) := Nat.lt_of_le_of_lt (C.take_small l.reverse k 60 HR60.out) (by decide)
      clear hc a0 a1 b0 b1 hx hy hyr
      obtain ⟨x1, x2⟩ := x
      obtain ⟨y1, y2⟩ := y
      obtain ⟨c0, c1⟩ := HCX.out _ HO.out.bel
      simp only at c0 c1
      go_wp2_with fail
      refine (o_add [] _ ga va _ _ x1 x2 _ _ HO.out HKA.out rfl rfl rfl).mono ?_
      rintro e w6 ⟨rfl, ⟨va2, h6⟩, -⟩
      rw [← HXA.out] at h6
      have H6 : Hid (Objs w w6 ([⟨ga, va2, C.addAll C.zeroS (l.take (k + 1))⟩] ++ ⟨gb, vb, C.addAll C.zeroS (l.reverse.take k)⟩ :: [⟨gc, vc, C.addAll C.zeroS (l.take k)⟩, ⟨gd, .slice none 0 0, C.zeroS⟩])) := h6
      clear h6 HO c0 c1
      obtain ⟨c0, c1⟩ := HCY.out _ H6.out.bel
      try simp only at c0 c1
      have hix : (n : Int) - 1 - (k : Int) = (j : Int) := by have := HJ.out; omega
      go_wp2_with fail
      refine (o_add [⟨ga, va2, C.addAll C.zeroS (l.take (k + 1))⟩] _ gb vb _ _ y1 y2 _ _ H6.out HKB.out rfl rfl rfl).mono ?_
      rintro e w7 ⟨rfl, ⟨vb2, h7⟩, -⟩
      rw [← HYA.out] at h7
      have H7 : Hid (Objs w w7 ([⟨ga, va2, C.addAll C.zeroS (l.take (k + 1))⟩, ⟨gb, vb2, C.addAll C.zeroS (l.reverse.take (k + 1))⟩] ++ ⟨gc, vc, C.addAll C.zeroS (l.take k)⟩ :: [⟨gd, .slice none 0 0, C.zeroS⟩])) := h7
      clear h7 H6 c0 c1 hix
      obtain ⟨c0, c1⟩ := HCX.out _ H7.out.bel
      try simp only at c0 c1
      go_wp2_with fail
      refine (o_add [⟨ga, va2, C.addAll C.zeroS (l.take (k + 1))⟩, ⟨gb, vb2, C.addAll C.zeroS (l.reverse.take (k + 1))⟩] _ gc vc _ _ x1 x2 _ _ H7.out HKA.out rfl rfl rfl).mono ?_
      rintro e w8 ⟨rfl, ⟨vc2, h8⟩, -⟩
      rw [← HXA.out] at h8
      have H8 : Hid (Objs w w8 [⟨ga, va2, C.addAll C.zeroS (l.take (k + 1))⟩, ⟨gb, vb2, C.addAll C.zeroS (l.reverse.take (k + 1))⟩, ⟨gc, vc2, C.addAll C.zeroS (l.take (k + 1))⟩, ⟨gd, .slice none 0 0, C.zeroS⟩]) := h8
      clear h8 H7 c0 c1
      go_wp2
      go_roundw
      case rel => exact ⟨k + 1, va2, vb2, vc2, by go_num, by omega, H8.out⟩
      case measure => simp [intOf]; omega
    · obtain rfl : k = n := by omega
      have htk : l.take k = l := List.take_of_length_le (by have := HN.out; omega)
      have htr : l.reverse.take k = l.reverse := List.take_of_length_le (by rw [List.length_reverse]; have := HN.out; omega)
      have hrev : C.addAll C.zeroS l.reverse = C.addAll C.zeroS l := C.all_perm fun x => by simp
      rw [htk, htr, hrev] at HO
      have HAL : Hid ((C.addAll C.zeroS l).l.length ≤ 60) := by
        have := C.take_small l l.length 60 HL60.out
        rwa [List.take_of_length_le (Nat.le_refl _)] at this
      have HAO : Hid (C.addAll C.zeroS l).Ok := C.all_ok l _ C.zero_ok
      obtain ⟨A, hA⟩ : ∃ A, A = C.addAll C.zeroS l := ⟨_, rfl⟩
      rw [← hA] at HO HAL HAO
      have HO0 : Hid (Objs w wr [⟨ga, va, A⟩, ⟨gb, vb, A⟩, ⟨gc, vc, A⟩, ⟨gd, .slice none 0 0, C.addAll C.zeroS (m.take 0)⟩]) := HO.out
      clear htk htr hrev hA HO
      go_wp2_with fail
      go_loopw [10] (fun s10 wr => ∃ (j : Nat) (vd : Value), s10 = .int .i64 j ∧ j ≤ q ∧ Hid (Objs w wr [⟨ga, va, A⟩, ⟨gb, vb, A⟩, ⟨gc, vc, A⟩, ⟨gd, vd, C.addAll C.zeroS (m.take j)⟩])) (fun s10 _ => q - (intOf s10).toNat)
      case atStart => exact ⟨0, _, rfl, Nat.zero_le _, HO0.out⟩
      case round =>
        clear HO0
        obtain ⟨j, vd, rfl, hjq, HO⟩ := hrel
        by_cases hlt2 : j < q
        · obtain ⟨x, hx⟩ : ∃ x, m[j]? = some x := ⟨_, List.getElem?_eq_getElem (by have := HQ.out; omega)⟩
          obtain ⟨b, o, rfl, hc⟩ := HB.out (by have := HQ.out; omega)
          have HXA : Hid (C.addAll C.zeroS (m.take (j + 1)) = C.addM (C.addAll C.zeroS (m.take j)) x) := C.add_take hx
          obtain ⟨a0, a1⟩ := hc j x hx
          have c0 := (HO.out.bel.cell (p := ⟨b, o + j * 2, none⟩) (World.block_lt_of_cell? _ _ a0)).trans a0
          have c1 := (HO.out.bel.cell (p := ⟨b, o + j * 2 + 1, none⟩) (World.block_lt_of_cell? _ _ a1)).trans a1
          have HKD : Hid ((C.addAll C.zeroS (m.take j)).l.length < 1000) := Nat.lt_of_le_of_lt (C.take_small m j 60 HM60.out) (by decide)
          clear hc a0 a1 hx
          obtain ⟨x1, x2⟩ := x
          try simp only at c0 c1
          go_wp2_with fail
          refine (o_add [⟨ga, va, A⟩, ⟨gb, vb, A⟩, ⟨gc, vc, A⟩] [] gd vd _ _ x1 x2 _ _ HO.out HKD.out rfl rfl rfl).mono ?_
          rintro e w6 ⟨rfl, ⟨vd2, h6⟩, -⟩
          rw [← HXA.out] at h6
          have H6 : Hid (Objs w w6 [⟨ga, va, A⟩, ⟨gb, vb, A⟩, ⟨gc, vc, A⟩, ⟨gd, vd2, C.addAll C.zeroS (m.take (j + 1))⟩]) := h6
          clear h6 HO c0 c1
          go_wp2
          go_roundw
          case rel => exact ⟨j + 1, vd2, by go_num, by omega, H6.out⟩
          case measure => simp [intOf]; omega
        · obtain rfl : j = q := by omega
          have htm : m.take j = m := List.take_of_length_le (by have := HQ.out; omega)
          rw [htm] at HO
          have HDL : Hid ((C.addAll C.zeroS m).l.length ≤ 60) := by
            have := C.take_small m m.length 60 HM60.out
            rwa [List.take_of_length_le (Nat.le_refl _)] at this
          have HDO : Hid (C.addAll C.zeroS m).Ok := C.all_ok m _ C.zero_ok
          have HME : Hid (C.mergeS A (C.addAll C.zeroS m) = C.addAll A m) := C.merge_all HAO.out m
          have HMC : Hid (C.mergeS (C.addAll C.zeroS m) A = C.addAll A m) := by show _ = _; rw [C.merge_comm HDO.out HAO.out]; exact HME.out
          have HML : Hid ((C.addAll A m).l.length ≤ 120) := by
            have h1 := C.all_len m A
            have h2 := HAL.out
            have h3 := HM60.out
            show _ ≤ _
            omega
          have HLE : Hid (C.lenS A ≤ C.lenS (C.addAll A m)) := C.all_lenS m A HAO.out
          have HMO : Hid (C.addAll A m).Ok := C.all_ok m A HAO.out
          obtain ⟨M, hM⟩ : ∃ M, M = C.addAll A m := ⟨_, rfl⟩
          obtain ⟨D, hD⟩ : ∃ D, D = C.addAll C.zeroS m := ⟨_, rfl⟩
          rw [← hM] at HME HMC HML HLE HMO
          rw [← hD] at HME HMC HDL HDO HO
          clear htm hM hD
          have hfa := (HO.out.at_ ⟨ga, va, A⟩ (by simp)).1
          have hfb := (HO.out.at_ ⟨gb, vb, A⟩ (by simp)).1
          go_wp2_with fail
          refine (same_any wr ga gb A A va vb true hfa hfb (by have := HAL.out; omega) ((sameS_iff A A).2 rfl)).mono ?_
          rintro e w6 ⟨rfl, hb6⟩
          have H6 : Hid (Objs w w6 ([⟨ga, va, A⟩, ⟨gb, vb, A⟩] ++ ⟨gc, vc, A⟩ :: [⟨gd, vd, D⟩])) := HO.out.below hb6
          clear hb6 HO hfa hfb
          go_wp2_with fail
          refine (HMG.out [⟨ga, va, A⟩, ⟨gb, vb, A⟩] [⟨gd, vd, D⟩] w w6 gc vc A M ⟨gd, vd, D⟩ H6.out (by simp) (by have h1 := HAL.out; have h2 := HDL.out; simp only; omega) HME.out).mono ?_
          rintro e w7 ⟨rfl, vc2, h7⟩
          have H7 : Hid (Objs w w7 ([⟨ga, va, A⟩, ⟨gb, vb, A⟩, ⟨gc, vc2, M⟩] ++ ⟨gd, vd, D⟩ :: [])) := h7
          clear h7 H6
          go_wp2_with fail
          refine (HMG.out [⟨ga, va, A⟩, ⟨gb, vb, A⟩, ⟨gc, vc2, M⟩] [] w w7 gd vd D M ⟨ga, va, A⟩ H7.out (by simp) (by have h1 := HAL.out; have h2 := HDL.out; simp only; omega) HMC.out).mono ?_
          rintro e w8 ⟨rfl, vd2, h8⟩
          have H8 : Hid (Objs w w8 [⟨ga, va, A⟩, ⟨gb, vb, A⟩, ⟨gc, vc2, M⟩, ⟨gd, vd2, M⟩]) := h8
          clear h8 H7
          have hfc := (H8.out.at_ ⟨gc, vc2, M⟩ (by simp)).1
          have hfd := (H8.out.at_ ⟨gd, vd2, M⟩ (by simp)).1
          go_wp2_with fail
          refine (same_any w8 gc gd M M vc2 vd2 true hfc hfd (by have := HML.out; omega) ((sameS_iff M M).2 rfl)).mono ?_
          rintro e w9 ⟨rfl, hb9⟩
          have H9 : Hid (Objs w w9 [⟨ga, va, A⟩, ⟨gb, vb, A⟩, ⟨gc, vc2, M⟩, ⟨gd, vd2, M⟩]) := H8.out.below hb9
          clear hb9 H8 hfc hfd
          obtain ⟨zm, hzm⟩ : ∃ zm, C.lenS M = zm := ⟨_, rfl⟩
          obtain ⟨za, hza⟩ : ∃ za, C.lenS A = za := ⟨_, rfl⟩
          have hle : za ≤ zm := by rw [← hzm, ← hza]; exact HLE.out
          have HZM : Hid (C.lenS M = zm) := hzm
          have HZA : Hid (C.lenS A = za) := hza
          clear hzm hza
          go_wp2_with fail
          refine (o_len [⟨ga, va, A⟩, ⟨gb, vb, A⟩] [⟨gd, vd2, M⟩] gc vc2 M zm H9.out (by have := HML.out; omega) HZM.out).mono ?_
          rintro e w10 ⟨rfl, hw⟩
          subst hw
          go_wp2_with fail
          refine (o_len [] [⟨gb, vb, A⟩, ⟨gc, vc2, M⟩, ⟨gd, vd2, M⟩] ga va A za H9.out (by have := HAL.out; omega) HZA.out).mono ?_
          rintro e w11 ⟨rfl, hw⟩
          subst hw
          go_wp2
          go_ret
          exact ⟨ret_bool (by simp), H9.out.bel⟩
end Go.Proofs.Ytadafllhionhhaa
