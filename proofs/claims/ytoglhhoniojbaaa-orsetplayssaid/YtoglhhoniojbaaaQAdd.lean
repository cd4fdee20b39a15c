/-
  The document's own set: Add.
-/
import Derived.Test.YtoglhhoniojbaaaZ6
import Derived.Test.YtoglhhoniojbaaaZ2
namespace Go.Proofs.Ytoglhhoniojbaaa
open Go.RowKit Go.Lib
set_option linter.unusedVariables false
set_option linter.unusedSimpArgs false

namespace C
theorem gone_snoc {r : List RemE} {k : Nat} {e : RemE} (he : r[k]? = some e) (x : Tx) (d : Dt) : goneR (r.take (k + 1)) x d = (goneR (r.take k) x d || (decide (e.x = x) && hasd e.v d)) := by
  unfold goneR
  rw [List.take_add_one, he]
  simp
theorem find_at {l : List AddE} {k : Nat} {e : AddE} {d : Dt} (hk : ∀ j z, j < k → l[j]? = some z → z.d ≠ d) (he : l[k]? = some e) (hd : e.d = d) : findA l d = some e := by
  have h1 : l = l.take k ++ e :: l.drop (k + 1) := by
    have h2 := List.take_append_drop k l
    have h3 : l.drop k = e :: l.drop (k + 1) := by
      obtain ⟨hlt, hg⟩ := List.getElem?_eq_some_iff.1 he
      rw [List.drop_eq_getElem_cons hlt, hg]
    rw [h3] at h2
    exact h2.symm
  have h4 : (l.take k).find? (fun e => decide (e.d = d)) = none := by
    rw [List.find?_eq_none]
    intro z hz
    obtain ⟨j, hj⟩ := List.getElem?_of_mem hz
    have hjk : j < k := by
      have := (List.getElem?_eq_some_iff.1 hj).1
      rw [List.length_take] at this
      omega
    rw [List.getElem?_take_of_lt hjk] at hj
    simpa using hk j z hjk hj
  unfold findA
  rw [h1, List.find?_append, h4]
  simp [hd]
end C
theorem add_set {w : World} {ga : Nat} {d1 d2 : Int} {x : Tx} {q : Bool} (v : Bool) (h : w.heap[ga]? = some (.cells #[.int .i64 d1, .int .i64 d2, .string x, .bool q] 82)) : (w.setCell ⟨ga, 3, none⟩ (.bool v)).heap[ga]? = some (.cells #[.int .i64 d1, .int .i64 d2, .string x, .bool v] 82) := by
  have := set_block (o := 3) (v := .bool v) h
  simpa using this
set_option maxRecDepth 100000 in
set_option maxHeartbeats 16000000 in
theorem qadd_any (w : World) (g : Nat) (vl vr : Value) (R : C.Rf) (x : Tx) (d1 d2 : Int) (h : RsAt w g vl vr R) (hx : x.size ≤ maxLen) (hl : R.l.length ≤ 1000 ∧ R.r.length ≤ 1000) :
    Calls Try.prog 16 #[.pointer (some ⟨g, 0, none⟩), .agg #[.int .i64 d1, .int .i64 d2], .string x] w fun e w' => e = .returned (.int .i64 (C.errF R (d1, d2) x)) ∧ RsRet w g vl vr (C.addF R (d1, d2) x) w' := by
  obtain ⟨gd, hgd⟩ : ∃ gd, gd = w.heap.size := ⟨_, rfl⟩
  obtain ⟨W1, hW1⟩ : ∃ W1, W1 = w.alloc (.cells #[.int .i64 d1, .int .i64 d2] 31) := ⟨_, rfl⟩
  have HB1 : Hid (Below w.heap.size w W1) := by show Below _ _ _; rw [hW1]; exact below_new _ _
  have HD1 : Hid (W1.heap[gd]? = some (.cells #[.int .i64 d1, .int .i64 d2] 31)) := by show _ = _; rw [hW1, hgd]; exact heap_alloc_new _ _
  have HS : Hid (RsAt w g vl vr R) := h
  have HX : Hid (x.size ≤ maxLen) := hx
  have hxm : x.size ≤ 9223372036854775807 := by unfold maxLen at hx; omega
  have HL : Hid (R.l.length ≤ 1000 ∧ R.r.length ≤ 1000) := hl
  obtain ⟨zm, hzm⟩ : ∃ zm, C.may (d1, d2) = zm := ⟨_, rfl⟩
  have HM : Hid (∀ W, Calls Try.prog 44 #[.agg #[.int .i64 d1, .int .i64 d2]] W fun e w' => e = .returned (.bool zm) ∧ Below W.heap.size W w') := fun W => by rw [← hzm]; exact rmay_any d1 d2 W
  have HZM : Hid (C.may (d1, d2) = zm) := hzm
  obtain ⟨pl, cl, hvl, hpl⟩ := h.lo.slice
  obtain ⟨pr, cr, hvr, hpr⟩ := h.ro.slice
  obtain ⟨n, hn⟩ : ∃ n, n = R.l.length := ⟨_, rfl⟩
  obtain ⟨m, hm⟩ : ∃ m, m = R.r.length := ⟨_, rfl⟩
  rw [← hn] at hvl hpl
  rw [← hm] at hvr hpr
  have HN : Hid (n = R.l.length) := hn
  have HNM : Hid (m = R.r.length) := hm
  have HPL : Hid (0 < n → ∃ g, pl = some ⟨g, 0, none⟩) := hpl
  have HPR : Hid (0 < m → ∃ g, pr = some ⟨g, 0, none⟩) := hpr
  subst hvl hvr
  have hn1000 : n ≤ 1000 := by rw [hn]; exact hl.1
  have hm1000 : m ≤ 1000 := by rw [hm]; exact hl.2
  clear h hx hzm hpl hpr hn hm hl
  have q0 := box2 HD1.out
  rw [hW1] at q0
  obtain ⟨y0, y1⟩ := q0
  go_enter Try.func16, Try.ntmps16
  go_wp2_with fail
  rw [← hgd]
  rw [← hW1]
  clear y0 y1 hW1 hgd
  refine (HM.out _).mono ?_
  rintro e w2 ⟨rfl, hb2⟩
  have HB2 : Hid (Below w.heap.size w w2) := bt HB1.out hb2
  have HD2 : Hid (w2.heap[gd]? = some (.cells #[.int .i64 d1, .int .i64 d2] 31)) := keep_on hb2 HD1.out
  clear hb2 HM
  cases zm with
  | false =>
    have HR : Hid (C.errF R (d1, d2) x = 1 ∧ C.addF R (d1, d2) x = R) := by
      have h1 := HZM.out
      refine ⟨?_, ?_⟩
      · unfold C.errF; rw [if_neg (fun k => by rw [h1] at k; cases k.1)]
      · unfold C.addF; rw [if_neg (fun k => by rw [h1] at k; cases k.1)]
    go_wp2
    go_ret
    rw [HR.out.1, HR.out.2]
    exact ⟨rfl, RsRet.same HS.out HB2.out⟩
  | true =>
    by_cases hlong : 100 < x.size
    · have HR : Hid (C.errF R (d1, d2) x = 1 ∧ C.addF R (d1, d2) x = R) := by
        have h1 : C.tooLong x = true := decide_eq_true hlong
        refine ⟨?_, ?_⟩
        · unfold C.errF; rw [if_neg (fun k => by rw [h1] at k; cases k.2)]
        · unfold C.addF; rw [if_neg (fun k => by rw [h1] at k; cases k.2.1)]
      go_wp2
      go_ret
      rw [HR.out.1, HR.out.2]
      exact ⟨rfl, RsRet.same HS.out HB2.out⟩
    have HTL : Hid (C.tooLong x = false) := decide_eq_false hlong
    go_wp2_with fail
    go_loopw [7] (fun s7 wr => ∃ (k : Nat), s7 = .int .i64 k ∧ k ≤ n ∧ Hid (∀ j z, j < k → R.l[j]? = some z → z.d ≠ (d1, d2)) ∧ Hid (Below w2.heap.size w2 wr)) (fun s7 _ => n - (intOf s7).toNat)
    case atStart => exact ⟨0, rfl, Nat.zero_le _, (fun j z hj => absurd hj (Nat.not_lt_zero _)), Below.refl _ _⟩
    case round =>
      obtain ⟨k, rfl, hkn, HK, HB⟩ := hrel
      have c0 := (HS.out.below (bt HB2.out HB.out)).cells.1
      by_cases hlt : k < n
      · obtain ⟨z, hz⟩ : ∃ z, R.l[k]? = some z := ⟨_, List.getElem?_eq_getElem (by have := HN.out; omega)⟩
        obtain ⟨gl, rfl⟩ := HPL.out (by omega)
        have HZ : Hid (R.l[k]? = some z) := hz
        have hne : Nonempty (NewW wr) := ⟨NewW.start wr⟩
        have a0 : ∀ t : NewW wr, t.v.cell? ⟨g, 0, none⟩ = some (.slice (some ⟨gl, 0, none⟩) n cl) := fun t => (HS.out.below (bt HB2.out (bt HB.out t.h))).cells.1
        have a1 : ∀ t : NewW wr, t.v.cell? ⟨gl, k * 4, none⟩ = some (.int .i64 z.d.1) := fun t => OwnG.cell encE_len (HS.out.below (bt HB2.out (bt HB.out t.h))).lo hz (j := 0) (by decide) rfl
        have a2 : ∀ t : NewW wr, t.v.cell? ⟨gl, k * 4 + 1, none⟩ = some (.int .i64 z.d.2) := fun t => OwnG.cell encE_len (HS.out.below (bt HB2.out (bt HB.out t.h))).lo hz (j := 1) (by decide) rfl
        have b0 : ∀ t : NewW wr, t.v.cell? ⟨gd, 0, none⟩ = some (.int .i64 d1) := fun t => (box2 (keep_on (bt HB.out t.h) HD2.out)).1
        have b1 : ∀ t : NewW wr, t.v.cell? ⟨gd, 1, none⟩ = some (.int .i64 d2) := fun t => (box2 (keep_on (bt HB.out t.h) HD2.out)).2
        have a3 : wr.cell? ⟨gl, k * 4 + 2, none⟩ = some (.string z.x) := OwnG.cell encE_len (HS.out.below (bt HB2.out HB.out)).lo hz (j := 2) (by decide) rfl
        clear hz
        obtain ⟨⟨e1, e2⟩, y, gn⟩ := z
        simp only at a1 a2 a3
        obtain ⟨qb, hqb⟩ : ∃ qb, qb = (e1 == d1 && e2 == d2) := ⟨_, rfl⟩
        have kq : ∀ W, (Op.equalIn 10000 31 (.agg #[.int .i64 e1, .int .i64 e2]) (.agg #[.int .i64 d1, .int .i64 d2])).run Try.prog W = .ok qb W := fun W => by rw [hqb]; exact eq2_dot e1 e2 d1 d2 W
        have HQB : Hid (qb = true ↔ e1 = d1 ∧ e2 = d2) := by show _ ↔ _; rw [hqb]; simp
        clear hqb
        cases qb with
        | false =>
          go_wp2_with fail
          refine wp_region_new (by kernel_rfl) (by kernel_rfl) ?_
          repeat (go_big_quiet_step (fail))
          refine wpQuiet_nil ?_
          rintro _ ⟨w6, rfl⟩
          have HB6 : Hid (Below w2.heap.size w2 w6.v) := bt HB.out w6.h
          have HK6 : Hid (∀ j z, j < k + 1 → R.l[j]? = some z → z.d ≠ (d1, d2)) := fun j z hj hz => by
            by_cases hjk : j = k
            · subst hjk
              rw [HZ.out] at hz
              cases hz
              intro ee
              have := HQB.out.2 ⟨congrArg Prod.fst ee, congrArg Prod.snd ee⟩
              cases this
            · exact HK.out j z (by omega) hz
          clear a0 a1 a2 a3 b0 b1 hne kq c0 HK HB
          go_wp2
          go_roundw
          case rel => exact ⟨k + 1, by go_num, by omega, HK6.out, HB6.out⟩
          case measure => simp [intOf]; omega
        | true =>
          have HFA : Hid (C.findA R.l (d1, d2) = some ⟨(e1, e2), y, gn⟩) := C.find_at HK.out HZ.out (by obtain ⟨h1, h2⟩ := HQB.out.1 (by trivial); rw [h1, h2])
          obtain ⟨zs, hzs⟩ : ∃ zs, (y.toList == x.toList) = zs := ⟨_, rfl⟩
          have HZS : Hid (zs = decide (y = x)) := by show _ = _; rw [← hzs, tx_eq]
          have HR : Hid (C.errF R (d1, d2) x = (if zs = true then 0 else 5) ∧ C.addF R (d1, d2) x = R) := by
            refine ⟨?_, ?_⟩
            · unfold C.errF
              rw [if_pos ⟨HZM.out, HTL.out⟩, HFA.out, HZS.out]
              simp
            · unfold C.addF
              rw [if_neg]
              rintro ⟨-, -, k3⟩
              rw [HFA.out] at k3; cases k3
          go_wp2_with fail
          refine wp_region_new (by kernel_rfl) (by kernel_rfl) ?_
          repeat (go_big_quiet_step (fail))
          refine wpQuiet_nil ?_
          rintro _ ⟨w6, rfl⟩
          have HB6 : Hid (Below w.heap.size w w6.v) := bt HB2.out (bt HB.out w6.h)
          have c6 := a0 w6
          have c7 : w6.v.cell? ⟨gl, k * 4 + 2, none⟩ = some (.string y) := (w6.h.cell (p := ⟨gl, k * 4 + 2, none⟩) (World.block_lt_of_cell? _ _ a3)).trans a3
          clear a0 a1 a2 a3 b0 b1 hne kq c0 HK HB
          generalize w6.v = w7 at *
          clear w6
          cases zs with
          | true =>
            go_wp2
            go_ret
            rw [HR.out.1, HR.out.2]
            exact ⟨rfl, RsRet.same HS.out HB6.out⟩
          | false =>
            go_wp2
            go_ret
            rw [HR.out.1, HR.out.2]
            exact ⟨rfl, RsRet.same HS.out HB6.out⟩
      · obtain rfl : k = n := by omega
        have HFN : Hid (C.findA R.l (d1, d2) = none) := by
          show _ = _
          rw [C.find_none]
          intro z hz
          obtain ⟨j, hj⟩ := List.getElem?_of_mem hz
          exact HK.out j z (by have := (List.getElem?_eq_some_iff.1 hj).1; have := HN.out; omega) hj
        have HR : Hid (C.errF R (d1, d2) x = 0 ∧ C.addF R (d1, d2) x = ⟨R.l ++ [⟨(d1, d2), x, C.goneR R.r x (d1, d2)⟩], R.r⟩) := by
          refine ⟨?_, ?_⟩
          · unfold C.errF
            rw [if_pos ⟨HZM.out, HTL.out⟩, HFN.out]
          · unfold C.addF
            rw [if_pos ⟨HZM.out, HTL.out, HFN.out⟩]
        have HD3 := keep_on HB.out HD2.out
        obtain ⟨y0, y1⟩ := box2 HD3
        obtain ⟨ga, hga⟩ : ∃ ga, ga = wr.heap.size := ⟨_, rfl⟩
        obtain ⟨W4, hW4⟩ : ∃ W4, W4 = wr.alloc (.cells #[.int .i64 d1, .int .i64 d2, .string x, .bool false] 82) := ⟨_, rfl⟩
        have HB4 : Hid (Below wr.heap.size wr W4) := by show Below _ _ _; rw [hW4]; exact below_new _ _
        have HA4 : Hid (W4.heap[ga]? = some (.cells #[.int .i64 d1, .int .i64 d2, .string x, .bool (C.goneR (R.r.take 0) x (d1, d2))] 82)) := by show _ = _; rw [hW4, hga]; exact heap_alloc_new _ _
        have HWR : Hid (Below w.heap.size w wr) := bt HB2.out HB.out
        have HDR : Hid (wr.heap[gd]? = some (.cells #[.int .i64 d1, .int .i64 d2] 31)) := HD3
        have HGA : Hid (wr.heap.size ≤ ga) := Nat.le_of_eq hga.symm
        clear HK HB HD3 hlt
        go_wp2_with fail
        rw [← hW4]
        rw [← hga]
        clear y0 y1 hW4 hga c0
        obtain ⟨W3, hW3⟩ : ∃ W3, W3 = wr := ⟨_, rfl⟩
        subst hW3
        go_loopw [9] (fun s9 w9 => ∃ (j : Nat), s9 = .int .i64 j ∧ j ≤ m ∧ Hid (Below W3.heap.size W3 w9) ∧ Hid (w9.heap[ga]? = some (.cells #[.int .i64 d1, .int .i64 d2, .string x, .bool (C.goneR (R.r.take j) x (d1, d2))] 82))) (fun s9 _ => m - (intOf s9).toNat)
        case atStart => exact ⟨0, rfl, Nat.zero_le _, HB4.out, HA4.out⟩
        case round =>
          clear HB4 HA4
          obtain ⟨j, rfl, hjm, HB, HA⟩ := hrel
          have c1 := (HS.out.below (bt HWR.out HB.out)).cells.2
          by_cases hlt : j < m
          · obtain ⟨z, hz⟩ : ∃ z, R.r[j]? = some z := ⟨_, List.getElem?_eq_getElem (by have := HNM.out; omega)⟩
            obtain ⟨gr, rfl⟩ := HPR.out (by omega)
            have HZ : Hid (R.r[j]? = some z) := hz
            have hlz : (j : Int) < (m : Int) := by omega
            have hne : Nonempty (NewW W3) := ⟨NewW.start W3⟩
            have k1 : ∀ t : NewW W3, t.v.cell? ⟨g, 1, none⟩ = some (.slice (some ⟨gr, 0, none⟩) m cr) := fun t => (HS.out.below (bt HWR.out t.h)).cells.2
            have b0 : ∀ t : NewW W3, t.v.cell? ⟨gd, 0, none⟩ = some (.int .i64 d1) := fun t => (box2 (keep_on t.h HDR.out)).1
            have b1 : ∀ t : NewW W3, t.v.cell? ⟨gd, 1, none⟩ = some (.int .i64 d2) := fun t => (box2 (keep_on t.h HDR.out)).2
            have r0 : ∀ t : NewW W3, t.v.cell? ⟨gr, j * 8, none⟩ = some (.string z.x) := fun t => OwnG.cell encR_len (HS.out.below (bt HWR.out t.h)).ro hz (j := 0) (by decide) rfl
            have r1 : ∀ t : NewW W3, t.v.cell? ⟨gr, j * 8 + 1, none⟩ = some (.int .i64 z.v.x0) := fun t => OwnG.cell encR_len (HS.out.below (bt HWR.out t.h)).ro hz (j := 1) (by decide) rfl
            have r2 : ∀ t : NewW W3, t.v.cell? ⟨gr, j * 8 + 1 + 1, none⟩ = some (.int .i64 z.v.x1) := fun t => OwnG.cell encR_len (HS.out.below (bt HWR.out t.h)).ro hz (j := 2) (by decide) rfl
            have r3 : ∀ t : NewW W3, t.v.cell? ⟨gr, j * 8 + 1 + 2, none⟩ = some (.int .i64 z.v.x2) := fun t => OwnG.cell encR_len (HS.out.below (bt HWR.out t.h)).ro hz (j := 3) (by decide) rfl
            have r4 : ∀ t : NewW W3, t.v.cell? ⟨gr, j * 8 + 1 + 3, none⟩ = some (.int .i64 z.v.x3) := fun t => OwnG.cell encR_len (HS.out.below (bt HWR.out t.h)).ro hz (j := 4) (by decide) rfl
            have r5 : ∀ t : NewW W3, t.v.cell? ⟨gr, j * 8 + 1 + 4, none⟩ = some (.int .i64 z.v.x4) := fun t => OwnG.cell encR_len (HS.out.below (bt HWR.out t.h)).ro hz (j := 5) (by decide) rfl
            have r6 : ∀ t : NewW W3, t.v.cell? ⟨gr, j * 8 + 1 + 5, none⟩ = some (.int .i64 z.v.x5) := fun t => OwnG.cell encR_len (HS.out.below (bt HWR.out t.h)).ro hz (j := 6) (by decide) rfl
            have r7 : ∀ t : NewW W3, t.v.cell? ⟨gr, j * 8 + 1 + 6, none⟩ = some (.int .i64 z.v.x6) := fun t => OwnG.cell encR_len (HS.out.below (bt HWR.out t.h)).ro hz (j := 7) (by decide) rfl
            clear hz
            have HSN : Hid (C.goneR (R.r.take (j + 1)) x (d1, d2) = (C.goneR (R.r.take j) x (d1, d2) || (decide (z.x = x) && C.has z.v d1 d2))) := C.gone_snoc HZ.out x (d1, d2)
            obtain ⟨qg, hqg⟩ : ∃ qg, qg = C.goneR (R.r.take j) x (d1, d2) := ⟨_, rfl⟩
            rw [← hqg] at HA HSN
            obtain ⟨qh, hqh⟩ : ∃ qh, C.has z.v d1 d2 = qh := ⟨_, rfl⟩
            have HH : Hid (∀ W, Calls Try.prog 45 #[z.v.v, .agg #[.int .i64 d1, .int .i64 d2]] W fun e w' => e = .returned (.bool qh) ∧ Below W.heap.size W w') := fun W => by rw [← hqh]; exact rhas_any z.v d1 d2 W
            rw [hqh] at HSN
            clear hqg hqh
            obtain ⟨zx, ⟨z0, z1, z2, z3, z4, z5, z6⟩⟩ := z
            simp only [V7.v] at r0 r1 r2 r3 r4 r5 r6 r7 HH
            obtain ⟨qx, hqx⟩ : ∃ qx, (zx.toList == x.toList) = qx := ⟨_, rfl⟩
            have HQX : Hid (qx = decide (zx = x)) := by show _ = _; rw [← hqx, tx_eq]
            have hBw : Below W3.heap.size W3 wr.drew := HB.out.drew
            have hA0 : wr.drew.heap[ga]? = some (.cells #[.int .i64 d1, .int .i64 d2, .string x, .bool qg] 82) := HA.out
            have g0 : wr.drew.cell? ⟨ga, 3, none⟩ = some (.bool qg) := by simp [World.cell?, hA0]
            have f0 : wr.drew.frozen? ⟨ga, 3, none⟩ = false := by simp [World.frozen?, hA0]
            have HA0 : Hid (wr.drew.heap[ga]? = some (.cells #[.int .i64 d1, .int .i64 d2, .string x, .bool qg] 82)) := hA0
            clear hA0
            go_wp2_with fail
            have hC : ∃ t : NewW W3, wr.drew = t.v := ⟨⟨_, hBw⟩, rfl⟩
            refine wp_region_held_drew (S := fun w' => ∃ t : NewW W3, w' = t.v) (by kernel_rfl) hC (fun _ => ?_)
            generalize hw0 : wr.drew = w0 at *
            clear hw0 c1

            refine takeList (i := 0) rfl (by kernel_rfl) (by kernel_rfl) (by kernel_rfl) (fun _ _ _ _ h => h) rfl rfl hC (fun K hK => ?_)
            go_big_quiet_op
            refine hK _ ?_
            clear hK K
            refine callList (i := 1) rfl (by kernel_rfl) rfl (fun K hK => ?_)
            go_simp
            refine hK.out _ _ hC ?_
            try go_simp
            clear hK K
            cases qg with
            | true =>
              refine takeList (i := 2) rfl (by kernel_rfl) (by kernel_rfl) (by kernel_rfl) (fun _ _ _ _ h => h) rfl rfl hC (fun K hK => ?_)
              go_big_quiet_op
              refine hK _ ?_
              clear hK K
              refine takeSkip (i := 3) rfl (by kernel_rfl) (by kernel_rfl) (by kernel_rfl) (fun _ _ _ _ h => h) rfl hC ?_
              go_simp
              refine takeSkip (i := 4) rfl (by kernel_rfl) (by kernel_rfl) (by kernel_rfl) (fun _ _ _ _ h => h) rfl hC ?_
              go_simp
              refine takeSkip (i := 5) rfl (by kernel_rfl) (by kernel_rfl) (by kernel_rfl) (fun _ _ _ _ h => h) rfl hC ?_
              go_simp
              refine takeSkip (i := 6) rfl (by kernel_rfl) (by kernel_rfl) (by kernel_rfl) (fun _ _ _ _ h => h) rfl hC ?_
              go_simp
              refine takeSkip (i := 7) rfl (by kernel_rfl) (by kernel_rfl) (by kernel_rfl) (fun _ _ _ _ h => h) rfl hC ?_
              go_simp
              refine takeSkip (i := 8) rfl (by kernel_rfl) (by kernel_rfl) (by kernel_rfl) (fun _ _ _ _ h => h) rfl hC ?_
              go_simp
              refine takeSkip (i := 9) rfl (by kernel_rfl) (by kernel_rfl) (by kernel_rfl) (fun _ _ _ _ h => h) rfl hC ?_
              go_simp
              refine takeSkip (i := 10) rfl (by kernel_rfl) (by kernel_rfl) (by kernel_rfl) (fun _ _ _ _ h => h) rfl hC ?_
              go_simp
              refine takeSkip (i := 11) rfl (by kernel_rfl) (by kernel_rfl) (by kernel_rfl) (fun _ _ _ _ h => h) rfl hC ?_
              go_simp
              refine takeSkip (i := 12) rfl (by kernel_rfl) (by kernel_rfl) (by kernel_rfl) (fun _ _ _ _ h => h) rfl hC ?_
              go_simp
              refine takeSkip (i := 13) rfl (by kernel_rfl) (by kernel_rfl) (by kernel_rfl) (fun _ _ _ _ h => h) rfl hC ?_
              go_simp
              refine takeSkip (i := 14) rfl (by kernel_rfl) (by kernel_rfl) (by kernel_rfl) (fun _ _ _ _ h => h) rfl hC ?_
              go_simp
              refine takeSkip (i := 15) rfl (by kernel_rfl) (by kernel_rfl) (by kernel_rfl) (fun _ _ _ _ h => h) rfl hC ?_
              go_simp
              refine takeSkip (i := 16) rfl (by kernel_rfl) (by kernel_rfl) (by kernel_rfl) (fun _ _ _ _ h => h) rfl hC ?_
              go_simp
              refine takeSkip (i := 17) rfl (by kernel_rfl) (by kernel_rfl) (by kernel_rfl) (fun _ _ _ _ h => h) rfl hC ?_
              go_simp
              refine takeSkip (i := 18) rfl (by kernel_rfl) (by kernel_rfl) (by kernel_rfl) (fun _ _ _ _ h => h) rfl hC ?_
              go_simp
              refine takeSkip (i := 19) rfl (by kernel_rfl) (by kernel_rfl) (by kernel_rfl) (fun _ _ _ _ h => h) rfl hC ?_
              go_simp
              refine takeSkip (i := 20) rfl (by kernel_rfl) (by kernel_rfl) (by kernel_rfl) (fun _ _ _ _ h => h) rfl hC ?_
              go_simp
              refine takeSkip (i := 21) rfl (by kernel_rfl) (by kernel_rfl) (by kernel_rfl) (fun _ _ _ _ h => h) rfl hC ?_
              go_simp
              refine takeSkip (i := 22) rfl (by kernel_rfl) (by kernel_rfl) (by kernel_rfl) (fun _ _ _ _ h => h) rfl hC ?_
              go_simp
              refine takeSkip (i := 23) rfl (by kernel_rfl) (by kernel_rfl) (by kernel_rfl) (fun _ _ _ _ h => h) rfl hC ?_
              go_simp
              refine takeSkip (i := 24) rfl (by kernel_rfl) (by kernel_rfl) (by kernel_rfl) (fun _ _ _ _ h => h) rfl hC ?_
              go_simp
              refine takeList (i := 25) rfl (by kernel_rfl) (by kernel_rfl) (by kernel_rfl) (fun _ _ _ _ h => h) rfl rfl hC (fun K hK => ?_)
              go_big_quiet_op
              refine hK _ ?_
              clear hK K
              refine takeList (i := 26) rfl (by kernel_rfl) (by kernel_rfl) (by kernel_rfl) (fun _ _ _ _ h => h) rfl rfl hC (fun K hK => ?_)
              go_big_quiet_op
              refine hK _ ?_
              clear hK K
              refine callList (i := 27) rfl (by kernel_rfl) rfl (fun K hK => ?_)
              go_simp
              have HBE : Hid (Below W3.heap.size W3 (w0.setCell ⟨ga, 3, none⟩ (.bool true))) := Below.setCell hBw HGA.out _
              have HAE : Hid ((w0.setCell ⟨ga, 3, none⟩ (.bool true)).heap[ga]? = some (.cells #[.int .i64 d1, .int .i64 d2, .string x, .bool true] 82)) := add_set _ HA0.out
              refine hK.out _ _ ⟨⟨_, HBE.out⟩, rfl⟩ ?_
              clear hK K hC hne k1 b0 b1 r0 r1 r2 r3 r4 r5 r6 r7 g0 f0 hBw
              refine wpAnyH_done (by kernel_rfl) ?_ _
              go_wp2
              go_roundw
              case rel => exact ⟨j + 1, by go_num, by omega, HBE.out, by show _ = _; rw [HSN.out]; first | exact HAE.out | (have := HQX.out; simp only [Bool.true_or, Bool.false_or, Bool.true_and, Bool.false_and, ← this]; exact HAE.out)⟩
              case measure => simp [intOf]; omega
            | false =>
              refine takeList (i := 2) rfl (by kernel_rfl) (by kernel_rfl) (by kernel_rfl) (fun _ _ _ _ h => h) rfl rfl hC (fun K hK => ?_)
              go_big_quiet_op
              refine hK _ ?_
              clear hK K
              refine takeList (i := 3) rfl (by kernel_rfl) (by kernel_rfl) (by kernel_rfl) (fun _ _ _ _ h => h) rfl rfl hC (fun K hK => ?_)
              go_big_quiet_op
              refine hK _ ?_
              clear hK K
              refine takeNil (i := 4) rfl rfl rfl (by kernel_rfl) (by kernel_rfl) (by kernel_rfl) (fun _ _ _ _ h => h) rfl hC ?_
              go_simp
              refine takeList (i := 5) rfl (by kernel_rfl) (by kernel_rfl) (by kernel_rfl) (fun _ _ _ _ h => h) rfl rfl hC (fun K hK => ?_)
              go_big_quiet_op
              refine hK _ ?_
              clear hK K
              refine takeList (i := 6) rfl (by kernel_rfl) (by kernel_rfl) (by kernel_rfl) (fun _ _ _ _ h => h) rfl rfl hC (fun K hK => ?_)
              go_big_quiet_op
              refine hK _ ?_
              clear hK K
              refine takeList (i := 7) rfl (by kernel_rfl) (by kernel_rfl) (by kernel_rfl) (fun _ _ _ _ h => h) rfl rfl hC (fun K hK => ?_)
              go_big_quiet_op
              refine hK _ ?_
              clear hK K
              refine takeList (i := 8) rfl (by kernel_rfl) (by kernel_rfl) (by kernel_rfl) (fun _ _ _ _ h => h) rfl rfl hC (fun K hK => ?_)
              go_big_quiet_op
              refine hK _ ?_
              clear hK K
              refine takeList (i := 9) rfl (by kernel_rfl) (by kernel_rfl) (by kernel_rfl) (fun _ _ _ _ h => h) rfl rfl hC (fun K hK => ?_)
              go_big_quiet_op
              refine hK _ ?_
              clear hK K
              refine takeList (i := 10) rfl (by kernel_rfl) (by kernel_rfl) (by kernel_rfl) (fun _ _ _ _ h => h) rfl rfl hC (fun K hK => ?_)
              go_big_quiet_op
              refine hK _ ?_
              clear hK K
              refine takeList (i := 11) rfl (by kernel_rfl) (by kernel_rfl) (by kernel_rfl) (fun _ _ _ _ h => h) rfl rfl hC (fun K hK => ?_)
              go_big_quiet_op
              refine hK _ ?_
              clear hK K
              refine takeList (i := 12) rfl (by kernel_rfl) (by kernel_rfl) (by kernel_rfl) (fun _ _ _ _ h => h) rfl rfl hC (fun K hK => ?_)
              go_big_quiet_op
              refine hK _ ?_
              clear hK K
              refine takeList (i := 13) rfl (by kernel_rfl) (by kernel_rfl) (by kernel_rfl) (fun _ _ _ _ h => h) rfl rfl hC (fun K hK => ?_)
              go_big_quiet_op
              refine hK _ ?_
              clear hK K
              cases qx with
              | false =>
                refine takeSkip (i := 14) rfl (by kernel_rfl) (by kernel_rfl) (by kernel_rfl) (fun _ _ _ _ h => h) rfl hC ?_
                go_simp
                refine takeSkip (i := 15) rfl (by kernel_rfl) (by kernel_rfl) (by kernel_rfl) (fun _ _ _ _ h => h) rfl hC ?_
                go_simp
                refine takeSkip (i := 16) rfl (by kernel_rfl) (by kernel_rfl) (by kernel_rfl) (fun _ _ _ _ h => h) rfl hC ?_
                go_simp
                refine takeSkip (i := 17) rfl (by kernel_rfl) (by kernel_rfl) (by kernel_rfl) (fun _ _ _ _ h => h) rfl hC ?_
                go_simp
                refine takeSkip (i := 18) rfl (by kernel_rfl) (by kernel_rfl) (by kernel_rfl) (fun _ _ _ _ h => h) rfl hC ?_
                go_simp
                refine takeSkip (i := 19) rfl (by kernel_rfl) (by kernel_rfl) (by kernel_rfl) (fun _ _ _ _ h => h) rfl hC ?_
                go_simp
                refine takeSkip (i := 20) rfl (by kernel_rfl) (by kernel_rfl) (by kernel_rfl) (fun _ _ _ _ h => h) rfl hC ?_
                go_simp
                refine takeSkip (i := 21) rfl (by kernel_rfl) (by kernel_rfl) (by kernel_rfl) (fun _ _ _ _ h => h) rfl hC ?_
                go_simp
                refine takeSkip (i := 22) rfl (by kernel_rfl) (by kernel_rfl) (by kernel_rfl) (fun _ _ _ _ h => h) rfl hC ?_
                go_simp
                refine takeSkip (i := 23) rfl (by kernel_rfl) (by kernel_rfl) (by kernel_rfl) (fun _ _ _ _ h => h) rfl hC ?_
                go_simp
                refine takeList (i := 24) rfl (by kernel_rfl) (by kernel_rfl) (by kernel_rfl) (fun _ _ _ _ h => h) rfl rfl hC (fun K hK => ?_)
                go_big_quiet_op
                refine hK _ ?_
                clear hK K
                refine takeList (i := 25) rfl (by kernel_rfl) (by kernel_rfl) (by kernel_rfl) (fun _ _ _ _ h => h) rfl rfl hC (fun K hK => ?_)
                go_big_quiet_op
                refine hK _ ?_
                clear hK K
                refine takeList (i := 26) rfl (by kernel_rfl) (by kernel_rfl) (by kernel_rfl) (fun _ _ _ _ h => h) rfl rfl hC (fun K hK => ?_)
                go_big_quiet_op
                refine hK _ ?_
                clear hK K
                refine callList (i := 27) rfl (by kernel_rfl) rfl (fun K hK => ?_)
                go_simp
                have HBE : Hid (Below W3.heap.size W3 (w0.setCell ⟨ga, 3, none⟩ (.bool false))) := Below.setCell hBw HGA.out _
                have HAE : Hid ((w0.setCell ⟨ga, 3, none⟩ (.bool false)).heap[ga]? = some (.cells #[.int .i64 d1, .int .i64 d2, .string x, .bool false] 82)) := add_set _ HA0.out
                refine hK.out _ _ ⟨⟨_, HBE.out⟩, rfl⟩ ?_
                clear hK K hC hne k1 b0 b1 r0 r1 r2 r3 r4 r5 r6 r7 g0 f0 hBw
                refine wpAnyH_done (by kernel_rfl) ?_ _
                go_wp2
                go_roundw
                case rel => exact ⟨j + 1, by go_num, by omega, HBE.out, by show _ = _; rw [HSN.out]; first | exact HAE.out | (have := HQX.out; simp only [Bool.true_or, Bool.false_or, Bool.true_and, Bool.false_and, ← this]; exact HAE.out)⟩
                case measure => simp [intOf]; omega
              | true =>
                refine takeList (i := 14) rfl (by kernel_rfl) (by kernel_rfl) (by kernel_rfl) (fun _ _ _ _ h => h) rfl rfl hC (fun K hK => ?_)
                go_big_quiet_op
                refine hK _ ?_
                clear hK K
                refine takeNil (i := 15) rfl rfl rfl (by kernel_rfl) (by kernel_rfl) (by kernel_rfl) (fun _ _ _ _ h => h) rfl hC ?_
                go_simp
                refine takeList (i := 16) rfl (by kernel_rfl) (by kernel_rfl) (by kernel_rfl) (fun _ _ _ _ h => h) rfl rfl hC (fun K hK => ?_)
                go_big_quiet_op
                refine hK _ ?_
                clear hK K
                refine takeList (i := 17) rfl (by kernel_rfl) (by kernel_rfl) (by kernel_rfl) (fun _ _ _ _ h => h) rfl rfl hC (fun K hK => ?_)
                go_big_quiet_op
                refine hK _ ?_
                clear hK K
                refine takeList (i := 18) rfl (by kernel_rfl) (by kernel_rfl) (by kernel_rfl) (fun _ _ _ _ h => h) rfl rfl hC (fun K hK => ?_)
                go_big_quiet_op
                refine hK _ ?_
                clear hK K
                refine takeList (i := 19) rfl (by kernel_rfl) (by kernel_rfl) (by kernel_rfl) (fun _ _ _ _ h => h) rfl rfl hC (fun K hK => ?_)
                go_big_quiet_op
                refine hK _ ?_
                clear hK K
                refine takeList (i := 20) rfl (by kernel_rfl) (by kernel_rfl) (by kernel_rfl) (fun _ _ _ _ h => h) rfl rfl hC (fun K hK => ?_)
                go_big_quiet_op
                refine hK _ ?_
                clear hK K
                refine takeList (i := 21) rfl (by kernel_rfl) (by kernel_rfl) (by kernel_rfl) (fun _ _ _ _ h => h) rfl rfl hC (fun K hK => ?_)
                go_big_quiet_op
                refine hK _ ?_
                clear hK K
                refine takeList (i := 22) rfl (by kernel_rfl) (by kernel_rfl) (by kernel_rfl) (fun _ _ _ _ h => h) rfl rfl hC (fun K hK => ?_)
                go_big_quiet_op
                refine hK _ ?_
                clear hK K
                refine callList (i := 23) rfl (by kernel_rfl) rfl (fun K hK => ?_)
                go_simp
                refine (HH.out _).mono ?_
                rintro e wa ⟨rfl, hk⟩
                replace hBw := bt hBw hk
                have HA1 : Hid (wa.heap[ga]? = some (.cells #[.int .i64 d1, .int .i64 d2, .string x, .bool false] 82)) := keep_on hk HA0.out
                have hA1 := HA1.out
                clear g0 f0 HA0
                have g0 : wa.cell? ⟨ga, 3, none⟩ = some (.bool false) := by simp [World.cell?, hA1]
                have f0 : wa.frozen? ⟨ga, 3, none⟩ = false := by simp [World.frozen?, hA1]
                have HA0 := HA1
                clear hA1
                refine hK.out _ _ ⟨⟨_, hBw⟩, rfl⟩ ?_
                try go_simp
                clear hK K hC hk
                have hC : ∃ m : NewW W3, wa = m.v := ⟨⟨_, hBw⟩, rfl⟩
                refine takeList (i := 24) rfl (by kernel_rfl) (by kernel_rfl) (by kernel_rfl) (fun _ _ _ _ h => h) rfl rfl hC (fun K hK => ?_)
                go_big_quiet_op
                refine hK _ ?_
                clear hK K
                refine takeList (i := 25) rfl (by kernel_rfl) (by kernel_rfl) (by kernel_rfl) (fun _ _ _ _ h => h) rfl rfl hC (fun K hK => ?_)
                go_big_quiet_op
                refine hK _ ?_
                clear hK K
                refine takeList (i := 26) rfl (by kernel_rfl) (by kernel_rfl) (by kernel_rfl) (fun _ _ _ _ h => h) rfl rfl hC (fun K hK => ?_)
                go_big_quiet_op
                refine hK _ ?_
                clear hK K
                refine callList (i := 27) rfl (by kernel_rfl) rfl (fun K hK => ?_)
                go_simp
                have HBE : Hid (Below W3.heap.size W3 (wa.setCell ⟨ga, 3, none⟩ (.bool qh))) := Below.setCell hBw HGA.out _
                have HAE : Hid ((wa.setCell ⟨ga, 3, none⟩ (.bool qh)).heap[ga]? = some (.cells #[.int .i64 d1, .int .i64 d2, .string x, .bool qh] 82)) := add_set _ HA0.out
                refine hK.out _ _ ⟨⟨_, HBE.out⟩, rfl⟩ ?_
                clear hK K hC hne k1 b0 b1 r0 r1 r2 r3 r4 r5 r6 r7 g0 f0 hBw
                refine wpAnyH_done (by kernel_rfl) ?_ _
                go_wp2
                go_roundw
                case rel => exact ⟨j + 1, by go_num, by omega, HBE.out, by show _ = _; rw [HSN.out]; first | exact HAE.out | (have := HQX.out; simp only [Bool.true_or, Bool.false_or, Bool.true_and, Bool.false_and, ← this]; exact HAE.out)⟩
                case measure => simp [intOf]; omega
          · obtain ⟨wc, hwc⟩ : ∃ wc, wc = wr := ⟨_, rfl⟩
            subst hwc
            obtain rfl : j = m := by omega
            have HSW : Hid (∀ W, Below wc.heap.size wc W → RsAt W g (.slice pl k cl) (.slice pr j cr) R) := fun W hW => HS.out.below (bt HWR.out (bt HB.out hW))
            have HBC : Hid (Below w.heap.size w wc) := bt HWR.out HB.out
            obtain ⟨zg, hzg⟩ : ∃ zg, C.goneR R.r x (d1, d2) = zg := ⟨_, rfl⟩
            have HAF : Hid (wc.heap[ga]? = some (.cells #[.int .i64 d1, .int .i64 d2, .string x, .bool zg] 82)) := by
              have h1 := HA.out
              rw [List.take_of_length_le (by have := HNM.out; omega), hzg] at h1
              exact h1
            rw [hzg] at HR
            have hneg : ga ≠ g := fun e => by have := HS.out.lt (Or.inl rfl); have h2 := HGA.out; have h3 := HWR.out.size; omega
            have HSRC : Hid (∀ W, Below wc.heap.size wc W → SrcAt W 4 (.slice pl k cl) R.l.length (rowG encE R.l)) := fun W hW => (HSW.out W hW).lo.src
            clear hzg HA HB HGA
            go_wp2_with fail
            have hne : Nonempty (NewT wc g) := ⟨NewT.start wc g⟩
            have k0 : ∀ t : NewT wc g, t.v.cell? ⟨ga, 0, none⟩ = some (.int .i64 d1) := fun t => by have h1 := t.block HAF.out hneg; simp [World.cell?, h1]
            have k1 : ∀ t : NewT wc g, t.v.cell? ⟨ga, 1, none⟩ = some (.int .i64 d2) := fun t => by have h1 := t.block HAF.out hneg; simp [World.cell?, h1]
            have k2 : ∀ t : NewT wc g, t.v.cell? ⟨ga, 2, none⟩ = some (.string x) := fun t => by have h1 := t.block HAF.out hneg; simp [World.cell?, h1]
            have k3 : ∀ t : NewT wc g, t.v.cell? ⟨ga, 3, none⟩ = some (.bool zg) := fun t => by have h1 := t.block HAF.out hneg; simp [World.cell?, h1]
            have hC : ∃ m : NewT wc g, wc.drew = m.v := NewT.of g ((Below.refl _ wc).drew)
            refine wp_region_held_drew (S := fun w' => ∃ m : NewT wc g, w' = m.v) (by kernel_rfl) hC (fun _ => ?_)
            have hB : Below wc.heap.size wc wc.drew := (Below.refl _ wc).drew
            generalize hW0 : wc.drew = W0 at *
            clear hW0
            refine takeList (i := 0) rfl (by kernel_rfl) (by kernel_rfl) (by kernel_rfl) (fun _ _ _ _ h => h) rfl rfl hC (fun K hK => ?_)
            go_big_quiet_op
            refine hK _ ?_
            clear hK K
            refine takeList (i := 2) rfl (by kernel_rfl) (by kernel_rfl) (by kernel_rfl) (fun _ _ _ _ h => h) rfl rfl hC (fun K hK => ?_)
            go_big_quiet_op
            refine hK _ ?_
            clear hK K
            refine takeNil (i := 3) rfl rfl rfl (by kernel_rfl) (by kernel_rfl) (by kernel_rfl) (fun _ _ _ _ h => h) rfl hC ?_
            go_simp
            refine takeList (i := 4) rfl (by kernel_rfl) (by kernel_rfl) (by kernel_rfl) (fun _ _ _ _ h => h) rfl rfl hC (fun K hK => ?_)
            go_big_quiet_op
            refine hK _ ?_
            clear hK K
            refine takeList (i := 7) rfl (by kernel_rfl) (by kernel_rfl) (by kernel_rfl) (fun _ _ _ _ h => h) rfl rfl hC (fun K hK => ?_)
            go_big_quiet_op
            refine hK _ ?_
            clear hK K
            clear k0 k1 k2 k3
            refine wpAnyH_ready (rs := [1, 5, 8]) (by kernel_rfl) (by simp) (AllReadyH.cons (at_of_drop (i := 1) rfl) (fun K hK => ?_) (AllReadyH.cons (at_of_drop (i := 5) rfl) (fun K hK => ?_) (AllReadyH.cons (at_of_drop (i := 8) rfl) (fun K hK => ?_) AllReadyH.nil)))
            · rw [if_pos (by rfl)]
              go_simp
              have hal := below_new W0 (.cells #[] 82)
              have hr := OwnG.empty (enc := encE) W0 82 4
              obtain ⟨vr, hvr⟩ : ∃ vr, Value.slice (some ⟨W0.heap.size, 0, none⟩) 0 0 = vr := ⟨_, rfl⟩
              have hrf : ∀ b, vr.ownBlock = some b → wc.heap.size ≤ b := fun b hb => by rw [← hvr] at hb; cases hb; exact hB.size
              rw [hvr] at hr ⊢
              replace hB := bt hB hal
              refine hK.out _ _ (NewT.of g hB) (fun hC => ?_)
              generalize World.alloc W0 (.cells #[] 82) = Wq1 at *
              clear hK K hal hvr
              refine wpAnyH_ready (rs := [5, 8]) (by kernel_rfl) (by simp) (AllReadyH.cons (at_of_drop (i := 5) rfl) (fun K hK => ?_) (AllReadyH.cons (at_of_drop (i := 8) rfl) (fun K hK => ?_) AllReadyH.nil))
              · rw [if_pos (by rfl)]
                have hg0 := (HSW.out _ hB).cells.1
                go_simp
                refine hK.out _ _ (NewT.of g hB) (fun hC => ?_)
                try go_simp
                clear hg0 hK K
                refine wpAnyH_ready (rs := [6, 8]) (by kernel_rfl) (by simp) (AllReadyH.cons (at_of_drop (i := 6) rfl) (fun K hK => ?_) (AllReadyH.cons (at_of_drop (i := 8) rfl) (fun K hK => ?_) AllReadyH.nil))
                · refine stepG u_adds info_adds (by rfl) (by decide) (by decide) encE_one (ns := R.l) rfl _ _ rfl rfl hr hrf hB rfl (HSRC.out _ hB) (by have := HL.out; simp <;> omega) ?_
                  intro vr Wq2 hr hrf hB hk
                  clear hk
                  refine hK.out _ _ (NewT.of g hB) (fun hC => ?_)
                  try go_simp
                  clear hK K
                  refine wpAnyH_ready (rs := [8]) (by kernel_rfl) (by simp) (AllReadyH.cons (at_of_drop (i := 8) rfl) (fun K hK => ?_) AllReadyH.nil)
                  rw [if_pos (by rfl)]
                  go_simp
                  have hal := below_new Wq2 (.cells #[.int .i64 d1, .int .i64 d2, .string x, .bool zg] 82)
                  obtain ⟨vd, hvd⟩ : ∃ vd, Wq2.heap.size = vd := ⟨_, rfl⟩
                  have hd := heap_alloc_new Wq2 (.cells #[.int .i64 d1, .int .i64 d2, .string x, .bool zg] 82)
                  have hdn : vr.ownBlock ≠ some vd := fun e => by have := OwnG.lt hr e; omega
                  replace hr := OwnG.below hr hal
                  rw [hvd] at hd ⊢
                  replace hB := bt hB hal
                  refine hK.out _ _ (NewT.of g hB) (fun hC => ?_)
                  generalize World.alloc Wq2 (.cells #[.int .i64 d1, .int .i64 d2, .string x, .bool zg] 82) = Wq3 at *
                  clear hK K hal hvd
                  refine wpAnyH_ready (rs := [9]) (by kernel_rfl) (by simp) (AllReadyH.cons (at_of_drop (i := 9) rfl) (fun K hK => ?_) AllReadyH.nil)
                  refine stepG u_adds info_adds (by rfl) (by decide) (by decide) encE_one (ns := [⟨(d1, d2), x, zg⟩]) rfl _ _ rfl rfl hr hrf hB rfl (src_one (x := ⟨(d1, d2), x, zg⟩) encE_len hd) (by have := HL.out; simp <;> omega) ?_
                  intro vr Wq4 hr hrf hB hk
                  clear hk
                  refine hK.out _ _ (NewT.of g hB) (fun hC => ?_)
                  try go_simp
                  clear hK K
                  refine takeNil (i := 10) rfl rfl rfl (by kernel_rfl) (by kernel_rfl) (by kernel_rfl) (fun _ _ _ _ h => h) rfl hC ?_
                  go_simp
                  refine takeList (i := 11) rfl (by kernel_rfl) (by kernel_rfl) (by kernel_rfl) (fun _ _ _ _ h => h) rfl rfl hC (fun K hK => ?_)
                  go_big_quiet_op
                  refine hK _ ?_
                  clear hK K
                  obtain ⟨q9, c9, hv9, -⟩ := OwnG.slice hr
                  subst hv9
                  have hS9 := HSW.out _ hB
                  have hg0 := hS9.cells.1
                  have hf0 := hS9.fz 0
                  refine callList (i := 12) rfl (by kernel_rfl) rfl (fun K hK => ?_)
                  go_simp
                  refine hK.out _ _ (NewT.set g 0 hB _) ?_
                  clear hK K hC hS9 hg0 hf0
                  refine wpAnyH_done (by kernel_rfl) ?_ _
                  go_wp2
                  go_ret
                  rw [HR.out.1, HR.out.2]
                  exact ⟨rfl, RsRet.setL HS.out (bt HBC.out hB) (by simpa using hr) fun b hb => Nat.le_trans HBC.out.size (hrf b (by simpa using hb))⟩
                · rw [if_pos (by rfl)]
                  go_simp
                  have hal := below_new Wq1 (.cells #[.int .i64 d1, .int .i64 d2, .string x, .bool zg] 82)
                  obtain ⟨vd, hvd⟩ : ∃ vd, Wq1.heap.size = vd := ⟨_, rfl⟩
                  have hd := heap_alloc_new Wq1 (.cells #[.int .i64 d1, .int .i64 d2, .string x, .bool zg] 82)
                  have hdn : vr.ownBlock ≠ some vd := fun e => by have := OwnG.lt hr e; omega
                  replace hr := OwnG.below hr hal
                  rw [hvd] at hd ⊢
                  replace hB := bt hB hal
                  refine hK.out _ _ (NewT.of g hB) (fun hC => ?_)
                  generalize World.alloc Wq1 (.cells #[.int .i64 d1, .int .i64 d2, .string x, .bool zg] 82) = Wq2 at *
                  clear hK K hal hvd
                  refine wpAnyH_ready (rs := [6]) (by kernel_rfl) (by simp) (AllReadyH.cons (at_of_drop (i := 6) rfl) (fun K hK => ?_) AllReadyH.nil)
                  refine stepG u_adds info_adds (by rfl) (by decide) (by decide) encE_one (ns := R.l) rfl _ _ rfl rfl hr hrf hB rfl (HSRC.out _ hB) (by have := HL.out; simp <;> omega) ?_
                  intro vr Wq3 hr hrf hB hk
                  replace hd := hk _ _ hd hdn
                  clear hk
                  refine hK.out _ _ (NewT.of g hB) (fun hC => ?_)
                  try go_simp
                  clear hK K
                  refine wpAnyH_ready (rs := [9]) (by kernel_rfl) (by simp) (AllReadyH.cons (at_of_drop (i := 9) rfl) (fun K hK => ?_) AllReadyH.nil)
                  refine stepG u_adds info_adds (by rfl) (by decide) (by decide) encE_one (ns := [⟨(d1, d2), x, zg⟩]) rfl _ _ rfl rfl hr hrf hB rfl (src_one (x := ⟨(d1, d2), x, zg⟩) encE_len hd) (by have := HL.out; simp <;> omega) ?_
                  intro vr Wq4 hr hrf hB hk
                  clear hk
                  refine hK.out _ _ (NewT.of g hB) (fun hC => ?_)
                  try go_simp
                  clear hK K
                  refine takeNil (i := 10) rfl rfl rfl (by kernel_rfl) (by kernel_rfl) (by kernel_rfl) (fun _ _ _ _ h => h) rfl hC ?_
                  go_simp
                  refine takeList (i := 11) rfl (by kernel_rfl) (by kernel_rfl) (by kernel_rfl) (fun _ _ _ _ h => h) rfl rfl hC (fun K hK => ?_)
                  go_big_quiet_op
                  refine hK _ ?_
                  clear hK K
                  obtain ⟨q9, c9, hv9, -⟩ := OwnG.slice hr
                  subst hv9
                  have hS9 := HSW.out _ hB
                  have hg0 := hS9.cells.1
                  have hf0 := hS9.fz 0
                  refine callList (i := 12) rfl (by kernel_rfl) rfl (fun K hK => ?_)
                  go_simp
                  refine hK.out _ _ (NewT.set g 0 hB _) ?_
                  clear hK K hC hS9 hg0 hf0
                  refine wpAnyH_done (by kernel_rfl) ?_ _
                  go_wp2
                  go_ret
                  rw [HR.out.1, HR.out.2]
                  exact ⟨rfl, RsRet.setL HS.out (bt HBC.out hB) (by simpa using hr) fun b hb => Nat.le_trans HBC.out.size (hrf b (by simpa using hb))⟩
              · rw [if_pos (by rfl)]
                go_simp
                have hal := below_new Wq1 (.cells #[.int .i64 d1, .int .i64 d2, .string x, .bool zg] 82)
                obtain ⟨vd, hvd⟩ : ∃ vd, Wq1.heap.size = vd := ⟨_, rfl⟩
                have hd := heap_alloc_new Wq1 (.cells #[.int .i64 d1, .int .i64 d2, .string x, .bool zg] 82)
                have hdn : vr.ownBlock ≠ some vd := fun e => by have := OwnG.lt hr e; omega
                replace hr := OwnG.below hr hal
                rw [hvd] at hd ⊢
                replace hB := bt hB hal
                refine hK.out _ _ (NewT.of g hB) (fun hC => ?_)
                generalize World.alloc Wq1 (.cells #[.int .i64 d1, .int .i64 d2, .string x, .bool zg] 82) = Wq2 at *
                clear hK K hal hvd
                refine wpAnyH_ready (rs := [5]) (by kernel_rfl) (by simp) (AllReadyH.cons (at_of_drop (i := 5) rfl) (fun K hK => ?_) AllReadyH.nil)
                rw [if_pos (by rfl)]
                have hg0 := (HSW.out _ hB).cells.1
                go_simp
                refine hK.out _ _ (NewT.of g hB) (fun hC => ?_)
                try go_simp
                clear hg0 hK K
                refine wpAnyH_ready (rs := [6]) (by kernel_rfl) (by simp) (AllReadyH.cons (at_of_drop (i := 6) rfl) (fun K hK => ?_) AllReadyH.nil)
                refine stepG u_adds info_adds (by rfl) (by decide) (by decide) encE_one (ns := R.l) rfl _ _ rfl rfl hr hrf hB rfl (HSRC.out _ hB) (by have := HL.out; simp <;> omega) ?_
                intro vr Wq3 hr hrf hB hk
                replace hd := hk _ _ hd hdn
                clear hk
                refine hK.out _ _ (NewT.of g hB) (fun hC => ?_)
                try go_simp
                clear hK K
                refine wpAnyH_ready (rs := [9]) (by kernel_rfl) (by simp) (AllReadyH.cons (at_of_drop (i := 9) rfl) (fun K hK => ?_) AllReadyH.nil)
                refine stepG u_adds info_adds (by rfl) (by decide) (by decide) encE_one (ns := [⟨(d1, d2), x, zg⟩]) rfl _ _ rfl rfl hr hrf hB rfl (src_one (x := ⟨(d1, d2), x, zg⟩) encE_len hd) (by have := HL.out; simp <;> omega) ?_
                intro vr Wq4 hr hrf hB hk
                clear hk
                refine hK.out _ _ (NewT.of g hB) (fun hC => ?_)
                try go_simp
                clear hK K
                refine takeNil (i := 10) rfl rfl rfl (by kernel_rfl) (by kernel_rfl) (by kernel_rfl) (fun _ _ _ _ h => h) rfl hC ?_
                go_simp
                refine takeList (i := 11) rfl (by kernel_rfl) (by kernel_rfl) (by kernel_rfl) (fun _ _ _ _ h => h) rfl rfl hC (fun K hK => ?_)
                go_big_quiet_op
                refine hK _ ?_
                clear hK K
                obtain ⟨q9, c9, hv9, -⟩ := OwnG.slice hr
                subst hv9
                have hS9 := HSW.out _ hB
                have hg0 := hS9.cells.1
                have hf0 := hS9.fz 0
                refine callList (i := 12) rfl (by kernel_rfl) rfl (fun K hK => ?_)
                go_simp
                refine hK.out _ _ (NewT.set g 0 hB _) ?_
                clear hK K hC hS9 hg0 hf0
                refine wpAnyH_done (by kernel_rfl) ?_ _
                go_wp2
                go_ret
                rw [HR.out.1, HR.out.2]
                exact ⟨rfl, RsRet.setL HS.out (bt HBC.out hB) (by simpa using hr) fun b hb => Nat.le_trans HBC.out.size (hrf b (by simpa using hb))⟩
            · rw [if_pos (by rfl)]
              have hg0 := (HSW.out _ hB).cells.1
              go_simp
              refine hK.out _ _ (NewT.of g hB) (fun hC => ?_)
              try go_simp
              clear hg0 hK K
              refine wpAnyH_ready (rs := [1, 8]) (by kernel_rfl) (by simp) (AllReadyH.cons (at_of_drop (i := 1) rfl) (fun K hK => ?_) (AllReadyH.cons (at_of_drop (i := 8) rfl) (fun K hK => ?_) AllReadyH.nil))
              · rw [if_pos (by rfl)]
                go_simp
                have hal := below_new W0 (.cells #[] 82)
                have hr := OwnG.empty (enc := encE) W0 82 4
                obtain ⟨vr, hvr⟩ : ∃ vr, Value.slice (some ⟨W0.heap.size, 0, none⟩) 0 0 = vr := ⟨_, rfl⟩
                have hrf : ∀ b, vr.ownBlock = some b → wc.heap.size ≤ b := fun b hb => by rw [← hvr] at hb; cases hb; exact hB.size
                rw [hvr] at hr ⊢
                replace hB := bt hB hal
                refine hK.out _ _ (NewT.of g hB) (fun hC => ?_)
                generalize World.alloc W0 (.cells #[] 82) = Wq1 at *
                clear hK K hal hvr
                refine wpAnyH_ready (rs := [6, 8]) (by kernel_rfl) (by simp) (AllReadyH.cons (at_of_drop (i := 6) rfl) (fun K hK => ?_) (AllReadyH.cons (at_of_drop (i := 8) rfl) (fun K hK => ?_) AllReadyH.nil))
                · refine stepG u_adds info_adds (by rfl) (by decide) (by decide) encE_one (ns := R.l) rfl _ _ rfl rfl hr hrf hB rfl (HSRC.out _ hB) (by have := HL.out; simp <;> omega) ?_
                  intro vr Wq2 hr hrf hB hk
                  clear hk
                  refine hK.out _ _ (NewT.of g hB) (fun hC => ?_)
                  try go_simp
                  clear hK K
                  refine wpAnyH_ready (rs := [8]) (by kernel_rfl) (by simp) (AllReadyH.cons (at_of_drop (i := 8) rfl) (fun K hK => ?_) AllReadyH.nil)
                  rw [if_pos (by rfl)]
                  go_simp
                  have hal := below_new Wq2 (.cells #[.int .i64 d1, .int .i64 d2, .string x, .bool zg] 82)
                  obtain ⟨vd, hvd⟩ : ∃ vd, Wq2.heap.size = vd := ⟨_, rfl⟩
                  have hd := heap_alloc_new Wq2 (.cells #[.int .i64 d1, .int .i64 d2, .string x, .bool zg] 82)
                  have hdn : vr.ownBlock ≠ some vd := fun e => by have := OwnG.lt hr e; omega
                  replace hr := OwnG.below hr hal
                  rw [hvd] at hd ⊢
                  replace hB := bt hB hal
                  refine hK.out _ _ (NewT.of g hB) (fun hC => ?_)
                  generalize World.alloc Wq2 (.cells #[.int .i64 d1, .int .i64 d2, .string x, .bool zg] 82) = Wq3 at *
                  clear hK K hal hvd
                  refine wpAnyH_ready (rs := [9]) (by kernel_rfl) (by simp) (AllReadyH.cons (at_of_drop (i := 9) rfl) (fun K hK => ?_) AllReadyH.nil)
                  refine stepG u_adds info_adds (by rfl) (by decide) (by decide) encE_one (ns := [⟨(d1, d2), x, zg⟩]) rfl _ _ rfl rfl hr hrf hB rfl (src_one (x := ⟨(d1, d2), x, zg⟩) encE_len hd) (by have := HL.out; simp <;> omega) ?_
                  intro vr Wq4 hr hrf hB hk
                  clear hk
                  refine hK.out _ _ (NewT.of g hB) (fun hC => ?_)
                  try go_simp
                  clear hK K
                  refine takeNil (i := 10) rfl rfl rfl (by kernel_rfl) (by kernel_rfl) (by kernel_rfl) (fun _ _ _ _ h => h) rfl hC ?_
                  go_simp
                  refine takeList (i := 11) rfl (by kernel_rfl) (by kernel_rfl) (by kernel_rfl) (fun _ _ _ _ h => h) rfl rfl hC (fun K hK => ?_)
                  go_big_quiet_op
                  refine hK _ ?_
                  clear hK K
                  obtain ⟨q9, c9, hv9, -⟩ := OwnG.slice hr
                  subst hv9
                  have hS9 := HSW.out _ hB
                  have hg0 := hS9.cells.1
                  have hf0 := hS9.fz 0
                  refine callList (i := 12) rfl (by kernel_rfl) rfl (fun K hK => ?_)
                  go_simp
                  refine hK.out _ _ (NewT.set g 0 hB _) ?_
                  clear hK K hC hS9 hg0 hf0
                  refine wpAnyH_done (by kernel_rfl) ?_ _
                  go_wp2
                  go_ret
                  rw [HR.out.1, HR.out.2]
                  exact ⟨rfl, RsRet.setL HS.out (bt HBC.out hB) (by simpa using hr) fun b hb => Nat.le_trans HBC.out.size (hrf b (by simpa using hb))⟩
                · rw [if_pos (by rfl)]
                  go_simp
                  have hal := below_new Wq1 (.cells #[.int .i64 d1, .int .i64 d2, .string x, .bool zg] 82)
                  obtain ⟨vd, hvd⟩ : ∃ vd, Wq1.heap.size = vd := ⟨_, rfl⟩
                  have hd := heap_alloc_new Wq1 (.cells #[.int .i64 d1, .int .i64 d2, .string x, .bool zg] 82)
                  have hdn : vr.ownBlock ≠ some vd := fun e => by have := OwnG.lt hr e; omega
                  replace hr := OwnG.below hr hal
                  rw [hvd] at hd ⊢
                  replace hB := bt hB hal
                  refine hK.out _ _ (NewT.of g hB) (fun hC => ?_)
                  generalize World.alloc Wq1 (.cells #[.int .i64 d1, .int .i64 d2, .string x, .bool zg] 82) = Wq2 at *
                  clear hK K hal hvd
                  refine wpAnyH_ready (rs := [6]) (by kernel_rfl) (by simp) (AllReadyH.cons (at_of_drop (i := 6) rfl) (fun K hK => ?_) AllReadyH.nil)
                  refine stepG u_adds info_adds (by rfl) (by decide) (by decide) encE_one (ns := R.l) rfl _ _ rfl rfl hr hrf hB rfl (HSRC.out _ hB) (by have := HL.out; simp <;> omega) ?_
                  intro vr Wq3 hr hrf hB hk
                  replace hd := hk _ _ hd hdn
                  clear hk
                  refine hK.out _ _ (NewT.of g hB) (fun hC => ?_)
                  try go_simp
                  clear hK K
                  refine wpAnyH_ready (rs := [9]) (by kernel_rfl) (by simp) (AllReadyH.cons (at_of_drop (i := 9) rfl) (fun K hK => ?_) AllReadyH.nil)
                  refine stepG u_adds info_adds (by rfl) (by decide) (by decide) encE_one (ns := [⟨(d1, d2), x, zg⟩]) rfl _ _ rfl rfl hr hrf hB rfl (src_one (x := ⟨(d1, d2), x, zg⟩) encE_len hd) (by have := HL.out; simp <;> omega) ?_
                  intro vr Wq4 hr hrf hB hk
                  clear hk
                  refine hK.out _ _ (NewT.of g hB) (fun hC => ?_)
                  try go_simp
                  clear hK K
                  refine takeNil (i := 10) rfl rfl rfl (by kernel_rfl) (by kernel_rfl) (by kernel_rfl) (fun _ _ _ _ h => h) rfl hC ?_
                  go_simp
                  refine takeList (i := 11) rfl (by kernel_rfl) (by kernel_rfl) (by kernel_rfl) (fun _ _ _ _ h => h) rfl rfl hC (fun K hK => ?_)
                  go_big_quiet_op
                  refine hK _ ?_
                  clear hK K
                  obtain ⟨q9, c9, hv9, -⟩ := OwnG.slice hr
                  subst hv9
                  have hS9 := HSW.out _ hB
                  have hg0 := hS9.cells.1
                  have hf0 := hS9.fz 0
                  refine callList (i := 12) rfl (by kernel_rfl) rfl (fun K hK => ?_)
                  go_simp
                  refine hK.out _ _ (NewT.set g 0 hB _) ?_
                  clear hK K hC hS9 hg0 hf0
                  refine wpAnyH_done (by kernel_rfl) ?_ _
                  go_wp2
                  go_ret
                  rw [HR.out.1, HR.out.2]
                  exact ⟨rfl, RsRet.setL HS.out (bt HBC.out hB) (by simpa using hr) fun b hb => Nat.le_trans HBC.out.size (hrf b (by simpa using hb))⟩
              · rw [if_pos (by rfl)]
                go_simp
                have hal := below_new W0 (.cells #[.int .i64 d1, .int .i64 d2, .string x, .bool zg] 82)
                obtain ⟨vd, hvd⟩ : ∃ vd, W0.heap.size = vd := ⟨_, rfl⟩
                have hd := heap_alloc_new W0 (.cells #[.int .i64 d1, .int .i64 d2, .string x, .bool zg] 82)
                rw [hvd] at hd ⊢
                replace hB := bt hB hal
                refine hK.out _ _ (NewT.of g hB) (fun hC => ?_)
                generalize World.alloc W0 (.cells #[.int .i64 d1, .int .i64 d2, .string x, .bool zg] 82) = Wq1 at *
                clear hK K hal hvd
                refine wpAnyH_ready (rs := [1]) (by kernel_rfl) (by simp) (AllReadyH.cons (at_of_drop (i := 1) rfl) (fun K hK => ?_) AllReadyH.nil)
                rw [if_pos (by rfl)]
                go_simp
                have hal := below_new Wq1 (.cells #[] 82)
                have hr := OwnG.empty (enc := encE) Wq1 82 4
                obtain ⟨vr, hvr⟩ : ∃ vr, Value.slice (some ⟨Wq1.heap.size, 0, none⟩) 0 0 = vr := ⟨_, rfl⟩
                have hrf : ∀ b, vr.ownBlock = some b → wc.heap.size ≤ b := fun b hb => by rw [← hvr] at hb; cases hb; exact hB.size
                have hdn : vr.ownBlock ≠ some vd := fun e => by rw [← hvr] at e; cases e; exact absurd (Array.getElem?_eq_some_iff.1 hd).1 (Nat.lt_irrefl _)
                replace hd := keep_on hal hd
                rw [hvr] at hr ⊢
                replace hB := bt hB hal
                refine hK.out _ _ (NewT.of g hB) (fun hC => ?_)
                generalize World.alloc Wq1 (.cells #[] 82) = Wq2 at *
                clear hK K hal hvr
                refine wpAnyH_ready (rs := [6]) (by kernel_rfl) (by simp) (AllReadyH.cons (at_of_drop (i := 6) rfl) (fun K hK => ?_) AllReadyH.nil)
                refine stepG u_adds info_adds (by rfl) (by decide) (by decide) encE_one (ns := R.l) rfl _ _ rfl rfl hr hrf hB rfl (HSRC.out _ hB) (by have := HL.out; simp <;> omega) ?_
                intro vr Wq3 hr hrf hB hk
                replace hd := hk _ _ hd hdn
                clear hk
                refine hK.out _ _ (NewT.of g hB) (fun hC => ?_)
                try go_simp
                clear hK K
                refine wpAnyH_ready (rs := [9]) (by kernel_rfl) (by simp) (AllReadyH.cons (at_of_drop (i := 9) rfl) (fun K hK => ?_) AllReadyH.nil)
                refine stepG u_adds info_adds (by rfl) (by decide) (by decide) encE_one (ns := [⟨(d1, d2), x, zg⟩]) rfl _ _ rfl rfl hr hrf hB rfl (src_one (x := ⟨(d1, d2), x, zg⟩) encE_len hd) (by have := HL.out; simp <;> omega) ?_
                intro vr Wq4 hr hrf hB hk
                clear hk
                refine hK.out _ _ (NewT.of g hB) (fun hC => ?_)
                try go_simp
                clear hK K
                refine takeNil (i := 10) rfl rfl rfl (by kernel_rfl) (by kernel_rfl) (by kernel_rfl) (fun _ _ _ _ h => h) rfl hC ?_
                go_simp
                refine takeList (i := 11) rfl (by kernel_rfl) (by kernel_rfl) (by kernel_rfl) (fun _ _ _ _ h => h) rfl rfl hC (fun K hK => ?_)
                go_big_quiet_op
                refine hK _ ?_
                clear hK K
                obtain ⟨q9, c9, hv9, -⟩ := OwnG.slice hr
                subst hv9
                have hS9 := HSW.out _ hB
                have hg0 := hS9.cells.1
                have hf0 := hS9.fz 0
                refine callList (i := 12) rfl (by kernel_rfl) rfl (fun K hK => ?_)
                go_simp
                refine hK.out _ _ (NewT.set g 0 hB _) ?_
                clear hK K hC hS9 hg0 hf0
                refine wpAnyH_done (by kernel_rfl) ?_ _
                go_wp2
                go_ret
                rw [HR.out.1, HR.out.2]
                exact ⟨rfl, RsRet.setL HS.out (bt HBC.out hB) (by simpa using hr) fun b hb => Nat.le_trans HBC.out.size (hrf b (by simpa using hb))⟩
            · rw [if_pos (by rfl)]
              go_simp
              have hal := below_new W0 (.cells #[.int .i64 d1, .int .i64 d2, .string x, .bool zg] 82)
              obtain ⟨vd, hvd⟩ : ∃ vd, W0.heap.size = vd := ⟨_, rfl⟩
              have hd := heap_alloc_new W0 (.cells #[.int .i64 d1, .int .i64 d2, .string x, .bool zg] 82)
              rw [hvd] at hd ⊢
              replace hB := bt hB hal
              refine hK.out _ _ (NewT.of g hB) (fun hC => ?_)
              generalize World.alloc W0 (.cells #[.int .i64 d1, .int .i64 d2, .string x, .bool zg] 82) = Wq1 at *
              clear hK K hal hvd
              refine wpAnyH_ready (rs := [1, 5]) (by kernel_rfl) (by simp) (AllReadyH.cons (at_of_drop (i := 1) rfl) (fun K hK => ?_) (AllReadyH.cons (at_of_drop (i := 5) rfl) (fun K hK => ?_) AllReadyH.nil))
              · rw [if_pos (by rfl)]
                go_simp
                have hal := below_new Wq1 (.cells #[] 82)
                have hr := OwnG.empty (enc := encE) Wq1 82 4
                obtain ⟨vr, hvr⟩ : ∃ vr, Value.slice (some ⟨Wq1.heap.size, 0, none⟩) 0 0 = vr := ⟨_, rfl⟩
                have hrf : ∀ b, vr.ownBlock = some b → wc.heap.size ≤ b := fun b hb => by rw [← hvr] at hb; cases hb; exact hB.size
                have hdn : vr.ownBlock ≠ some vd := fun e => by rw [← hvr] at e; cases e; exact absurd (Array.getElem?_eq_some_iff.1 hd).1 (Nat.lt_irrefl _)
                replace hd := keep_on hal hd
                rw [hvr] at hr ⊢
                replace hB := bt hB hal
                refine hK.out _ _ (NewT.of g hB) (fun hC => ?_)
                generalize World.alloc Wq1 (.cells #[] 82) = Wq2 at *
                clear hK K hal hvr
                refine wpAnyH_ready (rs := [5]) (by kernel_rfl) (by simp) (AllReadyH.cons (at_of_drop (i := 5) rfl) (fun K hK => ?_) AllReadyH.nil)
                rw [if_pos (by rfl)]
                have hg0 := (HSW.out _ hB).cells.1
                go_simp
                refine hK.out _ _ (NewT.of g hB) (fun hC => ?_)
                try go_simp
                clear hg0 hK K
                refine wpAnyH_ready (rs := [6]) (by kernel_rfl) (by simp) (AllReadyH.cons (at_of_drop (i := 6) rfl) (fun K hK => ?_) AllReadyH.nil)
                refine stepG u_adds info_adds (by rfl) (by decide) (by decide) encE_one (ns := R.l) rfl _ _ rfl rfl hr hrf hB rfl (HSRC.out _ hB) (by have := HL.out; simp <;> omega) ?_
                intro vr Wq3 hr hrf hB hk
                replace hd := hk _ _ hd hdn
                clear hk
                refine hK.out _ _ (NewT.of g hB) (fun hC => ?_)
                try go_simp
                clear hK K
                refine wpAnyH_ready (rs := [9]) (by kernel_rfl) (by simp) (AllReadyH.cons (at_of_drop (i := 9) rfl) (fun K hK => ?_) AllReadyH.nil)
                refine stepG u_adds info_adds (by rfl) (by decide) (by decide) encE_one (ns := [⟨(d1, d2), x, zg⟩]) rfl _ _ rfl rfl hr hrf hB rfl (src_one (x := ⟨(d1, d2), x, zg⟩) encE_len hd) (by have := HL.out; simp <;> omega) ?_
                intro vr Wq4 hr hrf hB hk
                clear hk
                refine hK.out _ _ (NewT.of g hB) (fun hC => ?_)
                try go_simp
                clear hK K
                refine takeNil (i := 10) rfl rfl rfl (by kernel_rfl) (by kernel_rfl) (by kernel_rfl) (fun _ _ _ _ h => h) rfl hC ?_
                go_simp
                refine takeList (i := 11) rfl (by kernel_rfl) (by kernel_rfl) (by kernel_rfl) (fun _ _ _ _ h => h) rfl rfl hC (fun K hK => ?_)
                go_big_quiet_op
                refine hK _ ?_
                clear hK K
                obtain ⟨q9, c9, hv9, -⟩ := OwnG.slice hr
                subst hv9
                have hS9 := HSW.out _ hB
                have hg0 := hS9.cells.1
                have hf0 := hS9.fz 0
                refine callList (i := 12) rfl (by kernel_rfl) rfl (fun K hK => ?_)
                go_simp
                refine hK.out _ _ (NewT.set g 0 hB _) ?_
                clear hK K hC hS9 hg0 hf0
                refine wpAnyH_done (by kernel_rfl) ?_ _
                go_wp2
                go_ret
                rw [HR.out.1, HR.out.2]
                exact ⟨rfl, RsRet.setL HS.out (bt HBC.out hB) (by simpa using hr) fun b hb => Nat.le_trans HBC.out.size (hrf b (by simpa using hb))⟩
              · rw [if_pos (by rfl)]
                have hg0 := (HSW.out _ hB).cells.1
                go_simp
                refine hK.out _ _ (NewT.of g hB) (fun hC => ?_)
                try go_simp
                clear hg0 hK K
                refine wpAnyH_ready (rs := [1]) (by kernel_rfl) (by simp) (AllReadyH.cons (at_of_drop (i := 1) rfl) (fun K hK => ?_) AllReadyH.nil)
                rw [if_pos (by rfl)]
                go_simp
                have hal := below_new Wq1 (.cells #[] 82)
                have hr := OwnG.empty (enc := encE) Wq1 82 4
                obtain ⟨vr, hvr⟩ : ∃ vr, Value.slice (some ⟨Wq1.heap.size, 0, none⟩) 0 0 = vr := ⟨_, rfl⟩
                have hrf : ∀ b, vr.ownBlock = some b → wc.heap.size ≤ b := fun b hb => by rw [← hvr] at hb; cases hb; exact hB.size
                have hdn : vr.ownBlock ≠ some vd := fun e => by rw [← hvr] at e; cases e; exact absurd (Array.getElem?_eq_some_iff.1 hd).1 (Nat.lt_irrefl _)
                replace hd := keep_on hal hd
                rw [hvr] at hr ⊢
                replace hB := bt hB hal
                refine hK.out _ _ (NewT.of g hB) (fun hC => ?_)
                generalize World.alloc Wq1 (.cells #[] 82) = Wq2 at *
                clear hK K hal hvr
                refine wpAnyH_ready (rs := [6]) (by kernel_rfl) (by simp) (AllReadyH.cons (at_of_drop (i := 6) rfl) (fun K hK => ?_) AllReadyH.nil)
                refine stepG u_adds info_adds (by rfl) (by decide) (by decide) encE_one (ns := R.l) rfl _ _ rfl rfl hr hrf hB rfl (HSRC.out _ hB) (by have := HL.out; simp <;> omega) ?_
                intro vr Wq3 hr hrf hB hk
                replace hd := hk _ _ hd hdn
                clear hk
                refine hK.out _ _ (NewT.of g hB) (fun hC => ?_)
                try go_simp
                clear hK K
                refine wpAnyH_ready (rs := [9]) (by kernel_rfl) (by simp) (AllReadyH.cons (at_of_drop (i := 9) rfl) (fun K hK => ?_) AllReadyH.nil)
                refine stepG u_adds info_adds (by rfl) (by decide) (by decide) encE_one (ns := [⟨(d1, d2), x, zg⟩]) rfl _ _ rfl rfl hr hrf hB rfl (src_one (x := ⟨(d1, d2), x, zg⟩) encE_len hd) (by have := HL.out; simp <;> omega) ?_
                intro vr Wq4 hr hrf hB hk
                clear hk
                refine hK.out _ _ (NewT.of g hB) (fun hC => ?_)
                try go_simp
                clear hK K
                refine takeNil (i := 10) rfl rfl rfl (by kernel_rfl) (by kernel_rfl) (by kernel_rfl) (fun _ _ _ _ h => h) rfl hC ?_
                go_simp
                refine takeList (i := 11) rfl (by kernel_rfl) (by kernel_rfl) (by kernel_rfl) (fun _ _ _ _ h => h) rfl rfl hC (fun K hK => ?_)
                go_big_quiet_op
                refine hK _ ?_
                clear hK K
                obtain ⟨q9, c9, hv9, -⟩ := OwnG.slice hr
                subst hv9
                have hS9 := HSW.out _ hB
                have hg0 := hS9.cells.1
                have hf0 := hS9.fz 0
                refine callList (i := 12) rfl (by kernel_rfl) rfl (fun K hK => ?_)
                go_simp
                refine hK.out _ _ (NewT.set g 0 hB _) ?_
                clear hK K hC hS9 hg0 hf0
                refine wpAnyH_done (by kernel_rfl) ?_ _
                go_wp2
                go_ret
                rw [HR.out.1, HR.out.2]
                exact ⟨rfl, RsRet.setL HS.out (bt HBC.out hB) (by simpa using hr) fun b hb => Nat.le_trans HBC.out.size (hrf b (by simpa using hb))⟩
end Go.Proofs.Ytoglhhoniojbaaa
