/-
  OrsetSeen: what a remove had not seen stays; what it had seen is gone, whichever comes first.
-/
import Derived.Test.YtoglhhoniojbaaaZ3
import Derived.Test.YtoglhhoniojbaaaTArg
import Derived.Test.YtoglhhoniojbaaaBVec
namespace Go.Proofs.Ytoglhhoniojbaaa
open Go.RowKit Go.Lib
set_option linter.unusedVariables false

namespace C
theorem long_txX : tooLong txX = false := by decide
/-- A set to which dots were added for one text. -/
structure SeenInv (S : Os) (c0 : V7) (l : List Dt) : Prop where
  ok : S.Ok
  ad : ∀ d, S.ad d = if may d = true ∧ d ∈ l then some txX else none
  go : S.go txX = c0
theorem SeenInv.err {S : Os} {c0 : V7} {l : List Dt} (h : SeenInv S c0 l) (d : Dt) : errO S d txX = if may d = true then 0 else 1 := by
  unfold errO
  by_cases hm : may d = true
  · rw [if_pos ⟨hm, long_txX⟩, if_pos hm, h.ad d]
    by_cases hd : d ∈ l
    · rw [if_pos ⟨hm, hd⟩]; simp
    · rw [if_neg fun k => hd k.2]
  · rw [if_neg fun k => hm k.1, if_neg hm]
theorem SeenInv.step {S : Os} {c0 : V7} {l : List Dt} {k : Nat} {x : Dt} (h : SeenInv S c0 (l.take k)) (hx : l[k]? = some x) : SeenInv (addO S x txX) c0 (l.take (k + 1)) := by
  rw [take_snoc hx]
  refine ⟨addO_ok h.ok _ _, fun d => ?_, ?_⟩
  · by_cases hc : may x = true ∧ tooLong txX = false ∧ S.ad x = none
    · have e : (addO S x txX).ad d = if d = x then some txX else S.ad d := by
        unfold addO
        rw [if_pos hc]
        split <;> rfl
      rw [e, h.ad d]
      by_cases hd : d = x
      · rw [if_pos hd, if_pos ⟨by rw [hd]; exact hc.1, by rw [hd]; simp⟩]
      · rw [if_neg hd]
        by_cases hm : may d = true ∧ d ∈ l.take k
        · rw [if_pos hm, if_pos ⟨hm.1, by simp [hm.2]⟩]
        · rw [if_neg hm, if_neg]
          rintro ⟨h1, h2⟩
          rcases List.mem_append.1 h2 with h2 | h2
          · exact hm ⟨h1, h2⟩
          · exact hd (by simpa using h2)
    · rw [addO_same hc, h.ad d]
      by_cases hm : may d = true ∧ d ∈ l.take k
      · rw [if_pos hm, if_pos ⟨hm.1, by simp [hm.2]⟩]
      · rw [if_neg hm, if_neg]
        rintro ⟨h1, h2⟩
        rcases List.mem_append.1 h2 with h2 | h2
        · exact hm ⟨h1, h2⟩
        · obtain rfl : d = x := by simpa using h2
          refine hc ⟨h1, long_txX, ?_⟩
          rw [h.ad d, if_neg hm]
  · unfold addO
    split
    · split
      · exact h.go
      · exact h.go
    · exact h.go
def leftB (c : V7) (l : List Dt) : Bool := l.any fun d => may d && !hasd c d
theorem left_snoc {c : V7} {l : List Dt} {k : Nat} {x : Dt} (hx : l[k]? = some x) : leftB c (l.take (k + 1)) = (leftB c (l.take k) || (may x && !hasd c x)) := by
  unfold leftB
  rw [take_snoc hx, List.any_append]
  simp
theorem left_iff (c : V7) (l : List Dt) : leftB c l = true ↔ ∃ d, (may d = true ∧ d ∈ l) ∧ hasd c d = false := by
  unfold leftB
  rw [List.any_eq_true]
  constructor
  · rintro ⟨d, h1, h2⟩
    rw [Bool.and_eq_true] at h2
    exact ⟨d, ⟨h2.1, h1⟩, by simpa using h2.2⟩
  · rintro ⟨d, ⟨h1, h2⟩, h3⟩
    exact ⟨d, h2, by rw [h1, h3]; rfl⟩
theorem some_mem {l : List Dt} : decide (0 < l.length) = true ↔ ∃ d, d ∈ l := by
  rw [decide_eq_true_eq, List.length_pos_iff_exists_mem]
theorem SeenInv.has {S : Os} {c : V7} {l : List Dt} (h : SeenInv S c l) : decide (0 < (S.th txX).length) = leftB c l := by
  rw [Bool.eq_iff_iff, some_mem, left_iff]
  refine exists_congr fun d => ?_
  rw [h.ok.mem, h.ad d, h.go]
  by_cases hm : may d = true ∧ d ∈ l
  · rw [if_pos hm]; simp [hm]
  · rw [if_neg hm]
    constructor
    · rintro ⟨h1, _⟩; cases h1
    · rintro ⟨h1, _⟩; exact absurd h1 hm
theorem hasd_z7 (d : Dt) : hasd z7 d = false := by
  cases h : hasd z7 d with
  | false => rfl
  | true =>
    have h1 := (hasd_iff z7 d).1 h
    have h2 : at7 z7 d.1.toNat ≤ 0 := by
      unfold at7 z7
      split <;> simp
    omega
theorem SeenInv.has_behind {S : Os} {c : V7} {l : List Dt} (h : SeenInv S z7 l) (hg : good c = true) : decide (0 < ((remO S txX c).th txX).length) = leftB c l := by
  rw [remO_good long_txX hg, th_T, if_pos rfl, Bool.eq_iff_iff, some_mem, left_iff]
  refine exists_congr fun d => ?_
  rw [unseen_mem, h.ok.mem, h.ad d, h.go]
  by_cases hm : may d = true ∧ d ∈ l
  · rw [if_pos hm]; simp [hm, hasd_z7]
  · rw [if_neg hm]
    constructor
    · rintro ⟨⟨h1, _⟩, _⟩; cases h1
    · rintro ⟨h1, _⟩; exact absurd h1 hm
theorem mrg_z7 {c : V7} (hg : good c = true) : mrg z7 c = c := by
  have h := (good_iff c).1 hg
  rw [eq_iff]
  simp only [mrg, z7]
  omega
theorem inv_zero : SeenInv Os.zero z7 [] := ⟨zero_okO, fun d => by simp [Os.zero], rfl⟩
theorem inv_first {c : V7} (hg : good c = true) : SeenInv (remO Os.zero txX c) c [] := by
  refine ⟨remO_ok zero_okO _ _, fun d => ?_, ?_⟩
  · rw [remO_good long_txX hg]
    simp [ad_T, ad_G, Os.zero]
  · rw [remO_good long_txX hg, go_T, go_G, if_pos rfl]
    exact mrg_z7 hg
end C
set_option maxRecDepth 100000 in
set_option maxHeartbeats 8000000 in
theorem seen_walk (pa : Option Addr) (l : List C.Dt) (ca : Nat) (c : V7) (first : Bool) (w : World) (ha : ArgD w pa l) (hla : l.length ≤ maxLen) :
    Calls Try.prog 7 #[.slice pa l.length ca, c.v, .bool first] w fun e w' => e = .returned (.bool true) ∧ Below w.heap.size w w' := by
  have HA : Hid (ArgD w pa l) := ha
  clear ha
  unfold maxLen at hla
  obtain ⟨n, hn⟩ : ∃ n, n = l.length := ⟨_, rfl⟩
  have HN : Hid (n = l.length) := hn
  rw [← hn] at hla ⊢
  clear hn
  have HL : Hid (C.tooLong C.txX = false ∧ C.txX.size ≤ maxLen) := ⟨by decide, by decide⟩
  have HK : Hid (∀ n, n ≤ 1000 → n + 2 < maxLen) := fun n hn => by unfold maxLen; omega
  obtain ⟨zg, hzg⟩ : ∃ zg, C.good c = zg := ⟨_, rfl⟩
  have HG : Hid (C.good c = zg) := hzg
  have HGC : Hid (∀ W, Calls Try.prog 26 #[c.v] W fun e w' => e = .returned (.bool zg) ∧ Below W.heap.size W w') := fun W => by rw [← hzg]; exact good_any c W
  have HHC : Hid (∀ d1 d2 W, Calls Try.prog 28 #[c.v, .agg #[.int .i64 d1, .int .i64 d2]] W fun e w' => e = .returned (.bool (C.hasd c (d1, d2))) ∧ Below W.heap.size W w') := fun d1 d2 W => has_any c d1 d2 W
  have HREM : Hid (∀ (Q1 Q2 : List OObj) (w0 w : World) (g n : Nat) (L : OLay) (S S' : C.Os) (x : Tx) (er : Int) (h : OObjs w0 w (Q1 ++ ⟨g, n, L, S⟩ :: Q2)) (hn : n + 2 < maxLen) (hx : x.size ≤ maxLen) (hl : C.Few S 100000) (he : C.errR x c = er) (hs : C.remO S x c = S'),
    Calls Try.prog 11 #[.pointer (some ⟨g, 0, none⟩), .string x, c.v] w fun e w' => e = .returned (.int .i64 er) ∧ ∃ L', OObjs w0 w' (Q1 ++ ⟨g, n + 2, L', S'⟩ :: Q2)) := fun Q1 Q2 w0 w g n L S S' x er h hn hx hl he hs => s_rem Q1 Q2 g n L S S' x c er h hn hx hl he hs
  have HB7 : Hid (∀ (W : World) (b : Nat), W.heap[b]? = some (.cells #[.int .i64 c.x0, .int .i64 c.x1, .int .i64 c.x2, .int .i64 c.x3, .int .i64 c.x4, .int .i64 c.x5, .int .i64 c.x6] 28) → (W.cell? ⟨b, 0, none⟩ = some (.int .i64 c.x0) ∧ W.cell? ⟨b, 1, none⟩ = some (.int .i64 c.x1) ∧ W.cell? ⟨b, 2, none⟩ = some (.int .i64 c.x2) ∧ W.cell? ⟨b, 3, none⟩ = some (.int .i64 c.x3) ∧ W.cell? ⟨b, 4, none⟩ = some (.int .i64 c.x4) ∧ W.cell? ⟨b, 5, none⟩ = some (.int .i64 c.x5) ∧ W.cell? ⟨b, 6, none⟩ = some (.int .i64 c.x6))) := fun W b h => box7 h
  obtain ⟨cc, hcc⟩ : ∃ cc, cc = c := ⟨_, rfl⟩
  rw [← hcc] at HG HHC
  have HCC : Hid (cc = c) := hcc
  have HREM2 : Hid (∀ S, C.remO S C.txX c = C.remO S C.txX cc) := fun S => by rw [hcc]
  have HERR : Hid (zg = true → C.errR C.txX c = 0) := fun e => C.errR_good HL.out.1 (by rw [hzg, e])
  clear hzg hcc
  obtain ⟨y0, y1, y2, y3, y4, y5, y6⟩ := c
  have HHC2 : Hid (∀ d1 d2 W, Calls Try.prog 28 #[.agg #[.int .i64 y0, .int .i64 y1, .int .i64 y2, .int .i64 y3, .int .i64 y4, .int .i64 y5, .int .i64 y6], .agg #[.int .i64 d1, .int .i64 d2]] W fun e w' => e = .returned (.bool (C.hasd cc (d1, d2))) ∧ Below W.heap.size W w') := fun d1 d2 W => by have := HHC.out d1 d2 W; rw [HCC.out] at this ⊢; exact this
  simp only [V7.v] at HGC HREM HB7 ⊢
  clear HHC
  by_cases hbig : 20 < n
  · go_enter Try.func7, Try.ntmps7
    go_wp2_with fail
    refine (awake9_any _).mono ?_
    rintro e w1 ⟨rfl, hb1⟩
    have HB1 : Hid (Below w.heap.size w w1) := bt (below_new _ _) hb1
    clear hb1
    go_wp2
    go_ret
    exact ⟨rfl, HB1.out⟩
  have HL20 : Hid (l.length ≤ 20) := by have := HN.out; show _ ≤ _; omega
  go_enter Try.func7, Try.ntmps7
  go_wp2_with fail
  refine (awake9_any _).mono ?_
  rintro e w1 ⟨rfl, hb1⟩
  have HB1 : Hid (Below w.heap.size w w1) := bt (below_new _ _) hb1
  have HQ1 : Hid (w1.heap[w.heap.size]? = some (.cells #[.int .i64 y0, .int .i64 y1, .int .i64 y2, .int .i64 y3, .int .i64 y4, .int .i64 y5, .int .i64 y6] 28)) := by show _ = _; rw [hb1.block _ (by simp)]; exact heap_alloc_new _ _
  obtain ⟨gs, hgs⟩ : ∃ gs, w.heap.size = gs := ⟨_, rfl⟩
  rw [hgs] at HQ1 ⊢
  obtain ⟨q0, q1, q2, q3, q4, q5, q6⟩ := HB7.out w1 gs HQ1.out
  clear hb1 hgs
  go_wp2_with fail
  refine (HGC.out _).mono ?_
  rintro e w2 ⟨rfl, hb2⟩
  have HB2 : Hid (Below w.heap.size w w2) := bt HB1.out hb2
  have HQ2 : Hid (w2.heap[gs]? = some (.cells #[.int .i64 y0, .int .i64 y1, .int .i64 y2, .int .i64 y3, .int .i64 y4, .int .i64 y5, .int .i64 y6] 28)) := keep_on hb2 HQ1.out
  clear hb2 q0 q1 q2 q3 q4 q5 q6 HQ1 HB1
  cases zg with
  | false =>
    go_wp2
    go_ret
    exact ⟨rfl, HB2.out⟩
  | true =>
    go_wp2_with fail
    refine (s_new (OObjs.nil (Below.refl _ w2))).mono ?_
    rintro e w3 ⟨g, L3, rfl, h3, -⟩
    have H3 : Hid (OObjs w2 w3 ([] ++ ⟨g, 0, L3, C.Os.zero⟩ :: [])) := h3
    clear h3
    cases first with
    | true =>
      obtain ⟨q0, q1, q2, q3, q4, q5, q6⟩ := HB7.out w3 gs (keep_on H3.out.bel HQ2.out)
      go_wp2_with fail
      refine (HREM.out [] [] w2 w3 g 0 L3 C.Os.zero _ C.txX 0 H3.out (HK.out _ (by omega)) HL.out.2 (C.few_mono C.zero_few (by omega)) (HERR.out (by first | rfl | trivial)) rfl).mono ?_
      rintro e w4 ⟨rfl, L4, h4⟩
      rw [HREM2.out] at h4
      have H4 : Hid (∃ (m : Nat) (L : OLay) (S : C.Os), m ≤ 2 ∧ OObjs w2 w4 ([] ++ ⟨g, m, L, S⟩ :: []) ∧ C.SeenInv S cc (l.take 0) ∧ C.Few S 0) := ⟨2, L4, _, Nat.le_refl _, h4, C.inv_first HG.out, C.remO_few C.zero_few _ _⟩
      clear h4 H3 q0 q1 q2 q3 q4 q5 q6
      go_wp2_with fail
      go_loopw [8, 9] (fun s8 s9 wr => ∃ (k m : Nat) (L : OLay) (S : C.Os), s9 = .int .i64 k ∧ k ≤ n ∧ m ≤ 2 + 2 * k ∧ s8 = .bool (C.leftB cc (l.take k)) ∧ Hid (OObjs w2 wr ([] ++ ⟨g, m, L, S⟩ :: [])) ∧ Hid (C.SeenInv S cc (l.take k)) ∧ Hid (C.Few S k)) (fun _ s9 _ => n - (intOf s9).toNat)
      case atStart =>
        obtain ⟨m, L, S, hm, h1, h2, h3⟩ := H4.out
        exact ⟨0, m, L, S, rfl, Nat.zero_le _, by omega, by simp [C.leftB], h1, h2, h3⟩
      case round =>
        clear H4
        obtain ⟨k, m, L, S, rfl, hkn, hmk, rfl, HO, HI, HF⟩ := hrel
        by_cases hlt : k < n
        · obtain ⟨x, hx⟩ : ∃ x, l[k]? = some x := ⟨_, List.getElem?_eq_getElem (by have := HN.out; omega)⟩
          obtain ⟨b, o, rfl, hc⟩ := HA.out (by have := HN.out; omega)
          have HIS : Hid (C.SeenInv (C.addO S x C.txX) cc (l.take (k + 1))) := HI.out.step hx
          have HLS : Hid (C.leftB cc (l.take (k + 1)) = (C.leftB cc (l.take k) || (C.may x && !C.hasd cc x))) := C.left_snoc hx
          obtain ⟨a0, a1⟩ := hc k x hx
          have HCX : Hid (∀ W, Below w2.heap.size w2 W → W.cell? ⟨b, o + k * 2, none⟩ = some (.int .i64 x.1) ∧ W.cell? ⟨b, o + k * 2 + 1, none⟩ = some (.int .i64 x.2)) := fun W hW => ⟨((bt HB2.out hW).cell (p := ⟨b, o + k * 2, none⟩) (World.block_lt_of_cell? _ _ a0)).trans a0, ((bt HB2.out hW).cell (p := ⟨b, o + k * 2 + 1, none⟩) (World.block_lt_of_cell? _ _ a1)).trans a1⟩
          clear hc a0 a1 hx
          obtain ⟨x1, x2⟩ := x
          obtain ⟨er, herr⟩ : ∃ er, C.errO S (x1, x2) C.txX = er := ⟨_, rfl⟩
          have HER : Hid (er = if C.may (x1, x2) = true then 0 else 1) := by show er = _; rw [← herr]; exact HI.out.err _
          have HEE : Hid _ := herr
          clear herr
          obtain ⟨c0, c1⟩ := HCX.out _ HO.out.bel
          simp only at c0 c1
          have hm2 : m ≤ 1000 := by have := HL20.out; have := HN.out; omega
          obtain ⟨lk, hlk⟩ : ∃ lk, C.leftB cc (l.take k) = lk := ⟨_, rfl⟩
          rw [hlk] at HLS ⊢
          clear hlk
          go_wp2_with fail
          refine (s_add [] [] g m L S _ C.txX x1 x2 er HO.out (HK.out _ hm2) HL.out.2 (C.few_mono HF.out (by have := HL20.out; have := HN.out; omega)) HEE.out rfl).mono ?_
          rintro e w5 ⟨rfl, L5, h5⟩
          have H5 : Hid (OObjs w2 w5 ([] ++ ⟨g, m + 2, L5, C.addO S (x1, x2) C.txX⟩ :: [])) := h5
          have HF5 : Hid (C.Few (C.addO S (x1, x2) C.txX) (k + 1)) := C.addO_few HF.out _ _
          clear h5 HO c0 c1 hm2
          cases hm : C.may (x1, x2) with
          | false =>
            obtain rfl : er = 1 := by rw [HER.out, hm]; rfl
            have HLE : Hid (C.leftB cc (l.take (k + 1)) = lk) := by show _ = _; rw [HLS.out, hm]; simp
            clear hm
            go_wp2
            go_roundw
            case rel => exact ⟨k + 1, m + 2, L5, _, by go_num, by omega, by omega, by rw [HLE.out], H5.out, HIS.out, HF5.out⟩
            case measure => simp [intOf]; omega
          | true =>
            obtain rfl : er = 0 := by rw [HER.out, hm]; rfl
            have HLE : Hid (C.leftB cc (l.take (k + 1)) = (lk || !C.hasd cc (x1, x2))) := by show _ = _; rw [HLS.out, hm]; simp
            clear hm
            have hne : Nonempty (NewW w5) := ⟨NewW.start w5⟩
            have e0 : ∀ t : NewW w5, t.v.cell? ⟨b, o + k * 2, none⟩ = some (.int .i64 x1) := fun t => (HCX.out _ (bt H5.out.bel t.h)).1
            have e1 : ∀ t : NewW w5, t.v.cell? ⟨b, o + k * 2 + 1, none⟩ = some (.int .i64 x2) := fun t => (HCX.out _ (bt H5.out.bel t.h)).2
            obtain ⟨q0, q1, q2, q3, q4, q5, q6⟩ := box7_all (keep_on H5.out.bel HQ2.out)
            obtain ⟨zh, hzh⟩ : ∃ zh, C.hasd cc (x1, x2) = zh := ⟨_, rfl⟩
            have HV : Hid (∀ W, Calls Try.prog 28 #[.agg #[.int .i64 y0, .int .i64 y1, .int .i64 y2, .int .i64 y3, .int .i64 y4, .int .i64 y5, .int .i64 y6], .agg #[.int .i64 x1, .int .i64 x2]] W fun e w' => e = .returned (.bool zh) ∧ Below W.heap.size W w') := fun W => by rw [← hzh]; exact HHC2.out x1 x2 W
            rw [hzh] at HLE
            clear hzh
            cases lk with
            | true =>
              go_wp2_with fail
              refine wp_region_new (by kernel_rfl) (by kernel_rfl) ?_
              repeat (go_big_quiet_step (fail))
              refine wpQuiet_nil ?_
              rintro _ ⟨w6, rfl⟩
              have H6 : Hid (OObjs w2 w6.v ([] ++ ⟨g, m + 2, L5, C.addO S (x1, x2) C.txX⟩ :: [])) := H5.out.below w6.h
              clear e0 e1 q0 q1 q2 q3 q4 q5 q6 hne
              go_wp2
              go_roundw
              case rel => exact ⟨k + 1, m + 2, L5, _, by go_num, by omega, by omega, by rw [HLE.out]; rfl, H6.out, HIS.out, HF5.out⟩
              case measure => simp [intOf]; omega
            | false =>
              go_wp2_with fail
              refine wp_region_new (by kernel_rfl) (by kernel_rfl) ?_
              repeat (go_big_quiet_step ((with_reducible exact new_of (HV.out _))))
              refine wpQuiet_nil ?_
              rintro _ ⟨w6, rfl⟩
              have H6 : Hid (OObjs w2 w6.v ([] ++ ⟨g, m + 2, L5, C.addO S (x1, x2) C.txX⟩ :: [])) := H5.out.below w6.h
              clear e0 e1 q0 q1 q2 q3 q4 q5 q6 hne
              go_wp2
              go_roundw
              case rel => exact ⟨k + 1, m + 2, L5, _, by go_num, by omega, by omega, by rw [HLE.out]; simp, H6.out, HIS.out, HF5.out⟩
              case measure => simp [intOf]; omega
        · obtain rfl : k = n := by omega
          have htk : l.take k = l := List.take_of_length_le (by have := HN.out; omega)
          rw [htk] at HI ⊢
          have hm2 : m ≤ 1000 := by have := HL20.out; have := HN.out; omega
          have HM2 : Hid (m ≤ 1000) := hm2
          have HF1 : Hid (C.Few S 100000) := C.few_mono HF.out (by have := HL20.out; have := HN.out; omega)
          obtain ⟨lk, hlk⟩ : ∃ lk, C.leftB cc l = lk := ⟨_, rfl⟩
          have HLK : Hid (C.leftB cc l = lk) := hlk
          rw [hlk]
          clear htk hlk hm2
          go_wp2_with fail
          refine (s_has [] [] g m L S C.txX lk HO.out HL.out.2 HF1.out (by rw [← HLK.out]; exact HI.out.has)).mono ?_
          rintro e w5 ⟨rfl, hw⟩
          subst hw
          go_wp2
          go_ret
          exact ⟨by simp, bt HB2.out HO.out.bel⟩
    | false =>
      have H4 : Hid (∃ (m : Nat) (L : OLay) (S : C.Os), m ≤ 2 ∧ OObjs w2 w3 ([] ++ ⟨g, m, L, S⟩ :: []) ∧ C.SeenInv S C.z7 (l.take 0) ∧ C.Few S 0) := ⟨0, L3, _, Nat.zero_le _, H3.out, C.inv_zero, C.zero_few⟩
      clear H3
      go_wp2_with fail
      go_loopw [8, 9] (fun s8 s9 wr => ∃ (k m : Nat) (L : OLay) (S : C.Os), s9 = .int .i64 k ∧ k ≤ n ∧ m ≤ 2 + 2 * k ∧ s8 = .bool (C.leftB cc (l.take k)) ∧ Hid (OObjs w2 wr ([] ++ ⟨g, m, L, S⟩ :: [])) ∧ Hid (C.SeenInv S C.z7 (l.take k)) ∧ Hid (C.Few S k)) (fun _ s9 _ => n - (intOf s9).toNat)
      case atStart =>
        obtain ⟨m, L, S, hm, h1, h2, h3⟩ := H4.out
        exact ⟨0, m, L, S, rfl, Nat.zero_le _, by omega, by simp [C.leftB], h1, h2, h3⟩
      case round =>
        clear H4
        obtain ⟨k, m, L, S, rfl, hkn, hmk, rfl, HO, HI, HF⟩ := hrel
        by_cases hlt : k < n
        · obtain ⟨x, hx⟩ : ∃ x, l[k]? = some x := ⟨_, List.getElem?_eq_getElem (by have := HN.out; omega)⟩
          obtain ⟨b, o, rfl, hc⟩ := HA.out (by have := HN.out; omega)
          have HIS : Hid (C.SeenInv (C.addO S x C.txX) C.z7 (l.take (k + 1))) := HI.out.step hx
          have HLS : Hid (C.leftB cc (l.take (k + 1)) = (C.leftB cc (l.take k) || (C.may x && !C.hasd cc x))) := C.left_snoc hx
          obtain ⟨a0, a1⟩ := hc k x hx
          have HCX : Hid (∀ W, Below w2.heap.size w2 W → W.cell? ⟨b, o + k * 2, none⟩ = some (.int .i64 x.1) ∧ W.cell? ⟨b, o + k * 2 + 1, none⟩ = some (.int .i64 x.2)) := fun W hW => ⟨((bt HB2.out hW).cell (p := ⟨b, o + k * 2, none⟩) (World.block_lt_of_cell? _ _ a0)).trans a0, ((bt HB2.out hW).cell (p := ⟨b, o + k * 2 + 1, none⟩) (World.block_lt_of_cell? _ _ a1)).trans a1⟩
          clear hc a0 a1 hx
          obtain ⟨x1, x2⟩ := x
          obtain ⟨er, herr⟩ : ∃ er, C.errO S (x1, x2) C.txX = er := ⟨_, rfl⟩
          have HER : Hid (er = if C.may (x1, x2) = true then 0 else 1) := by show er = _; rw [← herr]; exact HI.out.err _
          have HEE : Hid _ := herr
          clear herr
          obtain ⟨c0, c1⟩ := HCX.out _ HO.out.bel
          simp only at c0 c1
          have hm2 : m ≤ 1000 := by have := HL20.out; have := HN.out; omega
          obtain ⟨lk, hlk⟩ : ∃ lk, C.leftB cc (l.take k) = lk := ⟨_, rfl⟩
          rw [hlk] at HLS ⊢
          clear hlk
          go_wp2_with fail
          refine (s_add [] [] g m L S _ C.txX x1 x2 er HO.out (HK.out _ hm2) HL.out.2 (C.few_mono HF.out (by have := HL20.out; have := HN.out; omega)) HEE.out rfl).mono ?_
          rintro e w5 ⟨rfl, L5, h5⟩
          have H5 : Hid (OObjs w2 w5 ([] ++ ⟨g, m + 2, L5, C.addO S (x1, x2) C.txX⟩ :: [])) := h5
          have HF5 : Hid (C.Few (C.addO S (x1, x2) C.txX) (k + 1)) := C.addO_few HF.out _ _
          clear h5 HO c0 c1 hm2
          cases hm : C.may (x1, x2) with
          | false =>
            obtain rfl : er = 1 := by rw [HER.out, hm]; rfl
            have HLE : Hid (C.leftB cc (l.take (k + 1)) = lk) := by show _ = _; rw [HLS.out, hm]; simp
            clear hm
            go_wp2
            go_roundw
            case rel => exact ⟨k + 1, m + 2, L5, _, by go_num, by omega, by omega, by rw [HLE.out], H5.out, HIS.out, HF5.out⟩
            case measure => simp [intOf]; omega
          | true =>
            obtain rfl : er = 0 := by rw [HER.out, hm]; rfl
            have HLE : Hid (C.leftB cc (l.take (k + 1)) = (lk || !C.hasd cc (x1, x2))) := by show _ = _; rw [HLS.out, hm]; simp
            clear hm
            have hne : Nonempty (NewW w5) := ⟨NewW.start w5⟩
            have e0 : ∀ t : NewW w5, t.v.cell? ⟨b, o + k * 2, none⟩ = some (.int .i64 x1) := fun t => (HCX.out _ (bt H5.out.bel t.h)).1
            have e1 : ∀ t : NewW w5, t.v.cell? ⟨b, o + k * 2 + 1, none⟩ = some (.int .i64 x2) := fun t => (HCX.out _ (bt H5.out.bel t.h)).2
            obtain ⟨q0, q1, q2, q3, q4, q5, q6⟩ := box7_all (keep_on H5.out.bel HQ2.out)
            obtain ⟨zh, hzh⟩ : ∃ zh, C.hasd cc (x1, x2) = zh := ⟨_, rfl⟩
            have HV : Hid (∀ W, Calls Try.prog 28 #[.agg #[.int .i64 y0, .int .i64 y1, .int .i64 y2, .int .i64 y3, .int .i64 y4, .int .i64 y5, .int .i64 y6], .agg #[.int .i64 x1, .int .i64 x2]] W fun e w' => e = .returned (.bool zh) ∧ Below W.heap.size W w') := fun W => by rw [← hzh]; exact HHC2.out x1 x2 W
            rw [hzh] at HLE
            clear hzh
            cases lk with
            | true =>
              go_wp2_with fail
              refine wp_region_new (by kernel_rfl) (by kernel_rfl) ?_
              repeat (go_big_quiet_step (fail))
              refine wpQuiet_nil ?_
              rintro _ ⟨w6, rfl⟩
              have H6 : Hid (OObjs w2 w6.v ([] ++ ⟨g, m + 2, L5, C.addO S (x1, x2) C.txX⟩ :: [])) := H5.out.below w6.h
              clear e0 e1 q0 q1 q2 q3 q4 q5 q6 hne
              go_wp2
              go_roundw
              case rel => exact ⟨k + 1, m + 2, L5, _, by go_num, by omega, by omega, by rw [HLE.out]; rfl, H6.out, HIS.out, HF5.out⟩
              case measure => simp [intOf]; omega
            | false =>
              go_wp2_with fail
              refine wp_region_new (by kernel_rfl) (by kernel_rfl) ?_
              repeat (go_big_quiet_step ((with_reducible exact new_of (HV.out _))))
              refine wpQuiet_nil ?_
              rintro _ ⟨w6, rfl⟩
              have H6 : Hid (OObjs w2 w6.v ([] ++ ⟨g, m + 2, L5, C.addO S (x1, x2) C.txX⟩ :: [])) := H5.out.below w6.h
              clear e0 e1 q0 q1 q2 q3 q4 q5 q6 hne
              go_wp2
              go_roundw
              case rel => exact ⟨k + 1, m + 2, L5, _, by go_num, by omega, by omega, by rw [HLE.out]; simp, H6.out, HIS.out, HF5.out⟩
              case measure => simp [intOf]; omega
        · obtain rfl : k = n := by omega
          have htk : l.take k = l := List.take_of_length_le (by have := HN.out; omega)
          rw [htk] at HI ⊢
          have hm2 : m ≤ 1000 := by have := HL20.out; have := HN.out; omega
          have HM2 : Hid (m ≤ 1000) := hm2
          have HF1 : Hid (C.Few S 100000) := C.few_mono HF.out (by have := HL20.out; have := HN.out; omega)
          obtain ⟨lk, hlk⟩ : ∃ lk, C.leftB cc l = lk := ⟨_, rfl⟩
          have HLK : Hid (C.leftB cc l = lk) := hlk
          rw [hlk]
          clear htk hlk hm2
          obtain ⟨q0, q1, q2, q3, q4, q5, q6⟩ := HB7.out _ gs (keep_on HO.out.bel HQ2.out)
          go_wp2_with fail
          refine (HREM.out [] [] w2 _ g m L S _ C.txX 0 HO.out (HK.out _ HM2.out) HL.out.2 HF1.out (HERR.out (by first | rfl | trivial)) rfl).mono ?_
          rintro e w4 ⟨rfl, L4, h4⟩
          rw [HREM2.out] at h4
          have H4 : Hid (OObjs w2 w4 ([] ++ ⟨g, m + 2, L4, C.remO S C.txX cc⟩ :: [])) := h4
          clear h4 q0 q1 q2 q3 q4 q5 q6
          go_wp2_with fail
          refine (s_has [] [] g (m + 2) L4 _ C.txX lk H4.out HL.out.2 (C.remO_few HF1.out _ _) (by rw [← HLK.out]; exact HI.out.has_behind HG.out)).mono ?_
          rintro e w5 ⟨rfl, hw⟩
          subst hw
          go_wp2
          go_ret
          exact ⟨by simp, bt HB2.out H4.out.bel⟩
theorem seen_all (pa : Option Addr) (len ca : Nat) (c : V7) (hc : C.fits7 c) (first : Bool) (w : World) (hla : len ≤ ca) (hca : ca ≤ maxLen)
    (V : Nat → Nat → Value) (hV : 0 < len → ∃ b o, pa = some ⟨b, o, none⟩ ∧ ∀ i j, i < len → j < 2 → w.cell? ⟨b, o + i * 2 + j, none⟩ = some (V i j)) (hI : ∀ i j, i < len → j < 2 → ∃ z, V i j = .int .i64 z ∧ (Lit.int .i64 z).wf = true) :
    Calls Try.prog 7 #[.slice pa len ca, .agg #[.int .i64 c.x0, .int .i64 c.x1, .int .i64 c.x2, .int .i64 c.x3, .int .i64 c.x4, .int .i64 c.x5, .int .i64 c.x6], .bool first] w fun e w' => e = .returned (.bool true) ∧ Below w.heap.size w w' := by
  obtain ⟨l, rfl, ha⟩ := argD_of w pa len V hV hI
  exact seen_walk pa l ca c first w ha (Nat.le_trans hla hca)
end Go.Proofs.Ytoglhhoniojbaaa
