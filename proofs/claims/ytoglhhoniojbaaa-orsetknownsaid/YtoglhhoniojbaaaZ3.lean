/-
  Several texts in one: OAll, TSame, RDots, OTexts, OAwake.
-/
import Derived.Test.YtoglhhoniojbaaaZ2
import Derived.Test.YtoglhhoniojbaaaLayS
import Derived.Test.YtoglhhoniojbaaaTObjs
namespace Go.Proofs.Ytoglhhoniojbaaa
open Go.RowKit Go.Lib Go.Maps Go.Sort Go.Shelf
set_option linter.unusedVariables false

/-- All texts of a set, rising, each once. -/
structure IsAll (S : C.Os) (ks : List (List UInt8)) : Prop where
  up : ks.Pairwise fun a b => leB a b = true
  once : ks.Nodup
  mem : ∀ b, b ∈ ks ↔ (S.th ⟨b.toArray⟩ ≠ [] ∧ b.length ≤ maxLen)
theorem leB_anti {a b : List UInt8} (h1 : leB a b = true) (h2 : leB b a = true) : a = b := by
  simp only [leB, decide_eq_true_eq] at h1 h2
  exact List.le_antisymm h1 h2
theorem IsAll.uniq {S : C.Os} {a b : List (List UInt8)} (ha : IsAll S a) (hb : IsAll S b) : a = b :=
  List.Perm.eq_of_pairwise (le := fun a b => leB a b = true) (fun x y _ _ h1 h2 => leB_anti h1 h2) ha.up hb.up ((List.perm_ext_iff_of_nodup ha.once hb.once).2 fun x => by rw [ha.mem, hb.mem])
theorem sk_of (b : List UInt8) : sk ⟨b.toArray⟩ = .string b := rfl
theorem is_all {w : World} {b n : Nat} {D : DataW Value} {m : Lit → Option Value} (hown : w.ownsMap Try.prog 9 anyR b n D) (hr : GReads D m) {S : C.Os} {rv : Tx → Value} (hm : ∀ x, m (sk x) = if S.th x = [] then none else some (rv x)) {ss : List (List UInt8)} (hp : ss.Perm (strKeys D)) :
    IsAll S (ss.mergeSort fun x y => decide (x ≤ y)) := by
  obtain ⟨es, rfl, hpw, hk⟩ := hown.entries str_keys
  have hkey : ∀ p ∈ es, ∃ x, p.1 = .string x ∧ x.length ≤ maxLen := fun p hp' => by
    obtain ⟨es', he, hk'⟩ := World.ownsMap.keysOf hown
    cases he
    obtain ⟨v, hv⟩ := hk' p hp'
    obtain ⟨x, _, h2, h3⟩ := keyOf_str Try.underlying9 hv
    exact ⟨x, h2, h3⟩
  have hnd : (strKeys (DataW.map es)).Nodup := by
    show (es.map _).Nodup
    refine List.pairwise_map.2 (hpw.imp_of_mem fun {p q} hp' hq' hne e => hne ?_)
    obtain ⟨a, ha, _⟩ := hkey p hp'
    obtain ⟨c, hc, _⟩ := hkey q hq'
    rw [ha, hc] at e ⊢
    exact congrArg _ e
  have hmem : ∀ x, x ∈ strKeys (DataW.map es) ↔ (S.th ⟨x.toArray⟩ ≠ [] ∧ x.length ≤ maxLen) := fun x => by
    have h1 := (hr (.string x)).1
    rw [← sk_of, hm] at h1
    have h3 : (if S.th ⟨x.toArray⟩ = [] then none else some (rv ⟨x.toArray⟩)).isSome = true ↔ S.th ⟨x.toArray⟩ ≠ [] := by
      split
      · rename_i h; simp [h]
      · rename_i h; simp [h]
    rw [← h3, ← h1, has_eq, List.any_eq_true]
    show x ∈ es.map _ ↔ _
    rw [List.mem_map]
    constructor
    · rintro ⟨p, hp', rfl⟩
      obtain ⟨a, ha, hl⟩ := hkey p hp'
      rw [ha]
      exact ⟨⟨p, hp', by rw [ha]; simp [Lit.sameKey, strOf, sk]⟩, by simpa [strOf] using hl⟩
    · rintro ⟨⟨p, hp', hs⟩, hl⟩
      obtain ⟨a, ha, _⟩ := hkey p hp'
      rw [ha] at hs
      refine ⟨p, hp', ?_⟩
      rw [ha]
      simpa [Lit.sameKey, strOf, sk] using hs
  have tr : ∀ a b c : List UInt8, leB a b = true → leB b c = true → leB a c = true := fun a b c h1 h2 => by simp only [leB, decide_eq_true_eq] at *; exact List.le_trans h1 h2
  have to : ∀ a b : List UInt8, (leB a b || leB b a) = true := fun a b => by simp only [leB, Bool.or_eq_true, decide_eq_true_eq]; exact List.le_total a b
  exact ⟨List.pairwise_mergeSort tr to ss, ((List.mergeSort_perm ss _).trans hp).nodup_iff.2 hnd, fun x => by rw [((List.mergeSort_perm ss _).trans hp).mem_iff, hmem]⟩
theorem sortsS (m : Nat) : AnyZ.SortsIn Try.prog Try.sortedS_ren Fence.wide m :=
  ⟨fun blk off cap ss W hH hblk hsz => callsIn_wide.2 (AnyM.slices_Sort_string Try.sortS blk off cap ss W hH hblk hsz),
   fun p cap W => callsIn_wide.2 (AnyM.slices_Sort_string_none Try.sortS p cap W)⟩
set_option maxHeartbeats 1000000 in
theorem keysS_any (mb : Option Nat) (W : World) : Calls Try.prog 48 #[.map mb] W fun e w' => e = .returned (.func (.func 71) #[] #[.pointer (some ⟨W.heap.size, 0, none⟩)]) ∧ w' = W.alloc (.cells #[.map mb] 62) :=
  (callsIn_wide (n := 5)).1 (AnyZ.keys_in Try.keysS Fence.wide 5 trivial rfl mb W)
set_option maxHeartbeats 1000000 in
theorem sortedS_any (b nn : Nat) (D0 : DataW Value) (w : World) (hown : w.ownsMap Try.prog 9 anyR b nn D0) (hmax : Maps.size D0 ≤ maxLen) (hbytes : Maps.size D0 * 16 ≤ 140737488355328) :
    Calls Try.prog 47 #[.func (.func 71) #[] #[.pointer (some ⟨w.heap.size, 0, none⟩)]] (w.alloc (.cells #[.map (some b)] 62)) fun e w' => ∃ (v : Value) (ss : List (List UInt8)), e = .returned v ∧ ss.Perm (strKeys D0) ∧
      w'.ownsRow (w.heap.size + 1) 9 1 v ss.length ((ss.mergeSort (fun x y => decide (x ≤ y))).map encStr) ∧ (v = .slice none 0 0 ↔ ss = []) ∧ Below (w.heap.size + 1) (w.alloc (.cells #[.map (some b)] 62)) w' := by
  have hbl := hown.lt
  have hseq : SeqGives Fence.wide 2 Try.prog 71 #[.pointer (some ⟨w.heap.size, 0, none⟩)] encStr (fun ss => ss.Perm (strKeys D0)) (Maps.size D0) (w.alloc (.cells #[.map (some b)] 62)) :=
    AnyZ.keys_gives (ρ := Try.keysS_ren) { Try.keysS with } Fence.wide _ trivial rfl (by omega) w.heap.size b nn D0 _ (by simp) (by simp) (by
      obtain ⟨es, clock, hb, Ft, hs, hD⟩ := hown
      exact ⟨es, clock, (Below.heap_alloc _ _ b hbl).trans hb, Ft, hs, hD⟩)
  have cS := AnyZ.sorted_in Try.sortedS Fence.wide 5 trivial trivial trivial trivial rfl (by omega) (sortsS _) (enters_of Try.func70 (by kernel_rfl) rfl) 71 #[.pointer (some ⟨w.heap.size, 0, none⟩)] trivial (enters_of Try.func71 (by kernel_rfl) rfl) _ _ hmax hbytes _ hseq
  have h := (callsIn_wide (n := 5)).1 cS
  refine Calls.mono h ?_
  rintro e w' ⟨v, ss, he, hp, ho, hn, hb⟩
  rw [World.size_alloc] at ho hb
  exact ⟨v, ss, he, hp, ho, hn, hb⟩
/-- A row of texts of the call's own. -/
def OwnT (w : World) (base : Nat) (v : Value) (ks : List (List UInt8)) : Prop := w.ownsRow base 9 1 v ks.length (ks.map encStr)
set_option maxRecDepth 100000 in
set_option maxHeartbeats 1000000 in
theorem all_of (w : World) (g n : Nat) (L : OLay) (S : C.Os) (h : SetAt w g n L S) (hn : n ≤ 1000000) :
    Calls Try.prog 19 #[.pointer (some ⟨g, 0, none⟩)] w fun e w' => (∃ v ks, e = .returned v ∧ IsAll S ks ∧ OwnT w' w.heap.size v ks) ∧ Below w.heap.size w w' := by
  obtain ⟨c0, c1, c2⟩ := h.cells
  obtain ⟨m, ⟨D, hown, hr⟩, hm⟩ := h.mT
  have hsz : Maps.size D ≤ n := hown.size_le
  have HK : Hid _ := keysS_any (some L.bT) w
  have HS : Hid _ := sortedS_any L.bT _ D w hown (by unfold maxLen; omega) (by omega)
  have HF2 : Hid (∀ ss : List (List UInt8), ss.Perm (strKeys D) → IsAll S (ss.mergeSort fun x y => decide (x ≤ y))) := fun ss hp => is_all hown hr hm hp
  clear hown hr hm hsz h c0 c2
  go_enter Try.func19, Try.ntmps19
  go_wp2_with fail
  refine Calls.mono HK.out ?_
  rintro e w1 ⟨rfl, hw⟩
  subst hw
  go_wp2_with fail
  refine Calls.mono HS.out ?_
  rintro e w2 ⟨v, ss, rfl, hp, ho2, hn2, hb2⟩
  have HA : Hid (IsAll S (ss.mergeSort fun x y => decide (x ≤ y))) := HF2.out ss hp
  have HO : Hid (OwnT w2 w.heap.size v (ss.mergeSort fun x y => decide (x ≤ y))) := by
    show w2.ownsRow _ _ _ _ _ _
    rw [List.length_mergeSort]
    exact ⟨ho2.1, ho2.2.imp id fun ⟨g, cap, cur, h1, h2, h3⟩ => ⟨g, cap, cur, h1, Nat.le_trans (Nat.le_succ _) h2, h3⟩⟩
  have HB2 : Hid _ := hb2
  clear hp ho2 hn2 hb2
  go_wp2
  go_ret
  exact ⟨⟨v, _, rfl, HA.out, HO.out⟩, bt (below_new _ _) (by have := HB2.out; rw [← World.size_alloc w (.cells #[.map (some L.bT)] 62)] at this; exact this)⟩
end Go.Proofs.Ytoglhhoniojbaaa

namespace Go.Proofs.Ytoglhhoniojbaaa
open Go.RowKit Go.Lib
set_option linter.unusedVariables false

def eqL (a b : List C.Dt) : Bool := decide (a = b)
set_option maxRecDepth 100000 in
set_option maxHeartbeats 4000000 in
theorem equalD_any (v1 v2 : Value) (l1 l2 : List C.Dt) (w : World) (h1 : OwnD w v1 l1) (h2 : OwnD w v2 l2) (hl : l1.length ≤ 1000000) :
    Calls Try.prog 43 #[v1, v2] w fun e w' => e = .returned (.bool (eqL l1 l2)) ∧ Below w.heap.size w w' := by
  obtain ⟨q1, c1, hv1⟩ := h1.len
  obtain ⟨q2, c2, hv2⟩ := h2.len
  subst hv1 hv2
  have H1 : Hid (OwnD w (.slice q1 l1.length c1) l1) := h1
  have H2 : Hid (OwnD w (.slice q2 l2.length c2) l2) := h2
  clear h1 h2
  by_cases hlen : l1.length = l2.length
  · obtain ⟨n, hn⟩ : ∃ n, n = l1.length := ⟨_, rfl⟩
    have HN : Hid (n = l1.length) := hn
    have HN2 : Hid (n = l2.length) := by show n = _; omega
    obtain ⟨r, hr⟩ : ∃ r, r = eqL l1 l2 := ⟨_, rfl⟩
    have HR : Hid (r = eqL l1 l2) := hr
    rw [← hlen, ← hn, ← hr]
    rw [← hn] at hl
    clear hlen hn hr
    go_enter Try.func43, Try.ntmps43
    go_wp2_with fail
    go_loopw [13] (fun s13 wr => ∃ k : Nat, s13 = .int .i64 k ∧ k ≤ n ∧ Hid (l1.take k = l2.take k) ∧ Hid (Below w.heap.size w wr)) (fun s13 _ => n - (intOf s13).toNat)
    case atStart => exact ⟨0, rfl, Nat.zero_le _, rfl, Below.refl _ _⟩
    case round =>
      obtain ⟨k, rfl, hkn, HK, HB⟩ := hrel
      by_cases hlt : k < n
      · obtain ⟨x, hx⟩ : ∃ x, l1[k]? = some x := ⟨_, List.getElem?_eq_getElem (by have := HN.out; omega)⟩
        obtain ⟨y, hy⟩ : ∃ y, l2[k]? = some y := ⟨_, List.getElem?_eq_getElem (by have := HN2.out; omega)⟩
        obtain ⟨g1, cc1, e1⟩ := OwnD.at H1.out (by have := HN.out; omega)
        obtain ⟨g2, cc2, e2⟩ := OwnD.at H2.out (by have := HN2.out; omega)
        cases e1
        cases e2
        have hne : Nonempty (NewW wr) := ⟨NewW.start wr⟩
        have a0 : ∀ m : NewW wr, m.v.cell? ⟨g1, k * 2, none⟩ = some (.int .i64 x.1) := fun m => (OwnD.cell (OwnD.below H1.out (bt HB.out m.h)) k x hx).1
        have a1 : ∀ m : NewW wr, m.v.cell? ⟨g1, k * 2 + 1, none⟩ = some (.int .i64 x.2) := fun m => (OwnD.cell (OwnD.below H1.out (bt HB.out m.h)) k x hx).2
        have b0 : ∀ m : NewW wr, m.v.cell? ⟨g2, k * 2, none⟩ = some (.int .i64 y.1) := fun m => (OwnD.cell (OwnD.below H2.out (bt HB.out m.h)) k y hy).1
        have b1 : ∀ m : NewW wr, m.v.cell? ⟨g2, k * 2 + 1, none⟩ = some (.int .i64 y.2) := fun m => (OwnD.cell (OwnD.below H2.out (bt HB.out m.h)) k y hy).2
        obtain ⟨qb, hqb⟩ : ∃ qb, qb = (x.1 == y.1 && x.2 == y.2) := ⟨_, rfl⟩
        have kq : ∀ W, (Op.equalIn 10000 31 (.agg #[.int .i64 x.1, .int .i64 x.2]) (.agg #[.int .i64 y.1, .int .i64 y.2])).run Try.prog W = .ok qb W := fun W => by rw [hqb]; exact eq2_dot x.1 x.2 y.1 y.2 W
        have HQ : Hid (qb = true ↔ x = y) := by
          show _ ↔ _
          rw [hqb]; simp [Prod.ext_iff]
        have HX : Hid (l1[k]? = some x) := hx
        have HY : Hid (l2[k]? = some y) := hy
        clear hqb hx hy
        cases qb with
        | true =>
          go_wp2_with fail
          refine wp_region_new (by kernel_rfl) (by kernel_rfl) ?_
          repeat (go_big_quiet_step (fail))
          refine wpQuiet_nil ?_
          rintro _ ⟨w2, rfl⟩
          go_wp2
          go_roundw
          case rel =>
            refine ⟨k + 1, by go_num, by omega, ?_, bt HB.out w2.h⟩
            show _ = _
            rw [List.take_add_one, List.take_add_one, HX.out, HY.out, HK.out, HQ.out.1 (by trivial)]
          case measure => simp [intOf]; omega
        | false =>
          go_wp2_with fail
          refine wp_region_new (by kernel_rfl) (by kernel_rfl) ?_
          repeat (go_big_quiet_step (fail))
          refine wpQuiet_nil ?_
          rintro _ ⟨w2, rfl⟩
          go_wp2
          go_ret
          refine ⟨?_, bt HB.out w2.h⟩
          have : r = false := by
            rw [HR.out]
            refine decide_eq_false fun e => ?_
            have h1 := HX.out
            rw [e, HY.out] at h1
            simp only [Option.some.injEq] at h1
            have := HQ.out.2 h1.symm
            cases this
          rw [this]; rfl
      · obtain rfl : k = n := by omega
        go_wp2
        go_ret
        refine ⟨?_, HB.out⟩
        have : r = true := by
          rw [HR.out]
          refine decide_eq_true ?_
          have h := HK.out
          rw [List.take_of_length_le (by have := HN.out; omega), List.take_of_length_le (by have := HN2.out; omega)] at h
          exact h
        rw [this]; rfl
  · have e : eqL l1 l2 = false := decide_eq_false fun e => hlen (by rw [e])
    rw [e]
    clear e H1 H2
    generalize l1.length = n1 at *
    generalize l2.length = n2 at *
    have hn : ¬ ((n1 : Int) = (n2 : Int)) := by omega
    go_enter Try.func43, Try.ntmps43
    go_wp2
    go_ret
    exact ⟨rfl, Below.refl _ _⟩
def sameS (a b : C.Ds) : Bool := C.same a.c b.c && eqL a.l b.l
theorem sameS_iff (a b : C.Ds) : sameS a b = true ↔ a = b := by
  unfold sameS eqL
  rw [Bool.and_eq_true, C.same_iff, decide_eq_true_eq]
  cases a; cases b; simp
end Go.Proofs.Ytoglhhoniojbaaa

namespace Go.Proofs.Ytoglhhoniojbaaa
open Go.RowKit Go.Lib
set_option linter.unusedVariables false

set_option maxRecDepth 100000 in
set_option maxHeartbeats 4000000 in
theorem rless_any (a1 a2 b1 b2 : Int) (w : World) :
    Calls Try.prog 72 #[.agg #[.int .i64 a1, .int .i64 a2], .agg #[.int .i64 b1, .int .i64 b2]] w fun e w' => e = .returned (.bool (C.dlt (a1, a2) (b1, b2))) ∧ Below w.heap.size w w' := by
  by_cases h1 : a1 < b1
  · have e : C.dlt (a1, a2) (b1, b2) = true := (C.dlt_iff _ _).2 (Or.inl h1)
    rw [e]; clear e
    go_enter Try.func72, Try.ntmps72
    go_wp2
    go_ret
    exact ⟨rfl, bt (below_new _ _) (below_new _ _)⟩
  · by_cases h2 : a1 = b1
    · subst h2
      have e : C.dlt (a1, a2) (a1, b2) = decide (a2 < b2) := by simp [C.dlt]
      rw [e]; clear e
      go_enter Try.func72, Try.ntmps72
      go_wp2
      go_ret
      exact ⟨rfl, bt (below_new _ _) (below_new _ _)⟩
    · have e : C.dlt (a1, a2) (b1, b2) = false := (C.dlt_not _ _).2 (by simp only; omega)
      rw [e]; clear e
      have h3 : decide (a1 < b1) = false := by simpa using h1
      have h4 : (a1 == b1) = false := by simpa using h2
      go_enter Try.func72, Try.ntmps72
      go_wp2
      go_ret
      exact ⟨rfl, bt (below_new _ _) (below_new _ _)⟩
set_option maxRecDepth 100000 in
set_option maxHeartbeats 4000000 in
theorem rmay_any (d1 d2 : Int) (w : World) :
    Calls Try.prog 44 #[.agg #[.int .i64 d1, .int .i64 d2]] w fun e w' => e = .returned (.bool (C.may (d1, d2))) ∧ Below w.heap.size w w' := by
  by_cases h0 : 0 ≤ d1
  · by_cases h7 : d1 < 7
    · by_cases h1 : 1 ≤ d2
      · have e : C.may (d1, d2) = decide (d2 ≤ 1099511627776) := by simp [C.may, h0, h7, h1]
        rw [e]; clear e
        go_enter Try.func44, Try.ntmps44
        go_wp2
        go_ret
        exact ⟨rfl, below_new _ _⟩
      · have e : C.may (d1, d2) = false := by simp [C.may, h1]
        rw [e]; clear e
        have h1' : decide (1 ≤ d2) = false := by simpa using h1
        go_enter Try.func44, Try.ntmps44
        go_wp2
        go_ret
        exact ⟨rfl, below_new _ _⟩
    · have e : C.may (d1, d2) = false := by simp [C.may, h7]
      rw [e]; clear e
      have h7' : decide (d1 < 7) = false := by simpa using h7
      go_enter Try.func44, Try.ntmps44
      go_wp2
      go_ret
      exact ⟨rfl, below_new _ _⟩
  · have e : C.may (d1, d2) = false := by simp [C.may, h0]
    rw [e]; clear e
    have h0' : decide (0 ≤ d1) = false := by simpa using h0
    go_enter Try.func44, Try.ntmps44
    go_wp2
    go_ret
    exact ⟨rfl, below_new _ _⟩
set_option maxRecDepth 100000 in
set_option maxHeartbeats 4000000 in
theorem rsame_any (v1 v2 : Value) (l1 l2 : List C.Dt) (w : World) (h1 : OwnD w v1 l1) (h2 : OwnD w v2 l2) (hl : l1.length ≤ 1000000) :
    Calls Try.prog 49 #[v1, v2] w fun e w' => e = .returned (.bool (eqL l1 l2)) ∧ Below w.heap.size w w' := by
  obtain ⟨q1, c1, hv1⟩ := h1.len
  obtain ⟨q2, c2, hv2⟩ := h2.len
  subst hv1 hv2
  have H1 : Hid (OwnD w (.slice q1 l1.length c1) l1) := h1
  have H2 : Hid (OwnD w (.slice q2 l2.length c2) l2) := h2
  clear h1 h2
  by_cases hlen : l1.length = l2.length
  · obtain ⟨n, hn⟩ : ∃ n, n = l1.length := ⟨_, rfl⟩
    have HN : Hid (n = l1.length) := hn
    have HN2 : Hid (n = l2.length) := by show n = _; omega
    obtain ⟨r, hr⟩ : ∃ r, r = eqL l1 l2 := ⟨_, rfl⟩
    have HR : Hid (r = eqL l1 l2) := hr
    rw [← hlen, ← hn, ← hr]
    rw [← hn] at hl
    clear hlen hn hr
    go_enter Try.func49, Try.ntmps49
    go_wp2_with fail
    go_loopw [5] (fun s5 wr => ∃ k : Nat, s5 = .int .i64 k ∧ k ≤ n ∧ Hid (l1.take k = l2.take k) ∧ Hid (Below w.heap.size w wr)) (fun s5 _ => n - (intOf s5).toNat)
    case atStart => exact ⟨0, rfl, Nat.zero_le _, rfl, Below.refl _ _⟩
    case round =>
      obtain ⟨k, rfl, hkn, HK, HB⟩ := hrel
      by_cases hlt : k < n
      · obtain ⟨x, hx⟩ : ∃ x, l1[k]? = some x := ⟨_, List.getElem?_eq_getElem (by have := HN.out; omega)⟩
        obtain ⟨y, hy⟩ : ∃ y, l2[k]? = some y := ⟨_, List.getElem?_eq_getElem (by have := HN2.out; omega)⟩
        obtain ⟨g1, cc1, e1⟩ := OwnD.at H1.out (by have := HN.out; omega)
        obtain ⟨g2, cc2, e2⟩ := OwnD.at H2.out (by have := HN2.out; omega)
        cases e1
        cases e2
        have hne : Nonempty (NewW wr) := ⟨NewW.start wr⟩
        have a0 : ∀ m : NewW wr, m.v.cell? ⟨g1, k * 2, none⟩ = some (.int .i64 x.1) := fun m => (OwnD.cell (OwnD.below H1.out (bt HB.out m.h)) k x hx).1
        have a1 : ∀ m : NewW wr, m.v.cell? ⟨g1, k * 2 + 1, none⟩ = some (.int .i64 x.2) := fun m => (OwnD.cell (OwnD.below H1.out (bt HB.out m.h)) k x hx).2
        have b0 : ∀ m : NewW wr, m.v.cell? ⟨g2, k * 2, none⟩ = some (.int .i64 y.1) := fun m => (OwnD.cell (OwnD.below H2.out (bt HB.out m.h)) k y hy).1
        have b1 : ∀ m : NewW wr, m.v.cell? ⟨g2, k * 2 + 1, none⟩ = some (.int .i64 y.2) := fun m => (OwnD.cell (OwnD.below H2.out (bt HB.out m.h)) k y hy).2
        obtain ⟨qb, hqb⟩ : ∃ qb, qb = (x.1 == y.1 && x.2 == y.2) := ⟨_, rfl⟩
        have kq : ∀ W, (Op.equalIn 10000 31 (.agg #[.int .i64 x.1, .int .i64 x.2]) (.agg #[.int .i64 y.1, .int .i64 y.2])).run Try.prog W = .ok qb W := fun W => by rw [hqb]; exact eq2_dot x.1 x.2 y.1 y.2 W
        have HQ : Hid (qb = true ↔ x = y) := by
          show _ ↔ _
          rw [hqb]; simp [Prod.ext_iff]
        have HX : Hid (l1[k]? = some x) := hx
        have HY : Hid (l2[k]? = some y) := hy
        clear hqb hx hy
        cases qb with
        | true =>
          go_wp2_with fail
          refine wp_region_new (by kernel_rfl) (by kernel_rfl) ?_
          repeat (go_big_quiet_step (fail))
          refine wpQuiet_nil ?_
          rintro _ ⟨w2, rfl⟩
          go_wp2
          go_roundw
          case rel =>
            refine ⟨k + 1, by go_num, by omega, ?_, bt HB.out w2.h⟩
            show _ = _
            rw [List.take_add_one, List.take_add_one, HX.out, HY.out, HK.out, HQ.out.1 (by trivial)]
          case measure => simp [intOf]; omega
        | false =>
          go_wp2_with fail
          refine wp_region_new (by kernel_rfl) (by kernel_rfl) ?_
          repeat (go_big_quiet_step (fail))
          refine wpQuiet_nil ?_
          rintro _ ⟨w2, rfl⟩
          go_wp2
          go_ret
          refine ⟨?_, bt HB.out w2.h⟩
          have : r = false := by
            rw [HR.out]
            refine decide_eq_false fun e => ?_
            have h1 := HX.out
            rw [e, HY.out] at h1
            simp only [Option.some.injEq] at h1
            have := HQ.out.2 h1.symm
            cases this
          rw [this]; rfl
      · obtain rfl : k = n := by omega
        go_wp2
        go_ret
        refine ⟨?_, HB.out⟩
        have : r = true := by
          rw [HR.out]
          refine decide_eq_true ?_
          have h1 := HK.out
          rwa [List.take_of_length_le (by have := HN.out; omega), List.take_of_length_le (by have := HN2.out; omega)] at h1
        rw [this]; rfl
  · have e : eqL l1 l2 = false := decide_eq_false fun e => hlen (by rw [e])
    have hlen' : ((l1.length : Int) == (l2.length : Int)) = false := by
      have : (l1.length : Int) ≠ (l2.length : Int) := by omega
      simpa using this
    rw [e]
    clear e
    go_enter Try.func49, Try.ntmps49
    go_wp2
    go_ret
    exact ⟨rfl, Below.refl _ _⟩
end Go.Proofs.Ytoglhhoniojbaaa

namespace Go.Proofs.Ytoglhhoniojbaaa
open Go.RowKit Go.Lib Go.Sort Go.Shelf
set_option linter.unusedVariables false

/-- A row of texts as it lies. -/
def TAt (w : World) (v : Value) (ks : List (List UInt8)) : Prop := ∃ p c, v = .slice p ks.length c ∧ (0 < ks.length → ∃ b o, p = some ⟨b, o, none⟩ ∧ ∀ i x, ks[i]? = some x → w.cell? ⟨b, o + i, none⟩ = some (encStr x))
theorem TAt.below {w w' : World} {v : Value} {ks : List (List UInt8)} (h : TAt w v ks) (hb : Below w.heap.size w w') : TAt w' v ks := by
  obtain ⟨p, c, rfl, h⟩ := h
  refine ⟨p, c, rfl, fun hl => ?_⟩
  obtain ⟨b, o, hp, hc⟩ := h hl
  exact ⟨b, o, hp, fun i x hx => (hb.cell (p := ⟨b, o + i, none⟩) (World.block_lt_of_cell? _ _ (hc i x hx))).trans (hc i x hx)⟩
theorem OwnT.at {w : World} {base : Nat} {v : Value} {ks : List (List UInt8)} (h : OwnT w base v ks) : TAt w v ks := by
  obtain ⟨p, c, rfl, h1, h2, h3⟩ := row_src h
  refine ⟨p, c, rfl, fun hl => ?_⟩
  cases p with
  | none => exact absurd (h2 rfl) (by omega)
  | some a =>
    obtain ⟨b, o, s⟩ := a
    rcases h.2 with ⟨hv, _⟩ | ⟨g, cap, cur, hv, _⟩
    · cases hv
    · cases hv
      refine ⟨_, 0, rfl, fun i x hx => ?_⟩
      have := h3 _ rfl i (encStr x) (by rw [List.getElem?_map, hx]; rfl)
      rw [WideShapes.add_plain] at this
      exact this
theorem tat_one (w : World) (x : List UInt8) (t : TypeId) : TAt (w.alloc (.cells #[encStr x] t)) (.slice (some ⟨w.heap.size, 0, none⟩) 1 1) [x] :=
  ⟨_, _, rfl, fun _ => ⟨_, 0, rfl, fun i y hy => by
    obtain ⟨hi, e⟩ := List.getElem?_eq_some_iff.1 hy
    obtain rfl : i = 0 := by simpa using hi
    obtain rfl : x = y := e
    simp [World.cell?_alloc_mark]⟩⟩
set_option maxRecDepth 100000 in
set_option maxHeartbeats 2000000 in
theorem texts_true (u v : Value) (ks : List (List UInt8)) (w : World) (hu : TAt w u ks) (hv : TAt w v ks) (hl : ks.length ≤ 1000000) :
    Calls Try.prog 18 #[u, v] w fun e w' => e = .returned (.bool true) ∧ Below w.heap.size w w' := by
  have HU : Hid (TAt w u ks) := hu
  have HV : Hid (TAt w v ks) := hv
  obtain ⟨p, c, rfl, h1⟩ := hu
  obtain ⟨q, d, rfl, h2⟩ := hv
  have H1 : Hid (0 < ks.length → ∃ b o, p = some ⟨b, o, none⟩ ∧ ∀ i x, ks[i]? = some x → w.cell? ⟨b, o + i, none⟩ = some (encStr x)) := h1
  have H2 : Hid (0 < ks.length → ∃ b o, q = some ⟨b, o, none⟩ ∧ ∀ i x, ks[i]? = some x → w.cell? ⟨b, o + i, none⟩ = some (encStr x)) := h2
  obtain ⟨n, hn⟩ : ∃ n, n = ks.length := ⟨_, rfl⟩
  have HN : Hid (n = ks.length) := hn
  rw [← hn] at hl H1 H2 ⊢
  clear h1 h2 hn HU HV
  go_enter Try.func18, Try.ntmps18
  go_wp2_with fail
  go_loopw [5] (fun s5 wr => ∃ k : Nat, s5 = .int .i64 k ∧ k ≤ n ∧ Hid (Below w.heap.size w wr)) (fun s5 _ => n - (intOf s5).toNat)
  case atStart => exact ⟨0, rfl, Nat.zero_le _, Below.refl _ _⟩
  case round =>
    obtain ⟨k, rfl, hkn, HB⟩ := hrel
    by_cases hlt : k < n
    · obtain ⟨x, hx⟩ : ∃ x, ks[k]? = some x := ⟨_, List.getElem?_eq_getElem (by have := HN.out; omega)⟩
      obtain ⟨b, o, rfl, hc⟩ := H1.out (by omega)
      obtain ⟨b2, o2, rfl, hc2⟩ := H2.out (by omega)
      have a0 := hc k x hx
      have b0 := hc2 k x hx
      have HA : Hid (∀ m : NewW wr, m.v.cell? ⟨b, o + k, none⟩ = some (encStr x)) := fun m => ((bt HB.out m.h).cell (p := ⟨b, o + k, none⟩) (World.block_lt_of_cell? _ _ a0)).trans a0
      have HA2 : Hid (∀ m : NewW wr, m.v.cell? ⟨b2, o2 + k, none⟩ = some (encStr x)) := fun m => ((bt HB.out m.h).cell (p := ⟨b2, o2 + k, none⟩) (World.block_lt_of_cell? _ _ b0)).trans b0
      clear hc hc2 a0 b0 hx
      obtain ⟨tx, htx⟩ : ∃ tx : ByteArray, tx = ⟨x.toArray⟩ := ⟨_, rfl⟩
      have a1 := HA.out
      have b1 := HA2.out
      simp only [encStr, ← htx] at a1 b1
      have hne : Nonempty (NewW wr) := ⟨NewW.start wr⟩
      clear htx HA HA2
      go_wp2_with fail
      refine wp_region_new (by kernel_rfl) (by kernel_rfl) ?_
      repeat (go_big_quiet_step (fail))
      refine wpQuiet_nil ?_
      rintro _ ⟨w2, rfl⟩
      have HB2 : Hid (Below w.heap.size w w2.v) := bt HB.out w2.h
      clear a1 b1 hne
      go_wp2
      go_roundw
      case rel => exact ⟨k + 1, by go_num, by omega, HB2.out⟩
      case measure => simp [intOf]; omega
    · obtain rfl : k = n := by omega
      go_wp2
      go_ret
      exact ⟨rfl, HB.out⟩
theorem odots_true (u v : Value) (l : List C.Dt) (w : World) (hu : OwnD w u l) (hv : OwnD w v l) (hl : l.length ≤ 1000000) :
    Calls Try.prog 21 #[u, v] w fun e w' => e = .returned (.bool true) ∧ Below w.heap.size w w' := by
  have HR := rsame_any u v l l w hu hv hl
  rw [show eqL l l = true from decide_eq_true rfl] at HR
  have HS : Hid _ := HR
  clear HR hu hv
  go_enter Try.func21, Try.ntmps21
  go_wp2_with fail
  refine Calls.mono HS.out ?_
  rintro e w1 ⟨rfl, hb⟩
  have HB : Hid _ := hb
  clear hb
  go_wp2
  go_ret
  exact ⟨rfl, HB.out⟩
end Go.Proofs.Ytoglhhoniojbaaa

namespace Go.Proofs.Ytoglhhoniojbaaa
open Go.RowKit Go.Lib Go.Sort Go.Shelf
set_option linter.unusedVariables false

namespace C
theorem th_T (S : Os) (x : Tx) (l : List Dt) (y : Tx) : (S.addT x l).th y = if y = x then l else S.th y := rfl
theorem th_A (S : Os) (d : Dt) (x y : Tx) : (S.addA d x).th y = S.th y := rfl
theorem th_G (S : Os) (x : Tx) (c : V7) (y : Tx) : (S.addG x c).th y = S.th y := rfl
theorem go_T (S : Os) (x : Tx) (l : List Dt) (y : Tx) : (S.addT x l).go y = S.go y := rfl
theorem go_A (S : Os) (d : Dt) (x y : Tx) : (S.addA d x).go y = S.go y := rfl
theorem go_G (S : Os) (x : Tx) (c : V7) (y : Tx) : (S.addG x c).go y = if y = x then c else S.go y := rfl
theorem ad_T (S : Os) (x : Tx) (l : List Dt) (e : Dt) : (S.addT x l).ad e = S.ad e := rfl
theorem ad_A (S : Os) (d : Dt) (x : Tx) (e : Dt) : (S.addA d x).ad e = if e = d then some x else S.ad e := rfl
theorem ad_G (S : Os) (x : Tx) (c : V7) (e : Dt) : (S.addG x c).ad e = S.ad e := rfl
theorem addO_new {S : Os} {d : Dt} {x : Tx} (hm : may d = true) (hl : tooLong x = false) (hn : S.ad d = none) (hh : has (S.go x) d.1 d.2 = false) : addO S d x = (S.addA d x).addT x (insL d (S.th x)) := by
  unfold addO
  rw [if_pos ⟨hm, hl, hn⟩, if_neg (by rw [hh]; simp)]
theorem addO_gone {S : Os} {d : Dt} {x : Tx} (hm : may d = true) (hl : tooLong x = false) (hn : S.ad d = none) (hh : has (S.go x) d.1 d.2 = true) : addO S d x = S.addA d x := by
  unfold addO
  rw [if_pos ⟨hm, hl, hn⟩, if_pos hh]
theorem addO_same {S : Os} {d : Dt} {x : Tx} (h : ¬ (may d = true ∧ tooLong x = false ∧ S.ad d = none)) : addO S d x = S := by
  unfold addO
  rw [if_neg h]
theorem errO_new {S : Os} {d : Dt} {x : Tx} (hm : may d = true) (hl : tooLong x = false) (hn : S.ad d = none) : errO S d x = 0 := by
  unfold errO
  rw [if_pos ⟨hm, hl⟩, hn]
theorem remO_good {S : Os} {x : Tx} {c : V7} (hl : tooLong x = false) (hg : good c = true) : remO S x c = (S.addG x (mrg (S.go x) c)).addT x (unseen c (S.th x)) := by
  unfold remO
  rw [if_pos ⟨hl, hg⟩]
theorem errR_good {x : Tx} {c : V7} (hl : tooLong x = false) (hg : good c = true) : errR x c = 0 := by
  unfold errR
  rw [if_pos ⟨hl, hg⟩]
theorem zero_few : Few Os.zero 0 := fun x => Nat.le_refl _
theorem few_mono {S : Os} {a b : Nat} (h : Few S a) (hab : a ≤ b) : Few S b := fun x => Nat.le_trans (h x) hab
def txX : Tx := ⟨#[120]⟩
/-- What awake makes. -/
def aw1 : Os := addO Os.zero (0, 1) txX
def aw2 : Os := remO aw1 txX ⟨1, 0, 0, 0, 0, 0, 0⟩
def aw3 : Os := addO aw2 (1, 1) txX
theorem aw1_is : aw1 = (Os.zero.addA (0, 1) txX).addT txX [(0, 1)] := addO_new (by decide) (by decide) rfl (by decide)
theorem aw2_is : aw2 = (aw1.addG txX ⟨1, 0, 0, 0, 0, 0, 0⟩).addT txX [] := by
  have h := remO_good (S := aw1) (x := txX) (c := ⟨1, 0, 0, 0, 0, 0, 0⟩) (by decide) (by decide)
  have e1 : aw1.go txX = z7 := by rw [aw1_is]; rfl
  have e2 : aw1.th txX = [(0, 1)] := by rw [aw1_is, th_T, if_pos rfl]
  rw [e1, e2] at h
  exact h
theorem aw2_go : aw2.go txX = ⟨1, 0, 0, 0, 0, 0, 0⟩ := by rw [aw2_is, go_T, go_G, if_pos rfl]
theorem aw2_th : aw2.th txX = [] := by rw [aw2_is, th_T, if_pos rfl]
theorem aw2_ad : aw2.ad (1, 1) = none := by rw [aw2_is, ad_T, ad_G, aw1_is, ad_T, ad_A, if_neg (by decide)]; rfl
theorem aw3_is : aw3 = (aw2.addA (1, 1) txX).addT txX [(1, 1)] := by
  have h := addO_new (S := aw2) (d := (1, 1)) (x := txX) (by decide) (by decide) aw2_ad (by rw [aw2_go]; decide)
  rw [aw2_th] at h
  exact h
theorem aw3_th : aw3.th txX = [(1, 1)] := by rw [aw3_is, th_T, if_pos rfl]
theorem aw3_other {y : Tx} (h : y ≠ txX) : aw3.th y = [] := by
  rw [aw3_is, th_T, if_neg h, th_A, aw2_is, th_T, if_neg h, th_G, aw1_is, th_T, if_neg h, th_A]
  rfl
theorem aw_few1 : Few aw1 1 := addO_few zero_few _ _
theorem aw_few2 : Few aw2 1 := remO_few aw_few1 _ _
theorem aw_few3 : Few aw3 2 := addO_few aw_few2 _ _
theorem aw3_all : IsAll aw3 [[120]] := ⟨List.pairwise_singleton _ _, by simp, fun b => by
  rw [List.mem_singleton]
  constructor
  · rintro rfl
    refine ⟨?_, by decide⟩
    rw [show (⟨[(120 : UInt8)].toArray⟩ : Tx) = txX from rfl, aw3_th]
    simp
  · rintro ⟨h, _⟩
    by_cases hb : (⟨b.toArray⟩ : Tx) = txX
    · have h1 := congrArg (fun t : Tx => t.data.toList) hb
      exact h1
    · exact absurd (aw3_other hb) h⟩
end C
theorem own_one (w : World) (a b : Int) : OwnD (w.alloc (.cells #[.int .i64 a, .int .i64 b] 31)) (.slice (some ⟨w.heap.size, 0, none⟩) 1 1) [(a, b)] :=
  OwnD.make (cur := [.int .i64 a, .int .i64 b]) (l := [(a, b)]) (cap := 1) (heap_alloc_new w _) (by simp) (by decide) rfl rfl
set_option maxRecDepth 100000 in
set_option maxHeartbeats 4000000 in
theorem awake9_any (w : World) : Calls Try.prog 9 #[] w fun e w' => e = .returned (.bool true) ∧ Below w.heap.size w w' := by
  have HL : Hid (C.tooLong C.txX = false ∧ C.txX.size ≤ maxLen) := ⟨by decide, by decide⟩
  have HK : Hid (∀ n, n ≤ 100 → n + 2 < maxLen) := fun n hn => by unfold maxLen; omega
  go_enter Try.func9, Try.ntmps9
  go_wp2_with fail
  refine (s_new (OObjs.nil (Below.refl _ w))).mono ?_
  rintro e w1 ⟨g, L, rfl, h1, -⟩
  have H1 : Hid (OObjs w w1 ([] ++ ⟨g, 0, L, C.Os.zero⟩ :: [])) := h1
  clear h1
  go_wp2_with fail
  refine (s_add [] [] g 0 L C.Os.zero C.aw1 C.txX 0 1 0 H1.out (HK.out _ (by omega)) HL.out.2 (C.few_mono C.zero_few (by omega)) (C.errO_new (by decide) HL.out.1 rfl) rfl).mono ?_
  rintro e w2 ⟨rfl, L2, h2⟩
  have H2 : Hid (OObjs w w2 ([] ++ ⟨g, 2, L2, C.aw1⟩ :: [])) := h2
  clear h2 H1
  go_wp2_with fail
  refine (s_rem [] [] g 2 L2 C.aw1 C.aw2 C.txX ⟨1, 0, 0, 0, 0, 0, 0⟩ 0 H2.out (HK.out _ (by omega)) HL.out.2 (C.few_mono C.aw_few1 (by omega)) (C.errR_good HL.out.1 (by decide)) rfl).mono ?_
  rintro e w3 ⟨rfl, L3, h3⟩
  have H3 : Hid (OObjs w w3 ([] ++ ⟨g, 4, L3, C.aw2⟩ :: [])) := h3
  clear h3 H2
  go_wp2_with fail
  refine (s_add [] [] g 4 L3 C.aw2 C.aw3 C.txX 1 1 0 H3.out (HK.out _ (by omega)) HL.out.2 (C.few_mono C.aw_few2 (by omega)) (C.errO_new (by decide) HL.out.1 C.aw2_ad) rfl).mono ?_
  rintro e w4 ⟨rfl, L4, h4⟩
  have H4 : Hid (OObjs w w4 ([] ++ ⟨g, 6, L4, C.aw3⟩ :: [])) := h4
  clear h4 H3
  go_wp2_with fail
  refine (s_has [] [] g 6 L4 C.aw3 C.txX true H4.out HL.out.2 (C.few_mono C.aw_few3 (by omega)) (by rw [C.aw3_th]; rfl)).mono ?_
  rintro e w5 ⟨rfl, hw⟩
  subst hw
  go_wp2_with fail
  refine (all_of w5 g 6 L4 C.aw3 H4.out.get.1 (by omega)).mono ?_
  rintro e w6 ⟨⟨v, ks, rfl, hka, hko⟩, hb6⟩
  obtain rfl := hka.uniq C.aw3_all
  have H6 : Hid (OObjs w w6 ([] ++ ⟨g, 6, L4, C.aw3⟩ :: [])) := H4.out.below hb6
  have HT6 : Hid (TAt w6 v [[120]]) := OwnT.at hko
  clear hka hko hb6 H4
  go_wp2_with fail
  refine (texts_true v _ [[120]] _ (HT6.out.below (below_new w6 _)) (tat_one w6 [120] _) (by decide)).mono ?_
  rintro e w7 ⟨rfl, hb7⟩
  have H7 : Hid (OObjs w w7 ([] ++ ⟨g, 6, L4, C.aw3⟩ :: [])) := H6.out.below (bt (below_new w6 _) hb7)
  clear hb7 H6 HT6
  go_wp2_with fail
  refine (s_dots [] [] g 6 L4 C.aw3 C.txX H7.out HL.out.2 (C.few_mono C.aw_few3 (by omega))).mono ?_
  rintro e w8 ⟨⟨v8, rfl, ho8, -⟩, hb8⟩
  rw [C.aw3_th] at ho8
  have H8 : Hid (OObjs w w8 ([] ++ ⟨g, 6, L4, C.aw3⟩ :: [])) := H7.out.below hb8
  have HO8 : Hid (OwnD w8 v8 [(1, 1)]) := ho8
  clear ho8 hb8 H7
  go_wp2_with fail
  refine (odots_true v8 _ [(1, 1)] _ (HO8.out.below (below_new w8 _)) (own_one w8 1 1) (by decide)).mono ?_
  rintro e w9 ⟨rfl, hb9⟩
  have HB9 : Hid (Below w.heap.size w w9) := bt H8.out.bel (bt (below_new w8 _) hb9)
  clear hb9 H8
  go_wp2
  go_ret
  exact ⟨rfl, HB9.out⟩
end Go.Proofs.Ytoglhhoniojbaaa
