/-
  Several texts in one: BGMap2, OSame, OSame2, KKnown9.
-/
import Derived.Test.YtoglhhoniojbaaaBGMap
import Derived.Lib.SlMapEqual
import Derived.Test.YtoglhhoniojbaaaOAll
import Derived.Test.YtoglhhoniojbaaaLayQ
import Derived.Test.YtoglhhoniojbaaaZ4
import Derived.Test.YtoglhhoniojbaaaOCopy
import Derived.Laws.BytesArg
import Derived.Laws.OwnMore
namespace Go.Proofs.Ytoglhhoniojbaaa
open Go.RowKit Go.Lib Go.Maps Go.WideElems
set_option linter.unusedVariables false

theorem at_entry {H : Type} : ∀ (es : List (Lit × DataW H)), es.Pairwise (fun p q => p.1 ≠ q.1) → (∀ p ∈ es, WideAt.IsKeyLit p.1) → ∀ p ∈ es, Maps.has (.map es) p.1 = true ∧ ∀ z, (DataW.map es).atKey p.1 z = p.2
  | [], _, _, p, hp => by cases hp
  | q :: t, h, hk, p, hp => by
    obtain ⟨h1, h2⟩ := List.pairwise_cons.1 h
    rcases List.mem_cons.1 hp with rfl | hp
    · have hs := WideAt.sameKey_self (hk p (List.mem_cons_self ..))
      refine ⟨by rw [has_eq]; simp [hs], fun z => ?_⟩
      simp [DataW.atKey, List.find?, hs]
    · have hn := sameKey_ne (h1 p hp)
      obtain ⟨i1, i2⟩ := at_entry t h2 (fun x hx => hk x (List.mem_cons_of_mem _ hx)) p hp
      refine ⟨by rw [has_eq] at i1 ⊢; simp [hn, i1], fun z => ?_⟩
      have := i2 z
      simp only [DataW.atKey, List.find?, hn] at this ⊢
      exact this
/-- Each entry stands in the partial function. -/
theorem entry_at {w : World} {b : Nat} {K : TypeId} {m : Lit → Option Value} (KK : Keyed Try.prog K) {es : Array MapEntry} {clock : Nat} (hb : w.heap[b]? = some (.map es clock)) (F : Fit Try.prog K anyR es clock) (hr : GReads (.map ((es.toList.map (rg Try.prog K anyR)).foldr DataW.insert [])) m) {x : MapEntry} (hx : x ∈ es.toList) :
    ∃ kl, keyOf Try.prog K x.key = some kl ∧ m kl = some x.val := by
  obtain ⟨y, hy⟩ := F.reads x hx
  have hk := rd_key hy
  obtain ⟨z, hz, hz2⟩ := rd_val hy
  have e1 : y.2 = .held x.val := by rw [hz2]; cases hz; rfl
  have hmem : y ∈ (es.toList.map (rg Try.prog K anyR)).foldr DataW.insert [] := mem_sorted.2 (List.mem_map.2 ⟨x, hx, rg_of hy⟩)
  have hap : ((es.toList.map (rg Try.prog K anyR)).foldr DataW.insert []).Pairwise (fun p q => p.1 ≠ q.1) := by
    obtain ⟨es', he, h1, _⟩ := World.ownsMap.entries (w := w) (b := b) (n := es.size) ⟨es, clock, hb, F, Nat.le_refl _, rfl⟩ KK
    cases he
    exact h1
  have hkl : ∀ p ∈ (es.toList.map (rg Try.prog K anyR)).foldr DataW.insert [], WideAt.IsKeyLit p.1 := fun p hp => by
    obtain ⟨v, hv⟩ := fit_keys F p (mem_sorted.1 hp)
    exact KK.key hv
  obtain ⟨h1, h2⟩ := at_entry _ hap hkl y hmem
  refine ⟨y.1, hk, ?_⟩
  have h3 := (hr y.1).1
  rw [h1] at h3
  obtain ⟨v, hv⟩ := Option.isSome_iff_exists.1 h3.symm
  have h4 := (hr y.1).2 (.bool false)
  rw [h2, e1, hv] at h4
  have h5 : x.val = v := DataW.held.inj h4
  rw [h5]
  exact hv
end Go.Proofs.Ytoglhhoniojbaaa

namespace Go.Proofs.Ytoglhhoniojbaaa
open Go.RowKit Go.Lib Go.Maps Go.Sort Go.Shelf Go.WideElems
set_option linter.unusedVariables false

theorem rowD_inj : ∀ (a b : List C.Dt), rowD a = rowD b → a = b
  | [], [], _ => rfl
  | [], y :: t, h => by simp [rowD, encD] at h
  | x :: s, [], h => by simp [rowD, encD] at h
  | x :: s, y :: t, h => by
    have e : ∀ (z : C.Dt) (q : List C.Dt), rowD (z :: q) = .int .i64 z.1 :: .int .i64 z.2 :: rowD q := fun _ _ => rfl
    rw [e, e] at h
    simp only [List.cons.injEq, Value.int.injEq, true_and] at h
    rw [rowD_inj s t h.2.2]
    congr 1
    exact Prod.ext h.1 h.2.1
theorem OwnD.uniq {w : World} {v : Value} {a b : List C.Dt} (ha : OwnD w v a) (hb : OwnD w v b) : a = b := by
  rcases ha.shape with ⟨h1, rfl⟩ | ⟨g, cap, cur, h1, h2, _, _, _, h3⟩
  · rcases hb.shape with ⟨_, rfl⟩ | ⟨g', cap', cur', h4, _⟩
    · rfl
    · rw [h1] at h4; cases h4
  · rcases hb.shape with ⟨h4, _⟩ | ⟨g', cap', cur', h4, h5, _, _, _, h6⟩
    · rw [h1] at h4; cases h4
    · rw [h1] at h4
      simp only [Value.slice.injEq, Option.some.injEq, Addr.mk.injEq] at h4
      obtain ⟨⟨rfl, _⟩, hl, _⟩ := h4
      rw [h2] at h5
      simp only [Option.some.injEq, Obj.cells.injEq] at h5
      have hc : cur = cur' := by simpa using h5.1
      rw [hl, hc, h6] at h3
      exact (rowD_inj _ _ h3).symm
theorem reader_of (w : World) : ∃ R : Value → Option (DataW (List C.Dt) × List MemPlace), (∀ v l, OwnD w v l → R v = some (.held l, [])) ∧ ∀ v z, R v = some z → ∃ l, OwnD w v l ∧ z = (.held l, []) := by
  classical
  refine ⟨fun v => if h : ∃ l, OwnD w v l then some (.held h.choose, []) else none, fun v l h => ?_, fun v z h => ?_⟩
  · have hx : ∃ l, OwnD w v l := ⟨l, h⟩
    simp only [dif_pos hx]
    rw [OwnD.uniq hx.choose_spec h]
  · by_cases hx : ∃ l, OwnD w v l
    · simp only [dif_pos hx] at h
      exact ⟨_, hx.choose_spec, by cases h; rfl⟩
    · simp only [dif_neg hx] at h
      cases h
/-- A set's texts, read with their dots. -/
theorem SetAt.rows {w : World} {g n : Nat} {L : OLay} {S : C.Os} (h : SetAt w g n L S) {R : Value → Option (DataW (List C.Dt) × List MemPlace)} (hR : ∀ v l, OwnD w v l → R v = some (.held l, [])) :
    ∃ es, w.ownsMap Try.prog 9 R L.bT n (.map es) ∧ es.Pairwise (fun p q => p.1 ≠ q.1) ∧ (∀ p ∈ es, ∃ x : Tx, x.size ≤ maxLen ∧ p.1 = sk x ∧ S.th x ≠ [] ∧ p.2 = .held (S.th x)) ∧ ∀ x : Tx, x.size ≤ maxLen → S.th x ≠ [] → (sk x, DataW.held (S.th x)) ∈ es := by
  obtain ⟨m, ⟨D, ⟨es, clock, hb, F, hs, rfl⟩, hr⟩, hm⟩ := h.mT
  have hval : ∀ x ∈ es.toList, ∃ t : Tx, t.size ≤ maxLen ∧ keyOf Try.prog 9 x.key = some (sk t) ∧ S.th t ≠ [] ∧ x.val = L.rv t := fun x hx => by
    obtain ⟨kl, hk, hml⟩ := entry_at str_keys hb F hr hx
    obtain ⟨b, _, rfl, hlen⟩ := keyOf_str Try.underlying9 hk
    have h1 := hm ⟨b.toArray⟩
    rw [sk_of, hml] at h1
    by_cases ht : S.th ⟨b.toArray⟩ = []
    · rw [if_pos ht] at h1; cases h1
    · rw [if_neg ht] at h1
      exact ⟨⟨b.toArray⟩, by show b.toArray.size ≤ _; simpa using hlen, hk, ht, Option.some.inj h1⟩
  have F' : Fit Try.prog 9 R es clock := ⟨F.size, F.stamped, fun x hx => by
    obtain ⟨t, _, hk, ht, hv⟩ := hval x hx
    exact ⟨(sk t, .held (S.th t)), by
      unfold WideElems.rd
      rw [hk, hv, hR _ _ (h.row t ht)]
      rfl⟩⟩
  have hown : w.ownsMap Try.prog 9 R L.bT n (.map ((es.toList.map (rg Try.prog 9 R)).foldr DataW.insert [])) := ⟨es, clock, hb, F', hs, rfl⟩
  have hrd : ∀ x ∈ es.toList, ∃ t : Tx, t.size ≤ maxLen ∧ rg Try.prog 9 R x = (sk t, .held (S.th t)) ∧ S.th t ≠ [] := fun x hx => by
    obtain ⟨t, hl, hk, ht, hv⟩ := hval x hx
    refine ⟨t, hl, rg_of ?_, ht⟩
    unfold WideElems.rd
    rw [hk, hv, hR _ _ (h.row t ht)]
    rfl
  obtain ⟨es', he, hpw, _⟩ := hown.entries str_keys
  cases he
  refine ⟨_, hown, hpw, fun p hp => ?_, fun x hx ht => ?_⟩
  · obtain ⟨y, hy, rfl⟩ := List.mem_map.1 (mem_sorted.1 hp)
    obtain ⟨t, hl, hk, ht⟩ := hrd y hy
    rw [hk]
    exact ⟨t, hl, rfl, ht, rfl⟩
  · -- the look-up finds it
    have hz := z_dots w
    rcases fit_look false str_keys Try.underlying62 hz hb F (str_key hx) with ⟨hrun, _, _⟩ | ⟨e0, y, he0, hk0, hrun, _⟩
    · have h2 := h.look hx
      rw [hrun] at h2
      have h3 : L.val S x = .slice none 0 0 := by
        simp only [Bool.false_eq_true, if_false, Result.ok.injEq, and_true] at h2
        exact h2.symm
      have h4 := h.val x
      rw [h3] at h4
      exact absurd (h4.uniq (OwnD.nil w)) ht
    · obtain ⟨t, hl, hk, _⟩ := hrd e0 he0
      obtain ⟨t', hl', hk', ht', hv'⟩ := hval e0 he0
      rw [hk0, str_key hx] at hk'
      have hxt : x = t' := sk_inj (Option.some.inj hk')
      subst hxt
      refine mem_sorted.2 (List.mem_map.2 ⟨e0, he0, rg_of ?_⟩)
      unfold WideElems.rd
      rw [hk0, str_key hx, hv', hR _ _ (h.row x ht')]
      rfl
theorem sub_all {α : Type} [DecidableEq α] : ∀ (a b : List α), a.Nodup → (∀ x ∈ a, x ∈ b) → b.length ≤ a.length → ∀ x ∈ b, x ∈ a
  | [], b, _, _, hl, x, hx => by
    have : b = [] := List.length_eq_zero_iff.1 (Nat.le_zero.1 hl)
    rw [this] at hx; cases hx
  | y :: t, b, hn, hs, hl, x, hx => by
    obtain ⟨hy, ht⟩ := List.nodup_cons.1 hn
    by_cases hxy : x = y
    · rw [hxy]; exact List.mem_cons_self ..
    · have hyb := hs y (List.mem_cons_self ..)
      have hlen : (b.erase y).length = b.length - 1 := List.length_erase_of_mem hyb
      have hxe : x ∈ b.erase y := (List.mem_erase_of_ne hxy).2 hx
      refine List.mem_cons_of_mem _ (sub_all t (b.erase y) ht (fun z hz => ?_) (by simp only [List.length_cons] at hl; omega) x hxe)
      exact (List.mem_erase_of_ne (fun (e : z = y) => hy (by rw [← e]; exact hz))).2 (hs z (List.mem_cons_of_mem _ hz))
def eqdL : DataW (List C.Dt) → DataW (List C.Dt) → Bool
  | .held a, .held b => decide (a = b)
  | _, _ => false
/-- Two sets' texts held against each other. -/
theorem same_iff9 {S1 S2 : C.Os} {e1 e2 : List (Lit × DataW (List C.Dt))}
    (p1 : e1.Pairwise (fun p q => p.1 ≠ q.1)) (a1 : ∀ p ∈ e1, ∃ x : Tx, x.size ≤ maxLen ∧ p.1 = sk x ∧ S1.th x ≠ [] ∧ p.2 = .held (S1.th x)) (b1 : ∀ x : Tx, x.size ≤ maxLen → S1.th x ≠ [] → (sk x, DataW.held (S1.th x)) ∈ e1)
    (p2 : e2.Pairwise (fun p q => p.1 ≠ q.1)) (a2 : ∀ p ∈ e2, ∃ x : Tx, x.size ≤ maxLen ∧ p.1 = sk x ∧ S2.th x ≠ [] ∧ p.2 = .held (S2.th x)) (b2 : ∀ x : Tx, x.size ≤ maxLen → S2.th x ≠ [] → (sk x, DataW.held (S2.th x)) ∈ e2) :
    equalFuncD eqdL (.map e1) (.map e2) = true ↔ ∀ x : Tx, x.size ≤ maxLen → S1.th x = S2.th x := by
  have key : ∀ (S : C.Os) (e : List (Lit × DataW (List C.Dt))), e.Pairwise (fun p q => p.1 ≠ q.1) → (∀ p ∈ e, ∃ x : Tx, x.size ≤ maxLen ∧ p.1 = sk x ∧ S.th x ≠ [] ∧ p.2 = .held (S.th x)) → (∀ x : Tx, x.size ≤ maxLen → S.th x ≠ [] → (sk x, DataW.held (S.th x)) ∈ e) →
      ∃ ks : List Tx, ks.length = e.length ∧ ks.Nodup ∧ ∀ x, x ∈ ks ↔ (x.size ≤ maxLen ∧ S.th x ≠ []) := fun S e hp ha hb => by
    refine ⟨e.map fun p => ⟨(strOf p.1).toArray⟩, List.length_map _, ?_, fun x => ?_⟩
    · refine List.pairwise_map.2 (hp.imp_of_mem fun {p q} hp' hq' hne e => hne ?_)
      obtain ⟨x, _, hx, _⟩ := ha p hp'
      obtain ⟨y, _, hy, _⟩ := ha q hq'
      rw [hx, hy] at e ⊢
      exact congrArg sk e
    · rw [List.mem_map]
      constructor
      · rintro ⟨p, hp', rfl⟩
        obtain ⟨y, hl, hy, ht, _⟩ := ha p hp'
        rw [hy]
        exact ⟨hl, ht⟩
      · rintro ⟨hl, ht⟩
        exact ⟨_, hb x hl ht, rfl⟩
  have hkl : ∀ (S : C.Os) (e : List (Lit × DataW (List C.Dt))), (∀ p ∈ e, ∃ x : Tx, x.size ≤ maxLen ∧ p.1 = sk x ∧ S.th x ≠ [] ∧ p.2 = .held (S.th x)) → ∀ p ∈ e, WideAt.IsKeyLit p.1 := fun S e ha p hp => by
    obtain ⟨x, _, hx, _⟩ := ha p hp
    rw [hx]; trivial
  obtain ⟨k1, l1, n1, m1⟩ := key S1 e1 p1 a1 b1
  obtain ⟨k2, l2, n2, m2⟩ := key S2 e2 p2 a2 b2
  have good : ∀ x : Tx, x.size ≤ maxLen → S1.th x ≠ [] → (goodD eqdL (.map e2) (sk x, .held (S1.th x)) = true ↔ S1.th x = S2.th x) := fun x hl ht => by
    unfold goodD
    rw [Bool.and_eq_true]
    constructor
    · rintro ⟨h1, h2⟩
      have hx2 : S2.th x ≠ [] := fun h0 => by
        rw [has_eq, List.any_eq_true] at h1
        obtain ⟨p, hp, hps⟩ := h1
        obtain ⟨y, _, hy, ht2, _⟩ := a2 p hp
        by_cases hxy : sk y = sk x
        · rw [sk_inj hxy] at ht2; exact ht2 h0
        · rw [hy] at hps
          rw [sameKey_ne hxy] at hps; cases hps
      obtain ⟨_, h4⟩ := at_entry e2 p2 (hkl S2 e2 a2) _ (b2 x hl hx2)
      simp only at h4 h2
      rw [h4] at h2
      exact of_decide_eq_true h2
    · intro h
      have hx2 : S2.th x ≠ [] := by rw [← h]; exact ht
      obtain ⟨h3, h4⟩ := at_entry e2 p2 (hkl S2 e2 a2) _ (b2 x hl hx2)
      simp only at h3 h4
      refine ⟨h3, ?_⟩
      simp only
      rw [h4]
      exact decide_eq_true h
  unfold equalFuncD
  rw [Bool.and_eq_true, decide_eq_true_eq]
  constructor
  · rintro ⟨hsz, hall⟩ x hl
    have hall' : ∀ p ∈ e1, goodD eqdL (.map e2) p = true := fun p hp => (List.all_eq_true.1 hall) p hp
    have h12 : ∀ y : Tx, y.size ≤ maxLen → S1.th y ≠ [] → S1.th y = S2.th y := fun y hy ht => (good y hy ht).1 (hall' _ (b1 y hy ht))
    by_cases ht : S1.th x = []
    · by_cases ht2 : S2.th x = []
      · rw [ht, ht2]
      · exfalso
        have hsub : ∀ y ∈ k1, y ∈ k2 := fun y hy => by
          obtain ⟨q1, q2⟩ := (m1 y).1 hy
          exact (m2 y).2 ⟨q1, by rw [← h12 y q1 q2]; exact q2⟩
        have := sub_all k1 k2 n1 hsub (by rw [l1, l2]; exact Nat.le_of_eq hsz.symm) x ((m2 x).2 ⟨hl, ht2⟩)
        exact ((m1 x).1 this).2 ht
    · exact h12 x hl ht
  · intro h
    refine ⟨?_, List.all_eq_true.2 fun p hp => ?_⟩
    · have hperm : k1.Perm k2 := (List.perm_ext_iff_of_nodup n1 n2).2 fun x => by
        rw [m1, m2]
        constructor
        · rintro ⟨q1, q2⟩; exact ⟨q1, by rw [← h x q1]; exact q2⟩
        · rintro ⟨q1, q2⟩; exact ⟨q1, by rw [h x q1]; exact q2⟩
      have := hperm.length_eq
      show e1.length = e2.length
      omega
    · obtain ⟨x, hl, hx, ht, hv⟩ := a1 p hp
      have : p = (sk x, .held (S1.th x)) := Prod.ext hx hv
      rw [this]
      exact (good x hl ht).2 (h x hl)
end Go.Proofs.Ytoglhhoniojbaaa

namespace Go.Proofs.Ytoglhhoniojbaaa
open Go.RowKit Go.Lib Go.Maps Go.Shelf
set_option linter.unusedVariables false

theorem OwnD.max {w : World} {v : Value} {l : List C.Dt} (h : OwnD w v l) : l.length ≤ maxLen := by
  rcases h.shape with ⟨_, rfl⟩ | ⟨g, cap, cur, _, _, h1, h2, _⟩
  · exact Nat.zero_le _
  · exact Nat.le_trans h1 h2
theorem below_grown {w w' : World} (h : w.grownBy w' none) : Below w.heap.size w w' := ⟨h.os, h.tape, h.output, h.size, fun b hb => h.block b hb (fun e => by cases e)⟩
theorem grown_below {w w' : World} (h : Below w.heap.size w w') : w.grownBy w' none := ⟨h.os, h.tape, h.output, h.size, fun b hb _ => h.block b hb⟩
set_option maxRecDepth 100000 in
set_option maxHeartbeats 4000000 in
theorem sleq_any (u v : Value) (l1 l2 : List C.Dt) (w : World) (h1 : OwnD w u l1) (h2 : OwnD w v l2) :
    Calls Try.prog 43 #[u, v] w fun e w' => e = .returned (.bool (decide (l1 = l2))) ∧ Below w.heap.size w w' := by
  have hl := h1.max
  have hl2 := h2.max
  unfold maxLen at hl hl2
  obtain ⟨q1, c1, hv1⟩ := h1.len
  obtain ⟨q2, c2, hv2⟩ := h2.len
  subst hv1 hv2
  by_cases hlen : l1.length = l2.length
  · obtain ⟨n, hn⟩ : ∃ n, n = l1.length := ⟨_, rfl⟩
    have HN : Hid (n = l1.length) := hn
    have HN2 : Hid (n = l2.length) := hn.trans hlen
    have H1 : Hid (OwnD w (.slice q1 n c1) l1) := by show OwnD _ _ _; rw [hn]; exact h1
    have H2 : Hid (OwnD w (.slice q2 n c2) l2) := by show OwnD _ _ _; rw [HN2.out]; exact h2
    rw [← hlen, ← hn]
    rw [← hn] at hl
    clear h1 h2 hn hlen hl2
    obtain ⟨r, hr⟩ : ∃ r, r = decide (l1 = l2) := ⟨_, rfl⟩
    have HR : Hid (r = decide (l1 = l2)) := hr
    rw [← hr]
    clear hr
    go_enter Try.func43, Try.ntmps43
    go_wp2_with fail
    go_loopw [13] (fun s13 wr => ∃ k : Nat, s13 = .int .i64 k ∧ k ≤ n ∧ Hid (l1.take k = l2.take k) ∧ Hid (Below w.heap.size w wr)) (fun s13 _ => n - (intOf s13).toNat)
    case atStart => exact ⟨0, rfl, Nat.zero_le _, by show _ = _; simp, Below.refl _ _⟩
    case round =>
      obtain ⟨k, rfl, hkn, HE, HB⟩ := hrel
      by_cases hlt : k < n
      · obtain ⟨x, hx⟩ : ∃ x, l1[k]? = some x := ⟨_, List.getElem?_eq_getElem (by have := HN.out; omega)⟩
        obtain ⟨y, hy⟩ : ∃ y, l2[k]? = some y := ⟨_, List.getElem?_eq_getElem (by have := HN2.out; omega)⟩
        obtain ⟨ga, ca, hva⟩ := H1.out.at (by have := HN.out; omega)
        rw [← HN.out] at hva
        obtain ⟨gb, cb, hvb⟩ := H2.out.at (by have := HN2.out; omega)
        rw [← HN2.out] at hvb
        cases hva
        cases hvb
        have hne : Nonempty (NewW wr) := ⟨NewW.start wr⟩
        have a0 : ∀ m : NewW wr, m.v.cell? ⟨ga, k * 2, none⟩ = some (.int .i64 x.1) := fun m => ((H1.out.below (bt HB.out m.h)).cell k x hx).1
        have a1 : ∀ m : NewW wr, m.v.cell? ⟨ga, k * 2 + 1, none⟩ = some (.int .i64 x.2) := fun m => ((H1.out.below (bt HB.out m.h)).cell k x hx).2
        have b0 : ∀ m : NewW wr, m.v.cell? ⟨gb, k * 2, none⟩ = some (.int .i64 y.1) := fun m => ((H2.out.below (bt HB.out m.h)).cell k y hy).1
        have b1 : ∀ m : NewW wr, m.v.cell? ⟨gb, k * 2 + 1, none⟩ = some (.int .i64 y.2) := fun m => ((H2.out.below (bt HB.out m.h)).cell k y hy).2
        obtain ⟨qb, hqb⟩ : ∃ qb, qb = (x.1 == y.1 && x.2 == y.2) := ⟨_, rfl⟩
        have kq : ∀ W, (Op.equalIn 10000 31 (.agg #[.int .i64 x.1, .int .i64 x.2]) (.agg #[.int .i64 y.1, .int .i64 y.2])).run Try.prog W = .ok qb W := fun W => by rw [hqb]; exact eq2_dot x.1 x.2 y.1 y.2 W
        have HQ : Hid (qb = true ↔ x = y) := by show _ ↔ _; rw [hqb]; simp [Prod.ext_iff]
        have HX : Hid (l1[k]? = some x) := hx
        have HY : Hid (l2[k]? = some y) := hy
        clear hqb hx hy
        cases qb with
        | false =>
          go_wp2_with fail
          refine wp_region_new (by kernel_rfl) (by kernel_rfl) ?_
          repeat (go_big_quiet_step (fail))
          refine wpQuiet_nil ?_
          rintro _ ⟨w2, rfl⟩
          have HF : Hid (r = false) := by
            show r = false
            rw [HR.out]
            refine decide_eq_false fun e => ?_
            have h3 := HX.out
            rw [e, HY.out] at h3
            have := HQ.out.2 (Option.some.inj h3).symm
            cases this
          clear a0 a1 b0 b1 kq hne
          go_wp2
          go_ret
          exact ⟨by rw [HF.out]; rfl, bt HB.out w2.h⟩
        | true =>
          go_wp2_with fail
          refine wp_region_new (by kernel_rfl) (by kernel_rfl) ?_
          repeat (go_big_quiet_step (fail))
          refine wpQuiet_nil ?_
          rintro _ ⟨w2, rfl⟩
          have HB2 : Hid (Below w.heap.size w w2.v) := bt HB.out w2.h
          clear a0 a1 b0 b1 kq hne
          go_wp2
          go_roundw
          case rel =>
            refine ⟨k + 1, by go_num, by omega, ?_, HB2.out⟩
            show _ = _
            rw [C.take_snoc HX.out, C.take_snoc HY.out, HE.out, HQ.out.1 (by trivial)]
          case measure => simp [intOf]; omega
      · obtain rfl : k = n := by omega
        have HT : Hid (r = true) := by
          show r = true
          rw [HR.out]
          have h3 := HE.out
          rw [List.take_of_length_le (Nat.le_of_eq HN.out.symm), List.take_of_length_le (Nat.le_of_eq HN2.out.symm)] at h3
          exact decide_eq_true h3
        go_wp2
        go_ret
        exact ⟨by rw [HT.out]; rfl, HB.out⟩
  · have hf : decide (l1 = l2) = false := decide_eq_false fun e => hlen (by rw [e])
    rw [hf]
    clear hf h1 h2
    generalize l1.length = n1 at *
    generalize l2.length = n2 at *
    go_enter Try.func43, Try.ntmps43
    go_wp2
    go_ret
    exact ⟨rfl, Below.refl _ _⟩
set_option maxHeartbeats 1000000 in
theorem eqf_any (w : World) (g1 g2 n1 n2 : Nat) (L1 L2 : OLay) (S1 S2 : C.Os) (h1 : SetAt w g1 n1 L1 S1) (h2 : SetAt w g2 n2 L2 S2) (z : Bool) (hz : z = true ↔ ∀ x : Tx, x.size ≤ maxLen → S1.th x = S2.th x) :
    Calls Try.prog 42 #[.map (some L1.bT), .map (some L2.bT), .func (.func 43) #[] #[]] w fun e w' => e = .returned (.bool z) ∧ Below w.heap.size w w' := by
  obtain ⟨R, hR, hRi⟩ := reader_of w
  obtain ⟨e1, o1, p1, a1, b1⟩ := h1.rows hR
  obtain ⟨e2, o2, p2, a2, b2⟩ := h2.rows hR
  have hgo : equalFuncD eqdL (.map e1) (.map e2) = z := by
    rw [Bool.eq_iff_iff, same_iff9 p1 a1 b1 p2 a2 b2, hz]
  have HC := AnyEq.maps_EqualFunc (ρ := Try.eqF_ren) { Try.eqF with } str_keys R R eqdL 43 #[] L1.bT L2.bT n1 n2 (.map e1) (.map e2) w (enters_of Try.func43 (by kernel_rfl) rfl) o1 o2 (.slice none 0 0) (fun w => z_dots w) (.held []) [] (hR _ _ (OwnD.nil w)) (fun W x y xd yd xp yp hW hx hy => by
    obtain ⟨la, ha, hxe⟩ := hRi x _ hx
    obtain ⟨lb, hb, hye⟩ := hRi y _ hy
    cases hxe; cases hye
    refine (sleq_any x y la lb W (ha.below (below_grown hW)) (hb.below (below_grown hW))).mono ?_
    rintro e w' ⟨rfl, hk⟩
    exact ⟨rfl, grown_below hk⟩)
  refine Calls.mono HC ?_
  rintro e w' ⟨rfl, hg⟩
  exact ⟨by rw [hgo], below_grown hg⟩
set_option maxRecDepth 100000 in
set_option maxHeartbeats 4000000 in
theorem same9_any (w : World) (g1 g2 n1 n2 : Nat) (L1 L2 : OLay) (S1 S2 : C.Os) (h1 : SetAt w g1 n1 L1 S1) (h2 : SetAt w g2 n2 L2 S2) (z : Bool) (hz : z = true ↔ ∀ x : Tx, x.size ≤ maxLen → S1.th x = S2.th x) :
    Calls Try.prog 15 #[.pointer (some ⟨g1, 0, none⟩), .pointer (some ⟨g2, 0, none⟩)] w fun e w' => e = .returned (.bool z) ∧ Below w.heap.size w w' := by
  have H1 : Hid (SetAt w g1 n1 L1 S1) := h1
  have H2 : Hid (SetAt w g2 n2 L2 S2) := h2
  have HE : Hid (∀ W, Below w.heap.size w W → Calls Try.prog 42 #[.map (some L1.bT), .map (some L2.bT), .func (.func 43) #[] #[]] W fun e w' => e = .returned (.bool z) ∧ Below W.heap.size W w') := fun W hW => eqf_any W g1 g2 n1 n2 L1 L2 S1 S2 (H1.out.below hW) (H2.out.below hW) z hz
  have c1 : ∀ m : NewW w, m.v.cell? ⟨g1, 1, none⟩ = some (.map (some L1.bT)) := fun m => (H1.out.below m.h).cells.2.1
  have c2 : ∀ m : NewW w, m.v.cell? ⟨g2, 1, none⟩ = some (.map (some L2.bT)) := fun m => (H2.out.below m.h).cells.2.1
  have hne : Nonempty (NewW w) := ⟨NewW.start w⟩
  clear h1 h2 hz
  go_enter Try.func15, Try.ntmps15
  go_wp2_with fail
  refine wp_region_new (by kernel_rfl) (by kernel_rfl) ?_
  repeat (go_big_quiet_step ((first | (with_reducible rfl) | (with_reducible exact new_of (HE.out _ (NewW.h _))))))
  refine wpQuiet_nil ?_
  rintro _ ⟨w2, rfl⟩
  clear c1 c2 hne
  go_wp2
  go_ret
  exact ⟨rfl, w2.h⟩
end Go.Proofs.Ytoglhhoniojbaaa

namespace Go.Proofs.Ytoglhhoniojbaaa
open Go.RowKit Go.Lib Go.Sort Go.Shelf
set_option linter.unusedVariables false

theorem s_same {w0 w : World} {Q : List OObj} (o1 o2 : OObj) (z : Bool) (h : OObjs w0 w Q) (h1 : o1 ∈ Q) (h2 : o2 ∈ Q) (hz : z = true ↔ ∀ x : Tx, x.size ≤ maxLen → o1.S.th x = o2.S.th x) :
    Calls Try.prog 15 #[.pointer (some ⟨o1.g, 0, none⟩), .pointer (some ⟨o2.g, 0, none⟩)] w fun e w' => e = .returned (.bool z) ∧ OObjs w0 w' Q :=
  (same9_any w o1.g o2.g o1.n o2.n o1.L o2.L o1.S o2.S (h.at_ _ h1).1 (h.at_ _ h2).1 z hz).mono fun e w' ⟨he, hb⟩ => ⟨he, h.below hb⟩
namespace C
def txY : Tx := ⟨#[121]⟩
def txZ : Tx := ⟨#[122]⟩
def txL : Tx := strOfNums (List.replicate 101 0)
theorem txL_size : txL.size = 101 := by unfold txL; rw [strOfNums_size, List.length_replicate]
theorem txL_long : tooLong txL = true := by unfold tooLong; rw [txL_size]; decide
def kn1 : Os := remO Os.zero txX ⟨3, 0, 0, 0, 0, 0, 0⟩
def kn2 : Os := addO kn1 (0, 2) txX
def kn3 : Os := addO kn2 (0, 4) txX
def kn4 : Os := addO kn3 (2, 1) txZ
theorem kn1_is : kn1 = (Os.zero.addG txX ⟨3, 0, 0, 0, 0, 0, 0⟩).addT txX [] :=
  remO_good (S := Os.zero) (x := txX) (c := ⟨3, 0, 0, 0, 0, 0, 0⟩) (by decide) (by decide)
theorem kn1_go : kn1.go txX = ⟨3, 0, 0, 0, 0, 0, 0⟩ := by rw [kn1_is, go_T, go_G, if_pos rfl]
theorem kn1_th (y : Tx) : kn1.th y = [] := by rw [kn1_is, th_T, th_G]; split <;> rfl
theorem kn1_ad (d : Dt) : kn1.ad d = none := by rw [kn1_is, ad_T, ad_G]; rfl
theorem kn2_is : kn2 = kn1.addA (0, 2) txX := addO_gone (by decide) (by decide) (kn1_ad _) (by rw [kn1_go]; decide)
theorem kn2_th (y : Tx) : kn2.th y = [] := by rw [kn2_is, th_A, kn1_th]
theorem kn2_ad (d : Dt) : kn2.ad d = if d = (0, 2) then some txX else none := by rw [kn2_is, ad_A, kn1_ad]
theorem kn2_go : kn2.go txX = ⟨3, 0, 0, 0, 0, 0, 0⟩ := by rw [kn2_is, go_A, kn1_go]
theorem kn2_y : addO kn2 (0, 2) txY = kn2 := addO_same fun h => by have := h.2.2; rw [kn2_ad, if_pos rfl] at this; cases this
theorem kn2_ey : errO kn2 (0, 2) txY = 5 := by
  unfold errO
  rw [if_pos ⟨by decide, by decide⟩, kn2_ad, if_pos rfl]
  decide
theorem kn3_is : kn3 = (kn2.addA (0, 4) txX).addT txX [(0, 4)] := by
  have h := addO_new (S := kn2) (d := (0, 4)) (x := txX) (by decide) (by decide) (by rw [kn2_ad, if_neg (by decide)]) (by rw [kn2_go]; decide)
  rw [kn2_th] at h
  exact h
theorem kn3_th (y : Tx) : kn3.th y = if y = txX then [(0, 4)] else [] := by rw [kn3_is, th_T, th_A, kn2_th]
theorem kn3_ad (d : Dt) : kn3.ad d = if d = (0, 4) then some txX else kn2.ad d := by rw [kn3_is, ad_T, ad_A]
theorem kn3_go (y : Tx) : kn3.go y = kn1.go y := by rw [kn3_is, go_T, go_A, kn2_is, go_A]
theorem kn3_none : addO kn3 (0, 0) txX = kn3 := addO_same fun h => by have := h.1; revert this; decide
theorem kn3_enone : errO kn3 (0, 0) txX = 1 := by unfold errO; rw [if_neg fun h => by have := h.1; revert this; decide]
theorem kn3_long {x : Tx} (hx : tooLong x = true) : addO kn3 (0, 9) x = kn3 := addO_same fun h => by have := h.2.1; rw [hx] at this; cases this
theorem kn3_elong {x : Tx} (hx : tooLong x = true) : errO kn3 (0, 9) x = 1 := by unfold errO; rw [if_neg fun h => by have := h.2; rw [hx] at this; cases this]
theorem kn3_bad : remO kn3 txX ⟨-1, 0, 0, 0, 0, 0, 0⟩ = kn3 := by unfold remO; rw [if_neg]; intro h; have := h.2; revert this; decide
theorem kn3_ebad : errR txX ⟨-1, 0, 0, 0, 0, 0, 0⟩ = 1 := by decide
theorem kn4_is : kn4 = (kn3.addA (2, 1) txZ).addT txZ [(2, 1)] := by
  have h := addO_new (S := kn3) (d := (2, 1)) (x := txZ) (by decide) (by decide) (by rw [kn3_ad, if_neg (by decide), kn2_ad, if_neg (by decide)]) (by rw [kn3_go, kn1_is, go_T, go_G, if_neg (by decide)]; decide)
  rw [kn3_th, if_neg (by decide)] at h
  exact h
theorem kn4_e : errO kn3 (2, 1) txZ = 0 := errO_new (by decide) (by decide) (by rw [kn3_ad, if_neg (by decide), kn2_ad, if_neg (by decide)])
theorem kn4_th : kn4.th txZ = [(2, 1)] := by rw [kn4_is, th_T, if_pos rfl]
theorem kn3_thZ : kn3.th txZ = [] := by rw [kn3_th, if_neg (by decide)]
theorem kn3_thX : kn3.th txX = [(0, 4)] := by rw [kn3_th, if_pos rfl]
theorem kn_few1 : Few kn1 0 := remO_few zero_few _ _
theorem kn_few2 : Few kn2 1 := addO_few kn_few1 _ _
theorem kn_few3 : Few kn3 2 := addO_few kn_few2 _ _
theorem kn_few4 : Few kn4 3 := addO_few kn_few3 _ _
theorem kn_not : (false = true) ↔ ∀ x : Tx, x.size ≤ maxLen → kn3.th x = kn4.th x := by
  refine ⟨fun h => (by cases h), fun h => ?_⟩
  have := h txZ (by decide)
  rw [kn3_thZ, kn4_th] at this
  cases this
end C
theorem made101 (w : World) : (Instr.makeSlice 33 (.int .i64 101) (.int .i64 101)).run Try.prog w = .ok (.slice (some ⟨w.heap.size, 0, none⟩) 101 101) (w.alloc (.cells (madeCells #[.int .u8 0] 101) 5)) :=
  run_make_row' (P := Try.prog) 33 5 (.int .u8 0) 1 Try.underlying33 info_u8 rfl .i64 .i64 101 (by decide) (by decide) w
theorem conv101 (w : World) : (convert 33 9 (.slice (some ⟨w.heap.size, 0, none⟩) 101 101)).run Try.prog (w.alloc (.cells (madeCells #[.int .u8 0] 101) 5)) = .ok (.string C.txL) (w.alloc (.cells (madeCells #[.int .u8 0] 101) 5)) :=
  run_convert_bytes_arg (P := Try.prog) _ 33 5 Try.underlying33 Try.underlying5 w.heap.size 0 101 101 (List.replicate 101 0) (by simp) (fun i hi => by
    have h := toList_madeCells_one (.int .u8 0) 101
    have h2 : (madeCells #[.int .u8 0] 101)[i]? = some (.int .u8 0) := by
      rw [← Array.getElem?_toList, h, List.getElem?_replicate, if_pos hi]
    have h4 : (List.replicate 101 (0 : Int)).getD i 0 = 0 := by rw [List.getD_eq_getElem?_getD, List.getElem?_replicate, if_pos hi]; rfl
    rw [h4]
    generalize hM : madeCells #[.int .u8 0] 101 = M at *
    simp [World.cell?_alloc_mark, h2]) 9 Try.underlying9
set_option maxRecDepth 100000 in
set_option maxHeartbeats 4000000 in
theorem known_walk (w : World) : Calls Try.prog 3 #[] w fun e w' => e = .returned (.bool true) ∧ Below w.heap.size w w' := by
  have HL : Hid (C.txX.size ≤ maxLen ∧ C.txY.size ≤ maxLen ∧ C.txZ.size ≤ maxLen) := ⟨by decide, by decide, by decide⟩
  have HK : Hid (∀ n, n ≤ 100 → n + 2 < maxLen) := fun n hn => by unfold maxLen; omega
  go_enter Try.func3, Try.ntmps3
  go_wp2_with fail
  refine (awake9_any w).mono ?_
  rintro e w00 ⟨rfl, hb0⟩
  have HB0 : Hid (Below w.heap.size w w00) := hb0
  clear hb0
  go_wp2_with fail
  refine (s_new (OObjs.nil HB0.out)).mono ?_
  rintro e w1 ⟨g, L, rfl, h1, -⟩
  have H1 : Hid (OObjs w w1 ([] ++ ⟨g, 0, L, C.Os.zero⟩ :: [])) := h1
  clear h1 HB0
  go_wp2_with fail
  refine (s_rem [] [] g 0 L C.Os.zero C.kn1 C.txX ⟨3, 0, 0, 0, 0, 0, 0⟩ 0 H1.out (HK.out _ (by omega)) HL.out.1 (C.few_mono C.zero_few (by omega)) (C.errR_good (by decide) (by decide)) rfl).mono ?_
  rintro e w2 ⟨rfl, L2, h2⟩
  have H2 : Hid (OObjs w w2 ([] ++ ⟨g, 2, L2, C.kn1⟩ :: [])) := h2
  clear h2 H1
  go_wp2_with fail
  refine (s_add [] [] g 2 L2 C.kn1 C.kn2 C.txX 0 2 0 H2.out (HK.out _ (by omega)) HL.out.1 (C.few_mono C.kn_few1 (by omega)) (C.errO_new (by decide) (by decide) (C.kn1_ad _)) rfl).mono ?_
  rintro e w3 ⟨rfl, L3, h3⟩
  have H3 : Hid (OObjs w w3 ([] ++ ⟨g, 4, L3, C.kn2⟩ :: [])) := h3
  clear h3 H2
  go_wp2_with fail
  refine (s_has [] [] g 4 L3 C.kn2 C.txX false H3.out HL.out.1 (C.few_mono C.kn_few2 (by omega)) (by rw [C.kn2_th]; rfl)).mono ?_
  rintro e w4 ⟨rfl, hw⟩
  subst hw
  go_wp2_with fail
  refine (s_add [] [] g 4 L3 C.kn2 C.kn2 C.txY 0 2 5 H3.out (HK.out _ (by omega)) HL.out.2.1 (C.few_mono C.kn_few2 (by omega)) C.kn2_ey C.kn2_y).mono ?_
  rintro e w5 ⟨rfl, L5, h5⟩
  have H5 : Hid (OObjs w w5 ([] ++ ⟨g, 6, L5, C.kn2⟩ :: [])) := h5
  clear h5 H3
  go_wp2_with fail
  refine (s_add [] [] g 6 L5 C.kn2 C.kn3 C.txX 0 4 0 H5.out (HK.out _ (by omega)) HL.out.1 (C.few_mono C.kn_few2 (by omega)) (C.errO_new (by decide) (by decide) (by rw [C.kn2_ad, if_neg (by decide)])) rfl).mono ?_
  rintro e w6 ⟨rfl, L6, h6⟩
  have H6 : Hid (OObjs w w6 ([] ++ ⟨g, 8, L6, C.kn3⟩ :: [])) := h6
  clear h6 H5
  go_wp2_with fail
  refine (s_has [] [] g 8 L6 C.kn3 C.txX true H6.out HL.out.1 (C.few_mono C.kn_few3 (by omega)) (by rw [C.kn3_thX]; rfl)).mono ?_
  rintro e w7 ⟨rfl, hw⟩
  subst hw
  go_wp2_with fail
  refine (s_add [] [] g 8 L6 C.kn3 C.kn3 C.txX 0 0 1 H6.out (HK.out _ (by omega)) HL.out.1 (C.few_mono C.kn_few3 (by omega)) C.kn3_enone C.kn3_none).mono ?_
  rintro e w8 ⟨rfl, L8, h8⟩
  have H8 : Hid (OObjs w w8 ([] ++ ⟨g, 10, L8, C.kn3⟩ :: [])) := h8
  clear h8 H6
  have k1 := made101 w8
  have k2 := conv101 w8
  go_wp2_with fail
  refine (s_add [] [] g 10 L8 C.kn3 C.kn3 C.txL 0 9 1 (H8.out.below (below_new w8 _)) (HK.out _ (by omega)) (by rw [C.txL_size]; decide) (C.few_mono C.kn_few3 (by omega)) (C.kn3_elong C.txL_long) (C.kn3_long C.txL_long)).mono ?_
  rintro e w9 ⟨rfl, L9, h9⟩
  have H9 : Hid (OObjs w w9 ([] ++ ⟨g, 12, L9, C.kn3⟩ :: [])) := h9
  clear h9 H8 k1 k2
  generalize C.txL = tl at *
  go_wp2_with fail
  refine (s_rem [] [] g 12 L9 C.kn3 C.kn3 C.txX ⟨-1, 0, 0, 0, 0, 0, 0⟩ 1 H9.out (HK.out _ (by omega)) HL.out.1 (C.few_mono C.kn_few3 (by omega)) C.kn3_ebad C.kn3_bad).mono ?_
  rintro e w10 ⟨rfl, L10, h10⟩
  have H10 : Hid (OObjs w w10 ([] ++ ⟨g, 14, L10, C.kn3⟩ :: [])) := h10
  clear h10 H9
  go_wp2_with fail
  refine (s_copy [] [] g 14 L10 C.kn3 H10.out (Nat.lt_of_le_of_lt (Nat.le_add_right _ 2) (HK.out _ (by omega))) (C.few_mono C.kn_few3 (by omega))).mono ?_
  rintro e w11 ⟨gk, Lk, rfl, h11, -⟩
  have H11 : Hid (OObjs w w11 ([⟨g, 14, L10, C.kn3⟩] ++ ⟨gk, 14, Lk, C.kn3⟩ :: [])) := h11
  clear h11 H10
  go_wp2_with fail
  refine (s_add [⟨g, 14, L10, C.kn3⟩] [] gk 14 Lk C.kn3 C.kn4 C.txZ 2 1 0 H11.out (HK.out _ (by omega)) HL.out.2.2 (C.few_mono C.kn_few3 (by omega)) C.kn4_e rfl).mono ?_
  rintro e w12 ⟨rfl, L12, h12⟩
  have H12 : Hid (OObjs w w12 ([⟨g, 14, L10, C.kn3⟩] ++ ⟨gk, 16, L12, C.kn4⟩ :: [])) := h12
  have H13 : Hid (OObjs w w12 ([] ++ ⟨g, 14, L10, C.kn3⟩ :: [⟨gk, 16, L12, C.kn4⟩])) := h12
  clear h12 H11
  go_wp2_with fail
  refine (s_has [] _ g 14 L10 C.kn3 C.txZ false H13.out HL.out.2.2 (C.few_mono C.kn_few3 (by omega)) (by rw [C.kn3_thZ]; rfl)).mono ?_
  rintro e w13 ⟨rfl, hw⟩
  subst hw
  go_wp2_with fail
  refine (s_has _ [] gk 16 L12 C.kn4 C.txZ true H12.out HL.out.2.2 (C.few_mono C.kn_few4 (by omega)) (by rw [C.kn4_th]; rfl)).mono ?_
  rintro e w14 ⟨rfl, hw⟩
  subst hw
  go_wp2_with fail
  refine (s_same ⟨g, 14, L10, C.kn3⟩ ⟨gk, 16, L12, C.kn4⟩ false H12.out (by simp) (by simp) C.kn_not).mono ?_
  rintro e w15 ⟨rfl, h15⟩
  have H15 : Hid (OObjs w w15 ([] ++ ⟨g, 14, L10, C.kn3⟩ :: [⟨gk, 16, L12, C.kn4⟩])) := h15
  clear h15 H12 H13
  go_wp2_with fail
  refine (s_copy [] _ g 14 L10 C.kn3 H15.out (Nat.lt_of_le_of_lt (Nat.le_add_right _ 2) (HK.out _ (by omega))) (C.few_mono C.kn_few3 (by omega))).mono ?_
  rintro e w16 ⟨gm, Lm, rfl, h16, -⟩
  have H16 : Hid (OObjs w w16 (([] ++ ⟨g, 14, L10, C.kn3⟩ :: [⟨gk, 16, L12, C.kn4⟩]) ++ [⟨gm, 14, Lm, C.kn3⟩])) := h16
  clear h16 H15
  go_wp2_with fail
  refine (s_same ⟨g, 14, L10, C.kn3⟩ ⟨gm, 14, Lm, C.kn3⟩ true H16.out (by simp) (by simp) ⟨fun _ _ _ => rfl, fun _ => rfl⟩).mono ?_
  rintro e w17 ⟨rfl, h17⟩
  have HB : Hid (Below w.heap.size w w17) := h17.bel
  clear h17 H16
  go_wp2
  go_ret
  exact ⟨rfl, HB.out⟩
end Go.Proofs.Ytoglhhoniojbaaa
