/-
  Several texts in one: BGMap2, OSame, OSame2.
-/
import Derived.Test.YtoglhhoniojbaaaBGMap
import Derived.Lib.SlMapEqual
import Derived.Test.YtoglhhoniojbaaaOAll
import Derived.Test.YtoglhhoniojbaaaLayQ
namespace Go.Proofs.Ytoglhhoniojbaaa
open Go.RowKit Go.Lib Go.Maps Go.WideElems
set_option linter.unusedVariables false

theorem at_entry {H : Type} : ∀ (es : List (Lit × DataW H)), es.Pairwise (fun p q => p.1 ≠ q.1) → (∀ p ∈ es, WideAt.IsKeyLit p.1) → ∀ p ∈ es, Maps.has (.map es) p.1 = true ∧ ∀ z, (DataW.map es).atKey p.1 z = p.2
  | [], _, _, p, hp => by cases hp
  | q :: t, h, hk, p, hp => by
    obtain ⟨h1, h2⟩ := List.pairwise_cons.1 h
    rcases List.mem_cons.1 hp with rfl | hp
    · have hs := WideAt.sameKey_self (hk p (List.mem_cons_self ..))
      refine ⟨by rw [has_eq]; simp [hs], fun z => ?_⟩
      simp [DataW.atKey, List.find?, hs]
    · have hn := sameKey_ne (h1 p hp)
      obtain ⟨i1, i2⟩ := at_entry t h2 (fun x hx => hk x (List.mem_cons_of_mem _ hx)) p hp
      refine ⟨by rw [has_eq] at i1 ⊢; simp [hn, i1], fun z => ?_⟩
      have := i2 z
      simp only [DataW.atKey, List.find?, hn] at this ⊢
      exact this
/-- Each entry stands in the partial function. -/
theorem entry_at {w : World} {b : Nat} {K : TypeId} {m : Lit → Option Value} (KK : Keyed Try.prog K) {es : Array MapEntry} {clock : Nat} (hb : w.heap[b]? = some (.map es clock)) (F : Fit Try.prog K anyR es clock) (hr : GReads (.map ((es.toList.map (rg Try.prog K anyR)).foldr DataW.insert [])) m) {x : MapEntry} (hx : x ∈ es.toList) :
    ∃ kl, keyOf Try.prog K x.key = some kl ∧ m kl = some x.val := by
  obtain ⟨y, hy⟩ := F.reads x hx
  have hk := rd_key hy
  obtain ⟨z, hz, hz2⟩ := rd_val hy
  have e1 : y.2 = .held x.val := by rw [hz2]; cases hz; rfl
  have hmem : y ∈ (es.toList.map (rg Try.prog K anyR)).foldr DataW.insert [] := mem_sorted.2 (List.mem_map.2 ⟨x, hx, rg_of hy⟩)
  have hap : ((es.toList.map (rg Try.prog K anyR)).foldr DataW.insert []).Pairwise (fun p q => p.1 ≠ q.1) := by
    obtain ⟨es', he, h1, _⟩ := World.ownsMap.entries (w := w) (b := b) (n := es.size) ⟨es, clock, hb, F, Nat.le_refl _, rfl⟩ KK
    cases he
    exact h1
  have hkl : ∀ p ∈ (es.toList.map (rg Try.prog K anyR)).foldr DataW.insert [], WideAt.IsKeyLit p.1 := fun p hp => by
    obtain ⟨v, hv⟩ := fit_keys F p (mem_sorted.1 hp)
    exact KK.key hv
  obtain ⟨h1, h2⟩ := at_entry _ hap hkl y hmem
  refine ⟨y.1, hk, ?_⟩
  have h3 := (hr y.1).1
  rw [h1] at h3
  obtain ⟨v, hv⟩ := Option.isSome_iff_exists.1 h3.symm
  have h4 := (hr y.1).2 (.bool false)
  rw [h2, e1, hv] at h4
  have h5 : x.val = v := DataW.held.inj h4
  rw [h5]
  exact hv
end Go.Proofs.Ytoglhhoniojbaaa

namespace Go.Proofs.Ytoglhhoniojbaaa
open Go.RowKit Go.Lib Go.Maps Go.Sort Go.Shelf Go.WideElems
set_option linter.unusedVariables false

theorem rowD_inj : ∀ (a b : List C.Dt), rowD a = rowD b → a = b
  | [], [], _ => rfl
  | [], y :: t, h => by simp [rowD, encD] at h
  | x :: s, [], h => by simp [rowD, encD] at h
  | x :: s, y :: t, h => by
    have e : ∀ (z : C.Dt) (q : List C.Dt), rowD (z :: q) = .int .i64 z.1 :: .int .i64 z.2 :: rowD q := fun _ _ => rfl
    rw [e, e] at h
    simp only [List.cons.injEq, Value.int.injEq, true_and] at h
    rw [rowD_inj s t h.2.2]
    congr 1
    exact Prod.ext h.1 h.2.1
theorem OwnD.uniq {w : World} {v : Value} {a b : List C.Dt} (ha : OwnD w v a) (hb : OwnD w v b) : a = b := by
  rcases ha.shape with ⟨h1, rfl⟩ | ⟨g, cap, cur, h1, h2, _, _, _, h3⟩
  · rcases hb.shape with ⟨_, rfl⟩ | ⟨g', cap', cur', h4, _⟩
    · rfl
    · rw [h1] at h4; cases h4
  · rcases hb.shape with ⟨h4, _⟩ | ⟨g', cap', cur', h4, h5, _, _, _, h6⟩
    · rw [h1] at h4; cases h4
    · rw [h1] at h4
      simp only [Value.slice.injEq, Option.some.injEq, Addr.mk.injEq] at h4
      obtain ⟨⟨rfl, _⟩, hl, _⟩ := h4
      rw [h2] at h5
      simp only [Option.some.injEq, Obj.cells.injEq] at h5
      have hc : cur = cur' := by simpa using h5.1
      rw [hl, hc, h6] at h3
      exact (rowD_inj _ _ h3).symm
theorem reader_of (w : World) : ∃ R : Value → Option (DataW (List C.Dt) × List MemPlace), (∀ v l, OwnD w v l → R v = some (.held l, [])) ∧ ∀ v z, R v = some z → ∃ l, OwnD w v l ∧ z = (.held l, []) := by
  classical
  refine ⟨fun v => if h : ∃ l, OwnD w v l then some (.held h.choose, []) else none, fun v l h => ?_, fun v z h => ?_⟩
  · have hx : ∃ l, OwnD w v l := ⟨l, h⟩
    simp only [dif_pos hx]
    rw [OwnD.uniq hx.choose_spec h]
  · by_cases hx : ∃ l, OwnD w v l
    · simp only [dif_pos hx] at h
      exact ⟨_, hx.choose_spec, by cases h; rfl⟩
    · simp only [dif_neg hx] at h
      cases h
/-- A set's texts, read with their dots. -/
theorem SetAt.rows {w : World} {g n : Nat} {L : OLay} {S : C.Os} (h : SetAt w g n L S) {R : Value → Option (DataW (List C.Dt) × List MemPlace)} (hR : ∀ v l, OwnD w v l → R v = some (.held l, [])) :
    ∃ es, w.ownsMap Try.prog 9 R L.bT n (.map es) ∧ es.Pairwise (fun p q => p.1 ≠ q.1) ∧ (∀ p ∈ es, ∃ x : Tx, x.size ≤ maxLen ∧ p.1 = sk x ∧ S.th x ≠ [] ∧ p.2 = .held (S.th x)) ∧ ∀ x : Tx, x.size ≤ maxLen → S.th x ≠ [] → (sk x, DataW.held (S.th x)) ∈ es := by
  obtain ⟨m, ⟨D, ⟨es, clock, hb, F, hs, rfl⟩, hr⟩, hm⟩ := h.mT
  have hval : ∀ x ∈ es.toList, ∃ t : Tx, t.size ≤ maxLen ∧ keyOf Try.prog 9 x.key = some (sk t) ∧ S.th t ≠ [] ∧ x.val = L.rv t := fun x hx => by
    obtain ⟨kl, hk, hml⟩ := entry_at str_keys hb F hr hx
    obtain ⟨b, _, rfl, hlen⟩ := keyOf_str Try.underlying9 hk
    have h1 := hm ⟨b.toArray⟩
    rw [sk_of, hml] at h1
    by_cases ht : S.th ⟨b.toArray⟩ = []
    · rw [if_pos ht] at h1; cases h1
    · rw [if_neg ht] at h1
      exact ⟨⟨b.toArray⟩, by show b.toArray.size ≤ _; simpa using hlen, hk, ht, Option.some.inj h1⟩
  have F' : Fit Try.prog 9 R es clock := ⟨F.size, F.stamped, fun x hx => by
    obtain ⟨t, _, hk, ht, hv⟩ := hval x hx
    exact ⟨(sk t, .held (S.th t)), by
      unfold WideElems.rd
      rw [hk, hv, hR _ _ (h.row t ht)]
      rfl⟩⟩
  have hown : w.ownsMap Try.prog 9 R L.bT n (.map ((es.toList.map (rg Try.prog 9 R)).foldr DataW.insert [])) := ⟨es, clock, hb, F', hs, rfl⟩
  have hrd : ∀ x ∈ es.toList, ∃ t : Tx, t.size ≤ maxLen ∧ rg Try.prog 9 R x = (sk t, .held (S.th t)) ∧ S.th t ≠ [] := fun x hx => by
    obtain ⟨t, hl, hk, ht, hv⟩ := hval x hx
    refine ⟨t, hl, rg_of ?_, ht⟩
    unfold WideElems.rd
    rw [hk, hv, hR _ _ (h.row t ht)]
    rfl
  obtain ⟨es', he, hpw, _⟩ := hown.entries str_keys
  cases he
  refine ⟨_, hown, hpw, fun p hp => ?_, fun x hx ht => ?_⟩
  · obtain ⟨y, hy, rfl⟩ := List.mem_map.1 (mem_sorted.1 hp)
    obtain ⟨t, hl, hk, ht⟩ := hrd y hy
    rw [hk]
    exact ⟨t, hl, rfl, ht, rfl⟩
  · -- the look-up finds it
    have hz := z_dots w
    rcases fit_look false str_keys Try.underlying62 hz hb F (str_key hx) with ⟨hrun, _, _⟩ | ⟨e0, y, he0, hk0, hrun, _⟩
    · have h2 := h.look hx
      rw [hrun] at h2
      have h3 : L.val S x = .slice none 0 0 := by
        simp only [Bool.false_eq_true, if_false, Result.ok.injEq, and_true] at h2
        exact h2.symm
      have h4 := h.val x
      rw [h3] at h4
      exact absurd (h4.uniq (OwnD.nil w)) ht
    · obtain ⟨t, hl, hk, _⟩ := hrd e0 he0
      obtain ⟨t', hl', hk', ht', hv'⟩ := hval e0 he0
      rw [hk0, str_key hx] at hk'
      have hxt : x = t' := sk_inj (Option.some.inj hk')
      subst hxt
      refine mem_sorted.2 (List.mem_map.2 ⟨e0, he0, rg_of ?_⟩)
      unfold WideElems.rd
      rw [hk0, str_key hx, hv', hR _ _ (h.row x ht')]
      rfl
theorem sub_all {α : Type} [DecidableEq α] : ∀ (a b : List α), a.Nodup → (∀ x ∈ a, x ∈ b) → b.length ≤ a.length → ∀ x ∈ b, x ∈ a
  | [], b, _, _, hl, x, hx => by
    have : b = [] := List.length_eq_zero_iff.1 (Nat.le_zero.1 hl)
    rw [this] at hx; cases hx
  | y :: t, b, hn, hs, hl, x, hx => by
    obtain ⟨hy, ht⟩ := List.nodup_cons.1 hn
    by_cases hxy : x = y
    · rw [hxy]; exact List.mem_cons_self ..
    · have hyb := hs y (List.mem_cons_self ..)
      have hlen : (b.erase y).length = b.length - 1 := List.length_erase_of_mem hyb
      have hxe : x ∈ b.erase y := (List.mem_erase_of_ne hxy).2 hx
      refine List.mem_cons_of_mem _ (sub_all t (b.erase y) ht (fun z hz => ?_) (by simp only [List.length_cons] at hl; omega) x hxe)
      exact (List.mem_erase_of_ne (fun (e : z = y) => hy (by rw [← e]; exact hz))).2 (hs z (List.mem_cons_of_mem _ hz))
def eqdL : DataW (List C.Dt) → DataW (List C.Dt) → Bool
  | .held a, .held b => decide (a = b)
  | _, _ => false
/-- Two sets' texts held against each other. -/
theorem same_iff9 {S1 S2 : C.Os} {e1 e2 : List (Lit × DataW (List C.Dt))}
    (p1 : e1.Pairwise (fun p q => p.1 ≠ q.1)) (a1 : ∀ p ∈ e1, ∃ x : Tx, x.size ≤ maxLen ∧ p.1 = sk x ∧ S1.th x ≠ [] ∧ p.2 = .held (S1.th x)) (b1 : ∀ x : Tx, x.size ≤ maxLen → S1.th x ≠ [] → (sk x, DataW.held (S1.th x)) ∈ e1)
    (p2 : e2.Pairwise (fun p q => p.1 ≠ q.1)) (a2 : ∀ p ∈ e2, ∃ x : Tx, x.size ≤ maxLen ∧ p.1 = sk x ∧ S2.th x ≠ [] ∧ p.2 = .held (S2.th x)) (b2 : ∀ x : Tx, x.size ≤ maxLen → S2.th x ≠ [] → (sk x, DataW.held (S2.th x)) ∈ e2) :
    equalFuncD eqdL (.map e1) (.map e2) = true ↔ ∀ x : Tx, x.size ≤ maxLen → S1.th x = S2.th x := by
  have key : ∀ (S : C.Os) (e : List (Lit × DataW (List C.Dt))), e.Pairwise (fun p q => p.1 ≠ q.1) → (∀ p ∈ e, ∃ x : Tx, x.size ≤ maxLen ∧ p.1 = sk x ∧ S.th x ≠ [] ∧ p.2 = .held (S.th x)) → (∀ x : Tx, x.size ≤ maxLen → S.th x ≠ [] → (sk x, DataW.held (S.th x)) ∈ e) →
      ∃ ks : List Tx, ks.length = e.length ∧ ks.Nodup ∧ ∀ x, x ∈ ks ↔ (x.size ≤ maxLen ∧ S.th x ≠ []) := fun S e hp ha hb => by
    refine ⟨e.map fun p => ⟨(strOf p.1).toArray⟩, List.length_map _, ?_, fun x => ?_⟩
    · refine List.pairwise_map.2 (hp.imp_of_mem fun {p q} hp' hq' hne e => hne ?_)
      obtain ⟨x, _, hx, _⟩ := ha p hp'
      obtain ⟨y, _, hy, _⟩ := ha q hq'
      rw [hx, hy] at e ⊢
      exact congrArg sk e
    · rw [List.mem_map]
      constructor
      · rintro ⟨p, hp', rfl⟩
        obtain ⟨y, hl, hy, ht, _⟩ := ha p hp'
        rw [hy]
        exact ⟨hl, ht⟩
      · rintro ⟨hl, ht⟩
        exact ⟨_, hb x hl ht, rfl⟩
  have hkl : ∀ (S : C.Os) (e : List (Lit × DataW (List C.Dt))), (∀ p ∈ e, ∃ x : Tx, x.size ≤ maxLen ∧ p.1 = sk x ∧ S.th x ≠ [] ∧ p.2 = .held (S.th x)) → ∀ p ∈ e, WideAt.IsKeyLit p.1 := fun S e ha p hp => by
    obtain ⟨x, _, hx, _⟩ := ha p hp
    rw [hx]; trivial
  obtain ⟨k1, l1, n1, m1⟩ := key S1 e1 p1 a1 b1
  obtain ⟨k2, l2, n2, m2⟩ := key S2 e2 p2 a2 b2
  have good : ∀ x : Tx, x.size ≤ maxLen → S1.th x ≠ [] → (goodD eqdL (.map e2) (sk x, .held (S1.th x)) = true ↔ S1.th x = S2.th x) := fun x hl ht => by
    unfold goodD
    rw [Bool.and_eq_true]
    constructor
    · rintro ⟨h1, h2⟩
      have hx2 : S2.th x ≠ [] := fun h0 => by
        rw [has_eq, List.any_eq_true] at h1
        obtain ⟨p, hp, hps⟩ := h1
        obtain ⟨y, _, hy, ht2, _⟩ := a2 p hp
        by_cases hxy : sk y = sk x
        · rw [sk_inj hxy] at ht2; exact ht2 h0
        · rw [hy] at hps
          rw [sameKey_ne hxy] at hps; cases hps
      obtain ⟨_, h4⟩ := at_entry e2 p2 (hkl S2 e2 a2) _ (b2 x hl hx2)
      simp only at h4 h2
      rw [h4] at h2
      exact of_decide_eq_true h2
    · intro h
      have hx2 : S2.th x ≠ [] := by rw [← h]; exact ht
      obtain ⟨h3, h4⟩ := at_entry e2 p2 (hkl S2 e2 a2) _ (b2 x hl hx2)
      simp only at h3 h4
      refine ⟨h3, ?_⟩
      simp only
      rw [h4]
      exact decide_eq_true h
  unfold equalFuncD
  rw [Bool.and_eq_true, decide_eq_true_eq]
  constructor
  · rintro ⟨hsz, hall⟩ x hl
    have hall' : ∀ p ∈ e1, goodD eqdL (.map e2) p = true := fun p hp => (List.all_eq_true.1 hall) p hp
    have h12 : ∀ y : Tx, y.size ≤ maxLen → S1.th y ≠ [] → S1.th y = S2.th y := fun y hy ht => (good y hy ht).1 (hall' _ (b1 y hy ht))
    by_cases ht : S1.th x = []
    · by_cases ht2 : S2.th x = []
      · rw [ht, ht2]
      · exfalso
        have hsub : ∀ y ∈ k1, y ∈ k2 := fun y hy => by
          obtain ⟨q1, q2⟩ := (m1 y).1 hy
          exact (m2 y).2 ⟨q1, by rw [← h12 y q1 q2]; exact q2⟩
        have := sub_all k1 k2 n1 hsub (by rw [l1, l2]; exact Nat.le_of_eq hsz.symm) x ((m2 x).2 ⟨hl, ht2⟩)
        exact ((m1 x).1 this).2 ht
    · exact h12 x hl ht
  · intro h
    refine ⟨?_, List.all_eq_true.2 fun p hp => ?_⟩
    · have hperm : k1.Perm k2 := (List.perm_ext_iff_of_nodup n1 n2).2 fun x => by
        rw [m1, m2]
        constructor
        · rintro ⟨q1, q2⟩; exact ⟨q1, by rw [← h x q1]; exact q2⟩
        · rintro ⟨q1, q2⟩; exact ⟨q1, by rw [h x q1]; exact q2⟩
      have := hperm.length_eq
      show e1.length = e2.length
      omega
    · obtain ⟨x, hl, hx, ht, hv⟩ := a1 p hp
      have : p = (sk x, .held (S1.th x)) := Prod.ext hx hv
      rw [this]
      exact (good x hl ht).2 (h x hl)
end Go.Proofs.Ytoglhhoniojbaaa

namespace Go.Proofs.Ytoglhhoniojbaaa
open Go.RowKit Go.Lib Go.Maps Go.Shelf
set_option linter.unusedVariables false

theorem OwnD.max {w : World} {v : Value} {l : List C.Dt} (h : OwnD w v l) : l.length ≤ maxLen := by
  rcases h.shape with ⟨_, rfl⟩ | ⟨g, cap, cur, _, _, h1, h2, _⟩
  · exact Nat.zero_le _
  · exact Nat.le_trans h1 h2
theorem below_grown {w w' : World} (h : w.grownBy w' none) : Below w.heap.size w w' := ⟨h.os, h.tape, h.output, h.size, fun b hb => h.block b hb (fun e => by cases e)⟩
theorem grown_below {w w' : World} (h : Below w.heap.size w w') : w.grownBy w' none := ⟨h.os, h.tape, h.output, h.size, fun b hb _ => h.block b hb⟩
set_option maxRecDepth 100000 in
set_option maxHeartbeats 4000000 in
theorem sleq_any (u v : Value) (l1 l2 : List C.Dt) (w : World) (h1 : OwnD w u l1) (h2 : OwnD w v l2) :
    Calls Try.prog 43 #[u, v] w fun e w' => e = .returned (.bool (decide (l1 = l2))) ∧ Below w.heap.size w w' := by
  have hl := h1.max
  have hl2 := h2.max
  unfold maxLen at hl hl2
  obtain ⟨q1, c1, hv1⟩ := h1.len
  obtain ⟨q2, c2, hv2⟩ := h2.len
  subst hv1 hv2
  by_cases hlen : l1.length = l2.length
  · obtain ⟨n, hn⟩ : ∃ n, n = l1.length := ⟨_, rfl⟩
    have HN : Hid (n = l1.length) := hn
    have HN2 : Hid (n = l2.length) := hn.trans hlen
    have H1 : Hid (OwnD w (.slice q1 n c1) l1) := by show OwnD _ _ _; rw [hn]; exact h1
    have H2 : Hid (OwnD w (.slice q2 n c2) l2) := by show OwnD _ _ _; rw [HN2.out]; exact h2
    rw [← hlen, ← hn]
    rw [← hn] at hl
    clear h1 h2 hn hlen hl2
    obtain ⟨r, hr⟩ : ∃ r, r = decide (l1 = l2) := ⟨_, rfl⟩
    have HR : Hid (r = decide (l1 = l2)) := hr
    rw [← hr]
    clear hr
    go_enter Try.func43, Try.ntmps43
    go_wp2_with fail
    go_loopw [13] (fun s13 wr => ∃ k : Nat, s13 = .int .i64 k ∧ k ≤ n ∧ Hid (l1.take k = l2.take k) ∧ Hid (Below w.heap.size w wr)) (fun s13 _ => n - (intOf s13).toNat)
    case atStart => exact ⟨0, rfl, Nat.zero_le _, by show _ = _; simp, Below.refl _ _⟩
    case round =>
      obtain ⟨k, rfl, hkn, HE, HB⟩ := hrel
      by_cases hlt : k < n
      · obtain ⟨x, hx⟩ : ∃ x, l1[k]? = some x := ⟨_, List.getElem?_eq_getElem (by have := HN.out; omega)⟩
        obtain ⟨y, hy⟩ : ∃ y, l2[k]? = some y := ⟨_, List.getElem?_eq_getElem (by have := HN2.out; omega)⟩
        obtain ⟨ga, ca, hva⟩ := H1.out.at (by have := HN.out; omega)
        rw [← HN.out] at hva
        obtain ⟨gb, cb, hvb⟩ := H2.out.at (by have := HN2.out; omega)
        rw [← HN2.out] at hvb
        cases hva
        cases hvb
        have hne : Nonempty (NewW wr) := ⟨NewW.start wr⟩
        have a0 : ∀ m : NewW wr, m.v.cell? ⟨ga, k * 2, none⟩ = some (.int .i64 x.1) := fun m => ((H1.out.below (bt HB.out m.h)).cell k x hx).1
        have a1 : ∀ m : NewW wr, m.v.cell? ⟨ga, k * 2 + 1, none⟩ = some (.int .i64 x.2) := fun m => ((H1.out.below (bt HB.out m.h)).cell k x hx).2
        have b0 : ∀ m : NewW wr, m.v.cell? ⟨gb, k * 2, none⟩ = some (.int .i64 y.1) := fun m => ((H2.out.below (bt HB.out m.h)).cell k y hy).1
        have b1 : ∀ m : NewW wr, m.v.cell? ⟨gb, k * 2 + 1, none⟩ = some (.int .i64 y.2) := fun m => ((H2.out.below (bt HB.out m.h)).cell k y hy).2
        obtain ⟨qb, hqb⟩ : ∃ qb, qb = (x.1 == y.1 && x.2 == y.2) := ⟨_, rfl⟩
        have kq : ∀ W, (Op.equalIn 10000 31 (.agg #[.int .i64 x.1, .int .i64 x.2]) (.agg #[.int .i64 y.1, .int .i64 y.2])).run Try.prog W = .ok qb W := fun W => by rw [hqb]; exact eq2_dot x.1 x.2 y.1 y.2 W
        have HQ : Hid (qb = true ↔ x = y) := by show _ ↔ _; rw [hqb]; simp [Prod.ext_iff]
        have HX : Hid (l1[k]? = some x) := hx
        have HY : Hid (l2[k]? = some y) := hy
        clear hqb hx hy
        cases qb with
        | false =>
          go_wp2_with fail
          refine wp_region_new (by kernel_rfl) (by kernel_rfl) ?_
          repeat (go_big_quiet_step (fail))
          refine wpQuiet_nil ?_
          rintro _ ⟨w2, rfl⟩
          have HF : Hid (r = false) := by
            show r = false
            rw [HR.out]
            refine decide_eq_false fun e => ?_
            have h3 := HX.out
            rw [e, HY.out] at h3
            have := HQ.out.2 (Option.some.inj h3).symm
            cases this
          clear a0 a1 b0 b1 kq hne
          go_wp2
          go_ret
          exact ⟨by rw [HF.out]; rfl, bt HB.out w2.h⟩
        | true =>
          go_wp2_with fail
          refine wp_region_new (by kernel_rfl) (by kernel_rfl) ?_
          repeat (go_big_quiet_step (fail))
          refine wpQuiet_nil ?_
          rintro _ ⟨w2, rfl⟩
          have HB2 : Hid (Below w.heap.size w w2.v) := bt HB.out w2.h
          clear a0 a1 b0 b1 kq hne
          go_wp2
          go_roundw
          case rel =>
            refine ⟨k + 1, by go_num, by omega, ?_, HB2.out⟩
            show _ = _
            rw [C.take_snoc HX.out, C.take_snoc HY.out, HE.out, HQ.out.1 (by trivial)]
          case measure => simp [intOf]; omega
      · obtain rfl : k = n := by omega
        have HT : Hid (r = true) := by
          show r = true
          rw [HR.out]
          have h3 := HE.out
          rw [List.take_of_length_le (Nat.le_of_eq HN.out.symm), List.take_of_length_le (Nat.le_of_eq HN2.out.symm)] at h3
          exact decide_eq_true h3
        go_wp2
        go_ret
        exact ⟨by rw [HT.out]; rfl, HB.out⟩
  · have hf : decide (l1 = l2) = false := decide_eq_false fun e => hlen (by rw [e])
    rw [hf]
    clear hf h1 h2
    generalize l1.length = n1 at *
    generalize l2.length = n2 at *
    go_enter Try.func43, Try.ntmps43
    go_wp2
    go_ret
    exact ⟨rfl, Below.refl _ _⟩
set_option maxHeartbeats 1000000 in
theorem eqf_any (w : World) (g1 g2 n1 n2 : Nat) (L1 L2 : OLay) (S1 S2 : C.Os) (h1 : SetAt w g1 n1 L1 S1) (h2 : SetAt w g2 n2 L2 S2) (z : Bool) (hz : z = true ↔ ∀ x : Tx, x.size ≤ maxLen → S1.th x = S2.th x) :
    Calls Try.prog 42 #[.map (some L1.bT), .map (some L2.bT), .func (.func 43) #[] #[]] w fun e w' => e = .returned (.bool z) ∧ Below w.heap.size w w' := by
  obtain ⟨R, hR, hRi⟩ := reader_of w
  obtain ⟨e1, o1, p1, a1, b1⟩ := h1.rows hR
  obtain ⟨e2, o2, p2, a2, b2⟩ := h2.rows hR
  have hgo : equalFuncD eqdL (.map e1) (.map e2) = z := by
    rw [Bool.eq_iff_iff, same_iff9 p1 a1 b1 p2 a2 b2, hz]
  have HC := AnyEq.maps_EqualFunc (ρ := Try.eqF_ren) { Try.eqF with } str_keys R R eqdL 43 #[] L1.bT L2.bT n1 n2 (.map e1) (.map e2) w (enters_of Try.func43 (by kernel_rfl) rfl) o1 o2 (.slice none 0 0) (fun w => z_dots w) (.held []) [] (hR _ _ (OwnD.nil w)) (fun W x y xd yd xp yp hW hx hy => by
    obtain ⟨la, ha, hxe⟩ := hRi x _ hx
    obtain ⟨lb, hb, hye⟩ := hRi y _ hy
    cases hxe; cases hye
    refine (sleq_any x y la lb W (ha.below (below_grown hW)) (hb.below (below_grown hW))).mono ?_
    rintro e w' ⟨rfl, hk⟩
    exact ⟨rfl, grown_below hk⟩)
  refine Calls.mono HC ?_
  rintro e w' ⟨rfl, hg⟩
  exact ⟨by rw [hgo], below_grown hg⟩
set_option maxRecDepth 100000 in
set_option maxHeartbeats 4000000 in
theorem same9_any (w : World) (g1 g2 n1 n2 : Nat) (L1 L2 : OLay) (S1 S2 : C.Os) (h1 : SetAt w g1 n1 L1 S1) (h2 : SetAt w g2 n2 L2 S2) (z : Bool) (hz : z = true ↔ ∀ x : Tx, x.size ≤ maxLen → S1.th x = S2.th x) :
    Calls Try.prog 15 #[.pointer (some ⟨g1, 0, none⟩), .pointer (some ⟨g2, 0, none⟩)] w fun e w' => e = .returned (.bool z) ∧ Below w.heap.size w w' := by
  have H1 : Hid (SetAt w g1 n1 L1 S1) := h1
  have H2 : Hid (SetAt w g2 n2 L2 S2) := h2
  have HE : Hid (∀ W, Below w.heap.size w W → Calls Try.prog 42 #[.map (some L1.bT), .map (some L2.bT), .func (.func 43) #[] #[]] W fun e w' => e = .returned (.bool z) ∧ Below W.heap.size W w') := fun W hW => eqf_any W g1 g2 n1 n2 L1 L2 S1 S2 (H1.out.below hW) (H2.out.below hW) z hz
  have c1 : ∀ m : NewW w, m.v.cell? ⟨g1, 1, none⟩ = some (.map (some L1.bT)) := fun m => (H1.out.below m.h).cells.2.1
  have c2 : ∀ m : NewW w, m.v.cell? ⟨g2, 1, none⟩ = some (.map (some L2.bT)) := fun m => (H2.out.below m.h).cells.2.1
  have hne : Nonempty (NewW w) := ⟨NewW.start w⟩
  clear h1 h2 hz
  go_enter Try.func15, Try.ntmps15
  go_wp2_with fail
  refine wp_region_new (by kernel_rfl) (by kernel_rfl) ?_
  repeat (go_big_quiet_step ((first | (with_reducible rfl) | (with_reducible exact new_of (HE.out _ (NewW.h _))))))
  refine wpQuiet_nil ?_
  rintro _ ⟨w2, rfl⟩
  clear c1 c2 hne
  go_wp2
  go_ret
  exact ⟨rfl, w2.h⟩
end Go.Proofs.Ytoglhhoniojbaaa
