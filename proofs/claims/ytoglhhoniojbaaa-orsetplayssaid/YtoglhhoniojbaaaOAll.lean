/-
  orset: All; rows of texts.
-/
import Derived.Test.YtoglhhoniojbaaaZ3
import Derived.Test.YtoglhhoniojbaaaLayS
namespace Go.Proofs.Ytoglhhoniojbaaa
open Go.RowKit Go.Lib Go.Maps Go.Sort Go.Shelf
set_option linter.unusedVariables false

/-- All texts of a set, rising, each once. -/
structure IsAll (S : C.Os) (ks : List (List UInt8)) : Prop where
  up : ks.Pairwise fun a b => leB a b = true
  once : ks.Nodup
  mem : ∀ b, b ∈ ks ↔ (S.th ⟨b.toArray⟩ ≠ [] ∧ b.length ≤ maxLen)
theorem leB_anti {a b : List UInt8} (h1 : leB a b = true) (h2 : leB b a = true) : a = b := by
  simp only [leB, decide_eq_true_eq] at h1 h2
  exact List.le_antisymm h1 h2
theorem IsAll.uniq {S : C.Os} {a b : List (List UInt8)} (ha : IsAll S a) (hb : IsAll S b) : a = b :=
  List.Perm.eq_of_pairwise (le := fun a b => leB a b = true) (fun x y _ _ h1 h2 => leB_anti h1 h2) ha.up hb.up ((List.perm_ext_iff_of_nodup ha.once hb.once).2 fun x => by rw [ha.mem, hb.mem])
theorem sk_of (b : List UInt8) : sk ⟨b.toArray⟩ = .string b := rfl
theorem is_all {w : World} {b n : Nat} {D : DataW Value} {m : Lit → Option Value} (hown : w.ownsMap Try.prog 9 anyR b n D) (hr : GReads D m) {S : C.Os} {rv : Tx → Value} (hm : ∀ x, m (sk x) = if S.th x = [] then none else some (rv x)) {ss : List (List UInt8)} (hp : ss.Perm (strKeys D)) :
    IsAll S (ss.mergeSort fun x y => decide (x ≤ y)) := by
  obtain ⟨es, rfl, hpw, hk⟩ := hown.entries str_keys
  have hkey : ∀ p ∈ es, ∃ x, p.1 = .string x ∧ x.length ≤ maxLen := fun p hp' => by
    obtain ⟨es', he, hk'⟩ := World.ownsMap.keysOf hown
    cases he
    obtain ⟨v, hv⟩ := hk' p hp'
    obtain ⟨x, _, h2, h3⟩ := keyOf_str Try.underlying9 hv
    exact ⟨x, h2, h3⟩
  have hnd : (strKeys (DataW.map es)).Nodup := by
    show (es.map _).Nodup
    refine List.pairwise_map.2 (hpw.imp_of_mem fun {p q} hp' hq' hne e => hne ?_)
    obtain ⟨a, ha, _⟩ := hkey p hp'
    obtain ⟨c, hc, _⟩ := hkey q hq'
    rw [ha, hc] at e ⊢
    exact congrArg _ e
  have hmem : ∀ x, x ∈ strKeys (DataW.map es) ↔ (S.th ⟨x.toArray⟩ ≠ [] ∧ x.length ≤ maxLen) := fun x => by
    have h1 := (hr (.string x)).1
    rw [← sk_of, hm] at h1
    have h3 : (if S.th ⟨x.toArray⟩ = [] then none else some (rv ⟨x.toArray⟩)).isSome = true ↔ S.th ⟨x.toArray⟩ ≠ [] := by
      split
      · rename_i h; simp [h]
      · rename_i h; simp [h]
    rw [← h3, ← h1, has_eq, List.any_eq_true]
    show x ∈ es.map _ ↔ _
    rw [List.mem_map]
    constructor
    · rintro ⟨p, hp', rfl⟩
      obtain ⟨a, ha, hl⟩ := hkey p hp'
      rw [ha]
      exact ⟨⟨p, hp', by rw [ha]; simp [Lit.sameKey, strOf, sk]⟩, by simpa [strOf] using hl⟩
    · rintro ⟨⟨p, hp', hs⟩, hl⟩
      obtain ⟨a, ha, _⟩ := hkey p hp'
      rw [ha] at hs
      refine ⟨p, hp', ?_⟩
      rw [ha]
      simpa [Lit.sameKey, strOf, sk] using hs
  have tr : ∀ a b c : List UInt8, leB a b = true → leB b c = true → leB a c = true := fun a b c h1 h2 => by simp only [leB, decide_eq_true_eq] at *; exact List.le_trans h1 h2
  have to : ∀ a b : List UInt8, (leB a b || leB b a) = true := fun a b => by simp only [leB, Bool.or_eq_true, decide_eq_true_eq]; exact List.le_total a b
  exact ⟨List.pairwise_mergeSort tr to ss, ((List.mergeSort_perm ss _).trans hp).nodup_iff.2 hnd, fun x => by rw [((List.mergeSort_perm ss _).trans hp).mem_iff, hmem]⟩
theorem sortsS (m : Nat) : AnyZ.SortsIn Try.prog Try.sortedS_ren Fence.wide m :=
  ⟨fun blk off cap ss W hH hblk hsz => callsIn_wide.2 (AnyM.slices_Sort_string Try.sortS blk off cap ss W hH hblk hsz),
   fun p cap W => callsIn_wide.2 (AnyM.slices_Sort_string_none Try.sortS p cap W)⟩
set_option maxHeartbeats 1000000 in
theorem keysS_any (mb : Option Nat) (W : World) : Calls Try.prog 48 #[.map mb] W fun e w' => e = .returned (.func (.func 71) #[] #[.pointer (some ⟨W.heap.size, 0, none⟩)]) ∧ w' = W.alloc (.cells #[.map mb] 62) :=
  (callsIn_wide (n := 5)).1 (AnyZ.keys_in Try.keysS Fence.wide 5 trivial rfl mb W)
set_option maxHeartbeats 1000000 in
theorem sortedS_any (b nn : Nat) (D0 : DataW Value) (w : World) (hown : w.ownsMap Try.prog 9 anyR b nn D0) (hmax : Maps.size D0 ≤ maxLen) (hbytes : Maps.size D0 * 16 ≤ 140737488355328) :
    Calls Try.prog 47 #[.func (.func 71) #[] #[.pointer (some ⟨w.heap.size, 0, none⟩)]] (w.alloc (.cells #[.map (some b)] 62)) fun e w' => ∃ (v : Value) (ss : List (List UInt8)), e = .returned v ∧ ss.Perm (strKeys D0) ∧
      w'.ownsRow (w.heap.size + 1) 9 1 v ss.length ((ss.mergeSort (fun x y => decide (x ≤ y))).map encStr) ∧ (v = .slice none 0 0 ↔ ss = []) ∧ Below (w.heap.size + 1) (w.alloc (.cells #[.map (some b)] 62)) w' := by
  have hbl := hown.lt
  have hseq : SeqGives Fence.wide 2 Try.prog 71 #[.pointer (some ⟨w.heap.size, 0, none⟩)] encStr (fun ss => ss.Perm (strKeys D0)) (Maps.size D0) (w.alloc (.cells #[.map (some b)] 62)) :=
    AnyZ.keys_gives (ρ := Try.keysS_ren) { Try.keysS with } Fence.wide _ trivial rfl (by omega) w.heap.size b nn D0 _ (by simp) (by simp) (by
      obtain ⟨es, clock, hb, Ft, hs, hD⟩ := hown
      exact ⟨es, clock, (Below.heap_alloc _ _ b hbl).trans hb, Ft, hs, hD⟩)
  have cS := AnyZ.sorted_in Try.sortedS Fence.wide 5 trivial trivial trivial trivial rfl (by omega) (sortsS _) (enters_of Try.func70 (by kernel_rfl) rfl) 71 #[.pointer (some ⟨w.heap.size, 0, none⟩)] trivial (enters_of Try.func71 (by kernel_rfl) rfl) _ _ hmax hbytes _ hseq
  have h := (callsIn_wide (n := 5)).1 cS
  refine Calls.mono h ?_
  rintro e w' ⟨v, ss, he, hp, ho, hn, hb⟩
  rw [World.size_alloc] at ho hb
  exact ⟨v, ss, he, hp, ho, hn, hb⟩
/-- A row of texts of the call's own. -/
def OwnT (w : World) (base : Nat) (v : Value) (ks : List (List UInt8)) : Prop := w.ownsRow base 9 1 v ks.length (ks.map encStr)
set_option maxRecDepth 100000 in
set_option maxHeartbeats 1000000 in
theorem all_of (w : World) (g n : Nat) (L : OLay) (S : C.Os) (h : SetAt w g n L S) (hn : n ≤ 1000000) :
    Calls Try.prog 19 #[.pointer (some ⟨g, 0, none⟩)] w fun e w' => (∃ v ks, e = .returned v ∧ IsAll S ks ∧ OwnT w' w.heap.size v ks) ∧ Below w.heap.size w w' := by
  obtain ⟨c0, c1, c2⟩ := h.cells
  obtain ⟨m, ⟨D, hown, hr⟩, hm⟩ := h.mT
  have hsz : Maps.size D ≤ n := hown.size_le
  have HK : Hid _ := keysS_any (some L.bT) w
  have HS : Hid _ := sortedS_any L.bT _ D w hown (by unfold maxLen; omega) (by omega)
  have HF2 : Hid (∀ ss : List (List UInt8), ss.Perm (strKeys D) → IsAll S (ss.mergeSort fun x y => decide (x ≤ y))) := fun ss hp => is_all hown hr hm hp
  clear hown hr hm hsz h c0 c2
  go_enter Try.func19, Try.ntmps19
  go_wp2_with fail
  refine Calls.mono HK.out ?_
  rintro e w1 ⟨rfl, hw⟩
  subst hw
  go_wp2_with fail
  refine Calls.mono HS.out ?_
  rintro e w2 ⟨v, ss, rfl, hp, ho2, hn2, hb2⟩
  have HA : Hid (IsAll S (ss.mergeSort fun x y => decide (x ≤ y))) := HF2.out ss hp
  have HO : Hid (OwnT w2 w.heap.size v (ss.mergeSort fun x y => decide (x ≤ y))) := by
    show w2.ownsRow _ _ _ _ _ _
    rw [List.length_mergeSort]
    exact ⟨ho2.1, ho2.2.imp id fun ⟨g, cap, cur, h1, h2, h3⟩ => ⟨g, cap, cur, h1, Nat.le_trans (Nat.le_succ _) h2, h3⟩⟩
  have HB2 : Hid _ := hb2
  clear hp ho2 hn2 hb2
  go_wp2
  go_ret
  exact ⟨⟨v, _, rfl, HA.out, HO.out⟩, bt (below_new _ _) (by have := HB2.out; rw [← World.size_alloc w (.cells #[.map (some L.bT)] 62)] at this; exact this)⟩
end Go.Proofs.Ytoglhhoniojbaaa
