/-
  Several texts in one: TSort, TComp, TComp2, TSettle, TGet2, TGet3, TPut, KKnown, KOrder.
-/
import Derived.Test.YtglmmhgmdhdleaaZ1
import Derived.Test.YtglmmhgmdhdleaaLayD
import Derived.Deep.RegionHeldLaw
namespace Go.Proofs.Ytglmmhgmdhdleaa
open Go.RowKit Go.Lib Go.Sort
set_option linter.unusedVariables false

/-- A row by its cells. -/
theorem ownD_cells {w : World} {g cap : Nat} {cur : Array Value} {l : List C.Dt} (hg : w.heap[g]? = some (.cells cur 29)) (hs : cur.size = cap * 2) (hn : l.length ≤ cap) (hm : cap ≤ maxLen)
    (hc : ∀ i x j, l[i]? = some x → j < 2 → w.cell? ⟨g, i * 2 + j, none⟩ = (encD x)[j]?) : OwnD w (.slice (some ⟨g, 0, none⟩) l.length cap) l := by
  refine OwnD.make (cur := cur.toList) (by rw [Array.toArray_toList]; exact hg) hn hm (by simpa using hs) ?_
  apply List.ext_getElem?
  intro t
  rw [List.getElem?_take]
  by_cases ht : t < l.length * 2
  · rw [if_pos ht]
    have hd : t / 2 < l.length := by omega
    have hx : l[t / 2]? = some l[t / 2] := List.getElem?_eq_getElem hd
    have h1 := hc (t / 2) _ (t % 2) hx (by omega)
    have h2 := rowD_get l (t / 2) _ (t % 2) hx (by omega)
    rw [show t / 2 * 2 + t % 2 = t by omega] at h1 h2
    rw [h2, ← h1]
    simp [World.cell?, hg]
  · rw [if_neg ht, List.getElem?_eq_none (by rw [rowD_length]; omega)]
theorem own_holdsD {w : World} {g cap : Nat} {l : List C.Dt} (h : OwnD w (.slice (some ⟨g, 0, none⟩) l.length cap) l) : HoldsK encD 2 w g 0 l.toArray ∧ g < w.heap.size := by
  rcases h.shape with ⟨h1, _⟩ | ⟨g', cap', cur, hv, hg, hn, hm, hs, ht⟩
  · cases h1
  cases hv
  refine ⟨fun t ht' => ?_, (Array.getElem?_eq_some_iff.1 hg).1⟩
  simp only [size_flatK, List.size_toArray] at ht'
  have hd : t / 2 < l.length := by omega
  have hx : l[t / 2]? = some l[t / 2] := List.getElem?_eq_getElem hd
  have h2 := rowD_get l (t / 2) _ (t % 2) hx (by omega)
  rw [show t / 2 * 2 + t % 2 = t by omega, ← ht, List.getElem?_take, if_pos ht'] at h2
  refine ⟨?_, by simp [World.frozen?, hg]⟩
  rw [Nat.zero_add, box_cells hg t, get_flatK _ _ _ _ (by simpa using ht'), List.getElem?_toArray, h2]
  have e4 : l.toArray[t / 2]! = l[t / 2] := by simp [hd]
  rw [e4]
  have : t % 2 < (encD l[t / 2]).length := by show _ < 2; omega
  rw [List.getElem?_eq_getElem this]
  simp [this]
theorem ltD (x y : C.Dt) : ltOf C.cmpD x y = C.dlt x y := by
  unfold ltOf
  rw [Bool.eq_iff_iff, decide_eq_true_eq]
  exact C.cmpD_lt x y
theorem swoD : SWO (ltOf C.cmpD) where
  irrefl x := by rw [ltD]; exact C.dlt_irrefl x
  trans x y z h1 h2 := by rw [ltD] at *; exact C.dlt_trans h1 h2
  ntrans x y z h1 h2 := by
    rw [ltD] at *
    rw [C.dlt_not] at *
    omega
theorem encD_one (x : C.Dt) : ∀ v ∈ encD x, v.oneCell' = true := fun v hv => by
  simp only [encD, List.mem_cons, List.not_mem_nil, or_false] at hv
  rcases hv with rfl | rfl <;> rfl
theorem laysD (blk off size : Nat) (w : World) : CmpLays Try.prog 50 #[] encD 2 C.cmpD blk off size w := fun _ _ _ _ x y => compare_any x y _
theorem sortD_some (g cap : Nat) (l : List C.Dt) (w : World) (h : OwnD w (.slice (some ⟨g, 0, none⟩) l.length cap) l) (hl : l.length ≤ 1000000) :
    Calls Try.prog 49 #[.slice (some ⟨g, 0, none⟩) l.length cap, .func (.func 50) #[] #[]] w fun e w' => e = .returned (.tuple #[]) ∧ (∃ l', OwnD w' (.slice (some ⟨g, 0, none⟩) l.length cap) l' ∧ l'.Perm l ∧ l'.Pairwise fun a b => C.dlt b a = false) ∧ w.grownBy w' (some g) := by
  obtain ⟨hH, hgl⟩ := own_holdsD h
  have hc := AnyQ.slices_SortFunc Try.sortD 2 Try.isAgg29 Try.sizeOf29 encD (fun _ => rfl) encD_one C.cmpD swoD 50 #[] g 0 cap l.toArray w (enters_of Try.func50 (by kernel_rfl) rfl) (laysD g 0 _ w) hH hgl (by simp; omega)
  rcases h.shape with ⟨h1, _⟩ | ⟨g', cap', cur, hv, hg, hn, hm, hs, ht⟩
  · cases h1
  cases hv
  refine Calls.mono hc ?_
  rintro e w' ⟨rfl, d', n, os, ⟨hz, _, hp⟩, h2, rfl⟩
  have hz' : d'.size = l.length := by simpa using hz
  have e1 : (d'.extract 0 l.toArray.size) = d' := by rw [← hz]; simp
  have e2 : (l.toArray.extract 0 l.toArray.size) = l.toArray := by simp
  rw [e1, e2] at hp
  have hh := holdsK_sortWorldK encD 2 w g 0 n l.toArray d' os hgl hH hz
  refine ⟨rfl, ⟨d'.toList, ?_, hp, ?_⟩, ?_⟩
  · obtain ⟨cur', q1, q2⟩ : ∃ cur' : Array Value, (sortWorldK encD 2 w g 0 n d' os).heap[g]? = some (.cells cur' 29) ∧ cur'.size = cap * 2 := by
      refine ⟨putCells id 0 (flatK encD 2 d') cur.toArray, ?_, ?_⟩
      · unfold sortWorldK putRowK
        rw [heap_grow_old _ _ (by simpa [putRow, mapBlock, Sort.ahead] using hgl)]
        simp [putRow, mapBlock, Sort.ahead, Array.getElem?_modify, hg, onCells]
      · simpa [putCells] using hs
    have hlen : d'.toList.length = l.length := by simpa using hz'
    have := ownD_cells (l := d'.toList) (cap := cap) q1 q2 (by omega) hm fun i x j hx hj => by
      have hi : i < d'.size := by have := (List.getElem?_eq_some_iff.1 hx).1; simpa using this
      have h5 := (hh.cell (i := i) (c := j) hi hj).1
      rw [Nat.zero_add] at h5
      rw [h5]
      have e3 : d'[i]! = x := by
        rw [Array.getElem?_toList, Array.getElem?_eq_getElem hi] at hx
        simp only [Option.some.injEq] at hx
        rw [getElem!_pos d' i hi, hx]
      rw [e3]
      have : j < (encD x).length := hj
      rw [List.getElem?_eq_getElem this]
      simp [this]
    rw [hlen] at this
    exact this
  · rw [List.pairwise_iff_getElem]
    intro i j hi hj hij
    have hi' : i < d'.size := by simpa using hi
    have hj' : j < d'.size := by simpa using hj
    have := h2 i j (Nat.zero_le _) hij (by rw [← hz]; exact hj')
    rw [ltD] at this
    rw [getElem!_pos d' i hi', getElem!_pos d' j hj'] at this
    simpa using this
  · refine ⟨rfl, rfl, rfl, by simp [sortWorldK, putRowK, putRow, mapBlock, Sort.ahead], fun k hk hne => ?_⟩
    have hgk : g ≠ k := fun e => hne (by rw [e])
    unfold sortWorldK putRowK
    rw [heap_grow_old _ _ (by simpa [putRow, mapBlock, Sort.ahead] using hk)]
    simp [putRow, mapBlock, Sort.ahead, Array.getElem?_modify, hgk]
theorem sortD_any (v : Value) (l : List C.Dt) (w : World) (h : OwnD w v l) (hl : l.length ≤ 1000000) :
    Calls Try.prog 49 #[v, .func (.func 50) #[] #[]] w fun e w' => e = .returned (.tuple #[]) ∧ (∃ l', OwnD w' v l' ∧ l'.Perm l ∧ l'.Pairwise fun a b => C.dlt b a = false) ∧ w.grownBy w' v.ownBlock := by
  rcases h.shape with ⟨rfl, rfl⟩ | ⟨g, cap, cur, rfl, _⟩
  · refine (AnyF.slices_SortFunc_none Try.sortD none 0 _ w).mono ?_
    rintro e w' ⟨rfl, rfl⟩
    exact ⟨rfl, ⟨[], h, List.Perm.refl _, List.Pairwise.nil⟩, ⟨rfl, rfl, rfl, Nat.le_refl _, fun _ _ _ => rfl⟩⟩
  · exact sortD_some g cap l w h hl
end Go.Proofs.Ytglmmhgmdhdleaa

namespace Go.Proofs.Ytglmmhgmdhdleaa
open Go.RowKit Go.Lib
set_option linter.unusedVariables false

namespace C
def ddStep (acc : List Dt) (x : Dt) : List Dt := if acc.getLast? = some x then acc else acc ++ [x]
def dd (l : List Dt) : List Dt := l.foldl ddStep []
theorem dd_snoc (l : List Dt) (x : Dt) : dd (l ++ [x]) = ddStep (dd l) x := by unfold dd; rw [List.foldl_append]; rfl
theorem ddStep_last (acc : List Dt) (x : Dt) : (ddStep acc x).getLast? = some x := by
  unfold ddStep; split
  · assumption
  · simp
theorem dd_take {l : List Dt} {k : Nat} {x y : Dt} (hx : l[k]? = some x) (hk : 0 < k) (hy : l[k - 1]? = some y) : dd (l.take (k + 1)) = if x = y then dd (l.take k) else dd (l.take k) ++ [x] := by
  have e1 : l.take k = l.take (k - 1) ++ [y] := by
    have := take_snoc hy
    rwa [show k - 1 + 1 = k by omega] at this
  have h1 : (dd (l.take k)).getLast? = some y := by rw [e1, dd_snoc]; exact ddStep_last _ _
  rw [take_snoc hx, dd_snoc, ddStep, h1]
  by_cases h : x = y
  · subst h; simp
  · rw [if_neg h, if_neg (fun e => h (by simpa using e.symm))]
theorem dd_one (l : List Dt) (h : l.length ≤ 1) : dd l = l := by
  match l, h with
  | [], _ => rfl
  | [x], _ => rfl
theorem dd_all : ∀ (r acc : List Dt), Up acc → (∀ a ∈ acc, ∀ b ∈ r, dlt b a = false) → (r.Pairwise fun a b => dlt b a = false) → Up (r.foldl ddStep acc) ∧ ∀ x, x ∈ r.foldl ddStep acc ↔ x ∈ acc ∨ x ∈ r
  | [], acc, hu, _, _ => ⟨hu, fun x => by simp⟩
  | d :: t, acc, hu, hle, hs => by
    obtain ⟨hs1, hs2⟩ := List.pairwise_cons.1 hs
    have hd : ∀ a ∈ acc, dlt d a = false := fun a ha => hle a ha d (List.mem_cons_self ..)
    have key : Up (ddStep acc d) ∧ ∀ x, x ∈ ddStep acc d ↔ x ∈ acc ∨ x = d := by
      unfold ddStep
      split
      · rename_i h
        have hm : d ∈ acc := List.mem_of_getLast? h
        exact ⟨hu, fun x => ⟨Or.inl, fun h => by rcases h with h | rfl; exact h; exact hm⟩⟩
      · rename_i h
        refine ⟨?_, fun x => by simp⟩
        refine List.pairwise_append.2 ⟨hu, List.pairwise_singleton _ _, fun a ha b hb => ?_⟩
        obtain rfl : b = d := by simpa using hb
        cases hc : dlt a b with
        | true => rfl
        | false =>
          exfalso
          obtain rfl := dlt_total hc (hd a ha)
          obtain ⟨z, hz⟩ : ∃ z, acc.getLast? = some z := by
            cases hg : acc.getLast? with
            | none => rw [List.getLast?_eq_none_iff] at hg; subst hg; cases ha
            | some z => exact ⟨z, rfl⟩
          have hne : a ≠ z := fun e => h (by rw [hz, e])
          have hzm : z ∈ acc := List.mem_of_getLast? hz
          obtain ⟨pre, hpre⟩ : ∃ pre, acc = pre ++ [z] := by
            obtain ⟨hne', e⟩ := List.getLast?_eq_some_iff.1 hz
            exact ⟨_, e⟩
          rw [hpre] at ha hu
          rcases List.mem_append.1 ha with ha' | ha'
          · have := (List.pairwise_append.1 hu).2.2 a ha' z (by simp)
            rw [hd z hzm] at this; cases this
          · exact hne (by simpa using ha')
    have ih := dd_all t (ddStep acc d) key.1 (fun a ha b hb => by
      rcases (key.2 a).1 ha with h | rfl
      · exact hle a h b (List.mem_cons_of_mem _ hb)
      · exact hs1 b hb) hs2
    refine ⟨ih.1, fun x => ?_⟩
    have e : (d :: t).foldl ddStep acc = t.foldl ddStep (ddStep acc d) := rfl
    rw [e, ih.2 x, key.2 x, List.mem_cons]
    constructor
    · rintro ((h | h) | h)
      · exact Or.inl h
      · exact Or.inr (Or.inl h)
      · exact Or.inr (Or.inr h)
    · rintro (h | h | h)
      · exact Or.inl (Or.inl h)
      · exact Or.inl (Or.inr h)
      · exact Or.inr h
/-- Two rows, sorted together, each once: joined. -/
theorem dd_join {a b s : List Dt} (ha : Up a) (hp : s.Perm (a ++ b)) (hs : s.Pairwise fun x y => dlt y x = false) : dd s = joinL a b := by
  obtain ⟨h1, h2⟩ := dd_all s [] Up.nil (fun a h => by cases h) hs
  refine up_eq h1 (join_up b a ha) fun x => ?_
  rw [join_mem, ← List.mem_append, ← hp.mem_iff]
  have := h2 x
  unfold dd
  rw [this]; simp
end C
theorem rowD_set (l : List C.Dt) (k : Nat) (x : C.Dt) : rowD (l.set k x) = ((rowD l).set (k * 2) (.int .i64 x.1)).set (k * 2 + 1) (.int .i64 x.2) := by
  induction l generalizing k with
  | nil => rfl
  | cons y r ih =>
    have e : ∀ z : C.Dt, ∀ q, rowD (z :: q) = .int .i64 z.1 :: .int .i64 z.2 :: rowD q := fun _ _ => rfl
    cases k with
    | zero => simp [e]
    | succ k =>
      rw [List.set_cons_succ, e, e, ih, show (k + 1) * 2 = k * 2 + 1 + 1 by omega]
      simp
theorem OwnD.set {w : World} {g n cap : Nat} {l : List C.Dt} (h : OwnD w (.slice (some ⟨g, 0, none⟩) n cap) l) (hn : n = l.length) (k : Nat) (x : C.Dt) :
    OwnD ((w.setCell ⟨g, k * 2, none⟩ (.int .i64 x.1)).setCell ⟨g, k * 2 + 1, none⟩ (.int .i64 x.2)) (.slice (some ⟨g, 0, none⟩) n cap) (l.set k x) := by
  subst hn
  have h1 := (World.ownsRow.stored h (k * 2) (.int .i64 x.1)).1
  have h2 := (World.ownsRow.stored h1 (k * 2 + 1) (.int .i64 x.2)).1
  unfold OwnD
  rw [List.length_set, rowD_set]
  exact h2
end Go.Proofs.Ytglmmhgmdhdleaa

namespace Go.Proofs.Ytglmmhgmdhdleaa
open Go.RowKit Go.Lib
set_option linter.unusedVariables false

theorem cell_eq {w : World} {g a b : Nat} {v : Value} (h : w.cell? ⟨g, a, none⟩ = some v) (e : b = a) : w.cell? ⟨g, b, none⟩ = some v := by rw [e]; exact h
theorem ownD_free {w : World} {g n cap : Nat} {l : List C.Dt} (h : OwnD w (.slice (some ⟨g, 0, none⟩) n cap) l) (k : Nat) : w.frozen? ⟨g, k, none⟩ = false := by
  obtain ⟨cur, hc⟩ := row_type h rfl
  simp [World.frozen?, hc]
theorem turn_own {w w' : World} {g n cap : Nat} (h : Below w.heap.size w w') : Turn w w' (fun b => b = g) := Turn.of_below h
set_option maxRecDepth 100000 in
set_option maxHeartbeats 8000000 in
theorem compact_some (g cap : Nat) (l : List C.Dt) (w : World) (h : OwnD w (.slice (some ⟨g, 0, none⟩) l.length cap) l) (hl : l.length ≤ 1000000) (h2 : 2 ≤ l.length) :
    Calls Try.prog 53 #[.slice (some ⟨g, 0, none⟩) l.length cap] w fun e w' => ∃ m, e = .returned (.slice (some ⟨g, 0, none⟩) m cap) ∧ m = (C.dd l).length ∧ OwnD w' (.slice (some ⟨g, 0, none⟩) m cap) (C.dd l) ∧ Turn w w' (fun b => b = g) := by
  obtain ⟨n, hn⟩ : ∃ n, n = l.length := ⟨_, rfl⟩
  have HN : Hid (n = l.length) := hn
  have HO : Hid (OwnD w (.slice (some ⟨g, 0, none⟩) n cap) l) := by show OwnD _ _ _; rw [hn]; exact h
  obtain ⟨hcn, hcm⟩ : n ≤ cap ∧ cap ≤ maxLen := by
    rcases h.shape with ⟨h1, _⟩ | ⟨g', cap', cur, hv, hg, hnn, hm, hs, ht⟩
    · cases h1
    · cases hv; exact ⟨by omega, hm⟩
  have hcap63 : cap ≤ 9223372036854775807 := Nat.le_trans hcm (by decide)
  have HCM : Hid (cap ≤ maxLen) := hcm
  rw [← hn] at hl h2 ⊢
  clear h hn hcm
  go_enter Try.func53, Try.ntmps53
  go_wp2_with fail
  go_loopw [3] (fun s3 wr => ∃ j : Nat, s3 = .int .i64 ((j : Int) + 1) ∧ j + 1 ≤ n ∧ Hid (C.dd (l.take (j + 1)) = l.take (j + 1)) ∧ Hid (Below w.heap.size w wr)) (fun s3 _ => n - (intOf s3).toNat)
  case atStart => exact ⟨0, rfl, by omega, C.dd_one _ (by simp; omega), Below.refl _ _⟩
  case round =>
    obtain ⟨j, rfl, hjn, HK, HB⟩ := hrel
    by_cases hlt : j + 1 < n
    · obtain ⟨x, hx⟩ : ∃ x, l[j + 1]? = some x := ⟨_, List.getElem?_eq_getElem (by have := HN.out; omega)⟩
      obtain ⟨y, hy⟩ : ∃ y, l[j]? = some y := ⟨_, List.getElem?_eq_getElem (by have := HN.out; omega)⟩
      have hne : Nonempty (NewW wr) := ⟨NewW.start wr⟩
      have a0 : ∀ m : NewW wr, m.v.cell? ⟨g, (j + 1) * 2, none⟩ = some (.int .i64 x.1) := fun m => ((HO.out.below (bt HB.out m.h)).cell (j + 1) x hx).1
      have a1 : ∀ m : NewW wr, m.v.cell? ⟨g, (j + 1) * 2 + 1, none⟩ = some (.int .i64 x.2) := fun m => ((HO.out.below (bt HB.out m.h)).cell (j + 1) x hx).2
      have b0 : ∀ m : NewW wr, m.v.cell? ⟨g, j * 2, none⟩ = some (.int .i64 y.1) := fun m => ((HO.out.below (bt HB.out m.h)).cell j y hy).1
      have b1 : ∀ m : NewW wr, m.v.cell? ⟨g, j * 2 + 1, none⟩ = some (.int .i64 y.2) := fun m => ((HO.out.below (bt HB.out m.h)).cell j y hy).2
      obtain ⟨qb, hqb⟩ : ∃ qb, qb = (x.1 == y.1 && x.2 == y.2) := ⟨_, rfl⟩
      have kq : ∀ W, (Op.equalIn 10000 29 (.agg #[.int .i64 x.1, .int .i64 x.2]) (.agg #[.int .i64 y.1, .int .i64 y.2])).run Try.prog W = .ok qb W := fun W => by rw [hqb]; exact eq2_dot x.1 x.2 y.1 y.2 W
      have HQ : Hid (qb = true ↔ x = y) := by
        show _ ↔ _
        rw [hqb]; simp [Prod.ext_iff]
      have HT : Hid (C.dd (l.take (j + 1 + 1)) = if x = y then C.dd (l.take (j + 1)) else C.dd (l.take (j + 1)) ++ [x]) := C.dd_take hx (by omega) hy
      have HX : Hid (l[j + 1]? = some x) := hx
      clear hqb hx hy
      cases qb with
      | false =>
        go_wp2_with fail
        refine wp_region_new (by kernel_rfl) (by kernel_rfl) ?_
        repeat (go_big_quiet_step (fail))
        refine wpQuiet_nil ?_
        rintro _ ⟨w2, rfl⟩
        go_wp2
        go_roundw
        case rel =>
          refine ⟨j + 1, by go_num, by omega, ?_, bt HB.out w2.h⟩
          show _ = _
          rw [HT.out, if_neg (fun e => by have := HQ.out.2 e; cases this), HK.out, ← C.take_snoc HX.out]
        case measure => simp [intOf]; omega
      | true =>
        have hc1 : ¬ (cap = j + 1) := by omega
        have hjl : j + 1 ≤ n := by omega
        have hjc : j + 1 ≤ cap := by omega
        go_wp2_with fail
        refine wp_region_new (by kernel_rfl) (by kernel_rfl) ?_
        repeat (go_big_quiet_step (fail))
        refine wpQuiet_nil ?_
        rintro _ ⟨w2, rfl⟩
        have HB2 : Hid (Below w.heap.size w w2.v) := bt HB.out w2.h
        have HT2 : Hid (C.dd (l.take (j + 1 + 1)) = l.take (j + 1)) := by show _ = _; rw [HT.out, if_pos (HQ.out.1 (by trivial)), HK.out]
        clear a0 a1 b0 b1 kq HT HX hne
        go_wp2_with fail
        go_loopw [3, 5] (fun s3 s5 wr => ∃ (k i : Nat) (M : List C.Dt), s3 = .int .i64 k ∧ s5 = .int .i64 ((i : Int) + 1) ∧ j + 1 + i + 1 ≤ n ∧ k ≤ j + 1 + i ∧ Hid (n = M.length) ∧ Hid (M.take k = C.dd (l.take (j + 1 + i + 1))) ∧ Hid (∀ t, j + 1 + i ≤ t → M[t]? = l[t]?) ∧ Hid (OwnD wr (.slice (some ⟨g, 0, none⟩) n cap) M) ∧ Hid (Turn w wr (fun b => b = g))) (fun _ s5 _ => n - (intOf s5).toNat)
        case atStart => exact ⟨j + 1, 0, l, by go_num, rfl, by omega, by omega, HN.out, by show _ = _; rw [HT2.out], fun t _ => rfl, HO.out.below HB2.out, Turn.of_below HB2.out⟩
        case round =>
          obtain ⟨k, i, M, rfl, rfl, hin, hki, HML, HMT, HMR, HOM, HTM⟩ := hrel
          clear HB2 HT2 HK
          have hkl : k ≤ n := by omega
          have hkc : k ≤ cap := by omega
          have hck : ¬ (cap = k) := by omega
          by_cases hlt2 : i + 1 < n - (j + 1)
          · obtain ⟨x', hx⟩ : ∃ x, M[j + 1 + (i + 1)]? = some x := ⟨_, List.getElem?_eq_getElem (by have := HML.out; omega)⟩
            obtain ⟨y', hy⟩ : ∃ y, M[j + 1 + i]? = some y := ⟨_, List.getElem?_eq_getElem (by have := HML.out; omega)⟩
            have hlx : l[j + 1 + i + 1]? = some x' := by rw [← HMR.out _ (by omega)]; exact hx
            have hly : l[j + 1 + i + 1 - 1]? = some y' := by rw [show j + 1 + i + 1 - 1 = j + 1 + i by omega, ← HMR.out _ (by omega)]; exact hy
            have HT3 : Hid (C.dd (l.take (j + 1 + i + 1 + 1)) = if x' = y' then C.dd (l.take (j + 1 + i + 1)) else C.dd (l.take (j + 1 + i + 1)) ++ [x']) := C.dd_take hlx (by omega) hly
            have hne : Nonempty (NewW wr) := ⟨NewW.start wr⟩
            have a0 : ∀ m : NewW wr, m.v.cell? ⟨g, (j + 1) * 2 + (i + 1) * 2, none⟩ = some (.int .i64 x'.1) := fun m => cell_eq ((HOM.out.below m.h).cell (j + 1 + (i + 1)) x' hx).1 (by omega)
            have a1 : ∀ m : NewW wr, m.v.cell? ⟨g, (j + 1) * 2 + (i + 1) * 2 + 1, none⟩ = some (.int .i64 x'.2) := fun m => cell_eq ((HOM.out.below m.h).cell (j + 1 + (i + 1)) x' hx).2 (by omega)
            have b0 : ∀ m : NewW wr, m.v.cell? ⟨g, (j + 1) * 2 + i * 2, none⟩ = some (.int .i64 y'.1) := fun m => cell_eq ((HOM.out.below m.h).cell (j + 1 + i) y' hy).1 (by omega)
            have b1 : ∀ m : NewW wr, m.v.cell? ⟨g, (j + 1) * 2 + i * 2 + 1, none⟩ = some (.int .i64 y'.2) := fun m => cell_eq ((HOM.out.below m.h).cell (j + 1 + i) y' hy).2 (by omega)
            obtain ⟨qb, hqb⟩ : ∃ qb, qb = (x'.1 == y'.1 && x'.2 == y'.2) := ⟨_, rfl⟩
            have kq : ∀ W, (Op.equalIn 10000 29 (.agg #[.int .i64 x'.1, .int .i64 x'.2]) (.agg #[.int .i64 y'.1, .int .i64 y'.2])).run Try.prog W = .ok qb W := fun W => by rw [hqb]; exact eq2_dot x'.1 x'.2 y'.1 y'.2 W
            have HQ3 : Hid (qb = true ↔ x' = y') := by
              show _ ↔ _
              rw [hqb]; simp [Prod.ext_iff]
            have HX3 : Hid (M[j + 1 + (i + 1)]? = some x') := hx
            clear hqb hx hy hlx hly
            cases qb with
            | true =>
              go_wp2_with fail
              refine wp_region_new (by kernel_rfl) (by kernel_rfl) ?_
              repeat (go_big_quiet_step (fail))
              refine wpQuiet_nil ?_
              rintro _ ⟨w3, rfl⟩
              go_wp2
              go_roundw
              case rel =>
                refine ⟨k, i + 1, M, rfl, by go_num, by omega, by omega, HML.out, ?_, fun t ht => HMR.out t (by omega), HOM.out.below w3.h, HTM.out.trans (Turn.of_below w3.h) fun x hx => Or.inl hx⟩
                show _ = _
                rw [HMT.out, show j + 1 + (i + 1) + 1 = j + 1 + i + 1 + 1 by omega, HT3.out, if_pos (HQ3.out.1 (by trivial))]
              case measure => simp [intOf]; omega
            | false =>
              go_wp2_with fail
              refine wp_region_new (by kernel_rfl) (by kernel_rfl) ?_
              repeat (go_big_quiet_step (fail))
              refine wpQuiet_nil ?_
              rintro _ ⟨w3, rfl⟩
              have d0 := a0 w3
              have d1 := a1 w3
              have HOM3 : Hid (OwnD w3.v (.slice (some ⟨g, 0, none⟩) n cap) M) := HOM.out.below w3.h
              obtain ⟨z, hz⟩ : ∃ z, M[k]? = some z := ⟨_, List.getElem?_eq_getElem (by have := HML.out; omega)⟩
              obtain ⟨e0, e1⟩ := HOM3.out.cell k z hz
              have f0 := ownD_free HOM3.out (k * 2)
              have f1 := ownD_free HOM3.out (k * 2 + 1)
              clear a0 a1 b0 b1 kq hne hz
              go_wp2
              go_roundw
              case rel =>
                refine ⟨k + 1, i + 1, M.set k x', by go_num, by go_num, by omega, by omega, by show _ = _; rw [List.length_set]; exact HML.out, ?_, fun t ht => ?_, OwnD.set HOM3.out HML.out k x', ?_⟩
                · show _ = _
                  rw [show j + 1 + (i + 1) + 1 = j + 1 + i + 1 + 1 by omega, HT3.out, if_neg (fun e => by have := HQ3.out.2 e; cases this), ← HMT.out]
                  have hk : (M.set k x')[k]? = some x' := by rw [List.getElem?_set_self (by have := HML.out; omega)]
                  rw [C.take_snoc hk, List.take_set_of_le (Nat.le_refl _)]
                · rw [List.getElem?_set_ne (by omega)]; exact HMR.out t (by omega)
                · exact ((HTM.out.trans (Turn.of_below w3.h) fun x hx => Or.inl hx).setCell rfl _).setCell rfl _
              case measure => simp [intOf]; omega
          · have hie : j + 1 + i + 1 = n := by omega
            have HE : Hid (M.take k = C.dd l) := by show _ = _; rw [HMT.out, List.take_of_length_le (by have := HN.out; omega)]
            have hkn : k < n := by omega
            have hML := HML.out
            rcases HOM.out.shape with ⟨h1, _⟩ | ⟨g', cap', cur, hv, hg, hnn, hm, hs, ht⟩
            · cases h1
            cases hv
            obtain ⟨X, hX⟩ : ∃ X, X = over cur (k * 2) (rowD (List.replicate (M.length - k) ((0, 0) : C.Dt))) := ⟨_, rfl⟩
            have lz : (rowD (List.replicate (M.length - k) ((0, 0) : C.Dt))).length = (M.length - k) * 2 := by rw [rowD_length, List.length_replicate]
            have hr : ∀ ty c', (Builtin.clear_ #[37] ty #[.slice (some ⟨g, k * 2, none⟩) (M.length - k) c']).run Try.prog wr = .ok (.tuple #[]) (wr.setRow g X.toArray) := fun ty c' => by
              rw [hX]
              exact run_clear_k u_dots zv_dot ty hg (by rw [zero_dots]) (rowD_one _) (by omega) (by omega)
            have hgX : (wr.setRow g X.toArray).heap[g]? = some (.cells X.toArray 29) := set_over hg
            have htk : X.take (k * 2) = rowD (M.take k) := by
              rw [hX, over, List.append_assoc, List.take_append_of_le_length (by rw [List.length_take]; omega), List.take_of_length_le (by rw [List.length_take]; omega), ← rowD_take M k (by omega), ← ht, List.take_take]
              congr 1; omega
            have lk : (M.take k).length = k := by rw [List.length_take]; omega
            have HF : Hid (OwnD (wr.setRow g X.toArray) (.slice (some ⟨g, 0, none⟩) k cap) (C.dd l)) := by
              have := OwnD.make (l := M.take k) (cap := cap) hgX (by omega) hm (by rw [hX, over_length _ _ _ (by omega)]; exact hs) (by rw [lk]; exact htk)
              rw [lk, HE.out] at this
              exact this
            have HLK : Hid (k = (C.dd l).length) := by show k = _; rw [← HE.out]; exact lk.symm
            have HTF : Hid (Turn w (wr.setRow g X.toArray) (fun b => b = g)) := HTM.out.trans (Turn.of_grown (row_grown wr g _) fun b hb => by cases hb; rfl) fun x hx => Or.inl hx
            have HR : Hid _ := hr
            clear hX lz hgX htk lk hg hs ht hnn hm hr HOM HMR HMT
            generalize M.length = nn at *
            have hr := HR.out
            go_wp2
            go_ret
            exact ⟨k, rfl, HLK.out, HF.out, HTF.out⟩
    · obtain rfl : n = j + 1 := by omega
      have hE : C.dd l = l := by
        have := HK.out
        rwa [List.take_of_length_le (by have := HN.out; omega)] at this
      have HE : Hid (C.dd l = l) := hE
      clear hE
      go_wp2
      go_ret
      exact ⟨_, rfl, by rw [HE.out]; exact HN.out, by rw [HE.out]; exact HO.out.below HB.out, Turn.of_below HB.out⟩
end Go.Proofs.Ytglmmhgmdhdleaa

namespace Go.Proofs.Ytglmmhgmdhdleaa
open Go.RowKit Go.Lib
set_option linter.unusedVariables false

theorem compact_any (v : Value) (l : List C.Dt) (w : World) (h : OwnD w v l) (hl : l.length ≤ 1000000) :
    Calls Try.prog 53 #[v] w fun e w' => ∃ v', e = .returned v' ∧ OwnD w' v' (C.dd l) ∧ v'.ownBlock = v.ownBlock ∧ Turn w w' (fun b => v.ownBlock = some b) := by
  by_cases h2 : 2 ≤ l.length
  · rcases h.shape with ⟨rfl, rfl⟩ | ⟨g, cap, cur, rfl, _⟩
    · simp at h2
    · refine (compact_some g cap l w h hl h2).mono ?_
      rintro e w' ⟨m, rfl, _, h3, h4⟩
      exact ⟨_, rfl, h3, rfl, h4.mono fun b hb => by rw [hb]; rfl⟩
  · have e : C.dd l = l := C.dd_one l (by omega)
    obtain ⟨q, c, hv⟩ := h.len
    rw [e]
    have HO : Hid (OwnD w v l) := h
    subst hv
    clear h e
    generalize l.length = n at *
    go_enter Try.func53, Try.ntmps53
    go_wp2
    go_ret
    exact ⟨_, rfl, HO.out, rfl, Turn.refl _ _⟩
def cells7 (c : V7) : Array Value := #[.int .i64 c.x0, .int .i64 c.x1, .int .i64 c.x2, .int .i64 c.x3, .int .i64 c.x4, .int .i64 c.x5, .int .i64 c.x6]
theorem get_cells7 (c : V7) {k : Nat} (h : k < 7) : (cells7 c)[k]? = some (.int .i64 (C.at7 c k)) := by
  rcases C.seven h with rfl | rfl | rfl | rfl | rfl | rfl | rfl <;> rfl
theorem set_cells7 (c : V7) {k : Nat} (h : k < 7) : (cells7 c).setIfInBounds k (.int .i64 (C.at7 c k + 1)) = cells7 (C.inc c k) := by
  rcases C.seven h with rfl | rfl | rfl | rfl | rfl | rfl | rfl <;> rfl
namespace C
theorem settle_has {c : V7} {l : List Dt} {k : Nat} {x : Dt} (hx : l[k]? = some x) (h : hasd c x = true) : settleL c (l.drop k) = settleL c (l.drop (k + 1)) := by
  obtain ⟨hk, rfl⟩ := List.getElem?_eq_some_iff.1 hx
  rw [List.drop_eq_getElem_cons hk, settleL, if_pos h]
theorem settle_next {c : V7} {l : List Dt} {k : Nat} {x : Dt} (hx : l[k]? = some x) (h : hasd c x = false) (h2 : nextd c x = true) : settleL c (l.drop k) = settleL (inc c x.1.toNat) (l.drop (k + 1)) := by
  obtain ⟨hk, rfl⟩ := List.getElem?_eq_some_iff.1 hx
  rw [List.drop_eq_getElem_cons hk, settleL, if_neg (by rw [h]; simp), if_pos h2]
theorem settle_loose {c : V7} {l : List Dt} {k : Nat} {x : Dt} (hx : l[k]? = some x) (h : hasd c x = false) (h2 : nextd c x = false) : settleL c (l.drop k) = ((settleL c (l.drop (k + 1))).1, x :: (settleL c (l.drop (k + 1))).2) := by
  obtain ⟨hk, rfl⟩ := List.getElem?_eq_some_iff.1 hx
  rw [List.drop_eq_getElem_cons hk, settleL, if_neg (by rw [h]; simp), if_neg (by rw [h2]; simp)]
end C
set_option maxRecDepth 100000 in
set_option maxHeartbeats 8000000 in
theorem settle_any (c : V7) (v : Value) (l : List C.Dt) (w : World) (h : OwnD w v l) (hl : l.length ≤ 1000000) (hg : C.good c = true) (hm : ∀ d ∈ l, C.may d = true) :
    Calls Try.prog 51 #[c.v, v] w fun e w' => (∃ v', e = .returned (.tuple #[(C.settleL c l).1.v, v']) ∧ OwnD w' v' (C.settleL c l).2 ∧ Fresh w v') ∧ Below w.heap.size w w' := by
  obtain ⟨q, cp, hv⟩ := h.len
  subst hv
  obtain ⟨n, hn⟩ : ∃ n, n = l.length := ⟨_, rfl⟩
  have HN : Hid (n = l.length) := hn
  have HO : Hid (OwnD w (.slice q n cp) l) := by show OwnD _ _ _; rw [hn]; exact h
  have HM : Hid (∀ d ∈ l, C.may d = true) := hm
  have HG : Hid (C.good c = true) := hg
  rw [← hn] at hl ⊢
  obtain ⟨R, hR⟩ : ∃ R, R = C.settleL c l := ⟨_, rfl⟩
  have HR : Hid (R = C.settleL c (l.drop 0)) := hR
  rw [← hR]
  have HB0 : Hid (Below w.heap.size w ((w.alloc (.cells (cells7 c) 43)).alloc (.cells (cells7 ⟨0, 0, 0, 0, 0, 0, 0⟩) 43))) := bt (below_new _ _) (below_new _ _)
  have HQ0 : Hid (((w.alloc (.cells (cells7 c) 43)).alloc (.cells (cells7 ⟨0, 0, 0, 0, 0, 0, 0⟩) 43)).heap[w.heap.size]? = some (.cells (cells7 c) 43)) := (two_boxes w _ _ (Below.refl _ _)).1
  have HQ1 : Hid (((w.alloc (.cells (cells7 c) 43)).alloc (.cells (cells7 ⟨0, 0, 0, 0, 0, 0, 0⟩) 43)).heap[w.heap.size + 1]? = some (.cells (cells7 ⟨0, 0, 0, 0, 0, 0, 0⟩) 43)) := (two_boxes w _ _ (Below.refl _ _)).2
  clear h hm hg hn hR
  have hcv : c.v = .agg (cells7 c) := rfl
  obtain ⟨x0, x1, x2, x3, x4, x5, x6⟩ := c
  simp only [cells7] at HB0 HQ0 HQ1
  rw [hcv]
  clear hcv
  simp only [cells7]
  go_enter Try.func51, Try.ntmps51
  go_wp2_with fail
  have hsz0 : ((w.alloc (.cells #[.int .i64 x0, .int .i64 x1, .int .i64 x2, .int .i64 x3, .int .i64 x4, .int .i64 x5, .int .i64 x6] 43)).alloc (.cells #[.int .i64 0, .int .i64 0, .int .i64 0, .int .i64 0, .int .i64 0, .int .i64 0, .int .i64 0] 43)).heap.size = w.heap.size + 2 := by simp
  have HSZ : Hid _ := hsz0
  clear hsz0
  generalize (w.alloc (.cells #[.int .i64 x0, .int .i64 x1, .int .i64 x2, .int .i64 x3, .int .i64 x4, .int .i64 x5, .int .i64 x6] 43)).alloc (.cells #[.int .i64 0, .int .i64 0, .int .i64 0, .int .i64 0, .int .i64 0, .int .i64 0, .int .i64 0] 43) = W0 at *
  go_loopw [6, 11] (fun s6 s11 wr => ∃ (k : Nat) (ck : V7) (lk : List C.Dt), s11 = .int .i64 k ∧ k ≤ n ∧ Hid (R = ((C.settleL ck (l.drop k)).1, lk ++ (C.settleL ck (l.drop k)).2)) ∧ Hid (C.good ck = true) ∧ Hid (lk.length ≤ k) ∧ Hid (OwnD wr s6 lk) ∧ Hid (Fresh W0 s6) ∧ Hid (wr.heap[w.heap.size]? = some (.cells (cells7 ck) 43)) ∧ Hid (Turn W0 wr (fun b => b = w.heap.size))) (fun _ s11 _ => n - (intOf s11).toNat)
  case atStart => exact ⟨0, _, [], rfl, Nat.zero_le _, by show R = _; rw [HR.out]; rfl, HG.out, Nat.le_refl _, OwnD.nil _, fun b hb => (by cases hb), HQ0.out, Turn.refl _ _⟩
  case round =>
    clear HR HG HQ0
    obtain ⟨k, ck, lk, rfl, hkn, HK, HC, HLK, HOK, HFK, HQ, HT⟩ := hrel
    have HOW : Hid (OwnD wr (.slice q n cp) l) := (HO.out.below HB0.out).same fun b hb => HT.out.block b (row_lt (HO.out.below HB0.out) hb) fun e => by have := row_lt HO.out hb; omega
    by_cases hlt : k < n
    · obtain ⟨x, hx⟩ : ∃ x, l[k]? = some x := ⟨_, List.getElem?_eq_getElem (by have := HN.out; omega)⟩
      have hmx := (C.may_iff x).1 (HM.out x (List.mem_of_getElem? hx))
      obtain ⟨gb, cap, hvs⟩ := OwnD.at HOW.out (by have := HN.out; omega)
      cases hvs
      obtain ⟨a0, a1⟩ := OwnD.cell HOW.out k x hx
      have HX : Hid (l[k]? = some x) := hx
      clear hx
      have hga := C.good_at7 HC.out x.1.toNat
      obtain ⟨hs, hhs⟩ : ∃ hs, C.hasd ck x = hs := ⟨_, rfl⟩
      obtain ⟨nx, hnx⟩ : ∃ nx, C.nextd ck x = nx := ⟨_, rfl⟩
      have HHS : Hid (C.hasd ck x = hs) := hhs
      have HNX : Hid (C.nextd ck x = nx) := hnx
      obtain ⟨d1, d2⟩ := x
      simp only at a0 a1 hmx hga
      have HH : Hid (∀ W, Calls Try.prog 29 #[ck.v, .agg #[.int .i64 d1, .int .i64 d2]] W fun e w' => e = .returned (.bool hs) ∧ Below W.heap.size W w') := fun W => has_at hhs W
      have HI : Hid (∀ W, Calls Try.prog 31 #[ck.v, .agg #[.int .i64 d1, .int .i64 d2]] W fun e w' => e = .returned (.bool nx) ∧ Below W.heap.size W w') := fun W => isnext_any ck d1 d2 nx W hmx.1 hmx.2.1 (by omega) hnx
      clear hhs hnx
      obtain ⟨W1, hW1⟩ : ∃ W1, W1 = wr.alloc (.cells #[.int .i64 d1, .int .i64 d2] 29) := ⟨_, rfl⟩
      have HB1 : Hid (Below wr.heap.size wr W1) := by show Below _ _ _; rw [hW1]; exact below_new _ _
      have HD1 : Hid (W1.heap[wr.heap.size]? = some (.cells #[.int .i64 d1, .int .i64 d2] 29)) := by show _ = _; rw [hW1]; exact heap_alloc_new _ _
      have q1 := keep_on HB1.out HQ.out
      obtain ⟨y0, y1, y2, y3, y4, y5, y6⟩ := ck
      obtain ⟨b0, b1, b2, b3, b4, b5, b6⟩ := box7 q1
      obtain ⟨z0, z1⟩ := box2 HD1.out
      have HQ1' : Hid _ := q1
      clear q1
      rw [hW1] at b0 b1 b2 b3 b4 b5 b6 z0 z1
      simp only [V7.v] at HH HI
      go_wp2_with fail
      rw [← hW1]
      clear a0 a1
      refine (HH.out _).mono ?_
      rintro e w2 ⟨rfl, hb2⟩
      have HB2 : Hid (Below wr.heap.size wr w2) := bt HB1.out hb2
      have HD2 : Hid (w2.heap[wr.heap.size]? = some (.cells #[.int .i64 d1, .int .i64 d2] 29)) := keep_on hb2 HD1.out
      have HQ2 : Hid _ := keep_on HB2.out HQ.out
      clear hb2 b0 b1 b2 b3 b4 b5 b6 z0 z1 HB1 HD1 HQ1' hW1
      cases hs with
      | true =>
        go_wp2
        go_roundw
        case rel =>
          exact ⟨k + 1, _, lk, by go_num, by omega, by show R = _; rw [HK.out, C.settle_has HX.out HHS.out], HC.out, Nat.le_succ_of_le HLK.out, HOK.out.below HB2.out, HFK.out, HQ2.out, HT.out.trans (Turn.of_below HB2.out) fun x hx => Or.inl hx⟩
        case measure => simp [intOf]; omega
      | false =>
        obtain ⟨b0, b1, b2, b3, b4, b5, b6⟩ := box7 HQ2.out
        obtain ⟨z0, z1⟩ := box2 HD2.out
        go_wp2_with fail
        refine (HI.out _).mono ?_
        rintro e w3 ⟨rfl, hb3⟩
        have HB3 : Hid (Below wr.heap.size wr w3) := bt HB2.out hb3
        have HD3 : Hid (w3.heap[wr.heap.size]? = some (.cells #[.int .i64 d1, .int .i64 d2] 29)) := keep_on hb3 HD2.out
        have HQ3 : Hid (w3.heap[w.heap.size]? = some (.cells (cells7 ⟨y0, y1, y2, y3, y4, y5, y6⟩) 43)) := keep_on HB3.out HQ.out
        clear hb3 b0 b1 b2 b3 b4 b5 b6 z0 z1 HB2 HD2 HQ2
        obtain ⟨z0, z1⟩ := box2 HD3.out
        cases nx with
        | true =>
          have hr7 : d1.toNat < 7 := by omega
          have hrx : d1 = (d1.toNat : Nat) := by omega
          have HX2 : Hid (C.settleL ⟨y0, y1, y2, y3, y4, y5, y6⟩ (l.drop k) = C.settleL (C.inc ⟨y0, y1, y2, y3, y4, y5, y6⟩ d1.toNat) (l.drop (k + 1))) := C.settle_next HX.out HHS.out HNX.out
          have HC2 : Hid (C.good (C.inc ⟨y0, y1, y2, y3, y4, y5, y6⟩ d1.toNat) = true) := C.good_inc HC.out hr7 (by have h1 := (C.nextd_iff _ _).1 HNX.out; have h2 := hmx.2.2.2; simp only at h1; omega)
          clear HX HHS HNX HH HI
          generalize d1.toNat = r at *
          subst hrx
          obtain ⟨y, hy⟩ : ∃ y, C.at7 ⟨y0, y1, y2, y3, y4, y5, y6⟩ r = y := ⟨_, rfl⟩
          rw [hy] at hga
          have cr : w3.cell? ⟨w.heap.size, r, none⟩ = some (.int .i64 y) := by rw [box_cells HQ3.out r, get_cells7 _ hr7, hy]
          have fr : w3.frozen? ⟨w.heap.size, r, none⟩ = false := by simp [World.frozen?, HQ3.out]
          have hr7' : (r : Int) < 7 := by omega
          have HY : Hid (C.at7 ⟨y0, y1, y2, y3, y4, y5, y6⟩ r = y) := hy
          clear hy
          go_wp2
          go_roundw
          case rel =>
            refine ⟨k + 1, _, lk, by go_num, by omega, by show R = _; rw [HK.out, HX2.out], HC2.out, Nat.le_succ_of_le HLK.out, ?_, HFK.out, ?_, ?_⟩
            · exact (HOK.out.below HB3.out).same fun b hb => set_other fun e => by have h1 := HFK.out b hb; have h2 := HSZ.out; omega
            · show _ = _
              rw [← HY.out, ← set_cells7 _ hr7]; exact set_block HQ3.out
            · exact (HT.out.trans (Turn.of_below HB3.out) fun x hx => Or.inl hx).setCell rfl _
          case measure => simp [intOf]; omega
        | false =>
          have HX2 : Hid (C.settleL ⟨y0, y1, y2, y3, y4, y5, y6⟩ (l.drop k) = ((C.settleL ⟨y0, y1, y2, y3, y4, y5, y6⟩ (l.drop (k + 1))).1, (d1, d2) :: (C.settleL ⟨y0, y1, y2, y3, y4, y5, y6⟩ (l.drop (k + 1))).2)) := C.settle_loose HX.out HHS.out HNX.out
          clear HX HHS HNX HH HI
          go_wp2_with (at_builtin; go_must (refine wpList_append_src u_dots info_dot rfl (by decide) rfl _ _ rfl rfl ((HOK.out.below HB3.out).below (below_new w3 _)) rfl (two_src (heap_alloc_new w3 (.cells #[.int .i64 d1, .int .i64 d2] 29))) two_mem (by have := HLK.out; unfold maxLen; omega) (by have := HLK.out; omega) ?_); intro v4 w4 ho4 hg4 hb4)
          have HO4 : Hid (OwnD w4 v4 (lk ++ [(d1, d2)])) := by show OwnD _ _ _; unfold OwnD; rw [← rowD_append]; simpa using ho4
          have hB3 := HB3.out.size
          have hTS := HT.out.size
          have HF4 : Hid (Fresh W0 v4) := fun b hb => by
            rcases hb4 with h | h
            · exact HFK.out b (h.symm.trans hb)
            · rw [h] at hb; cases hb; simp only [World.size_alloc]; omega
          have HT4 : Hid (Turn W0 w4 (fun b => b = w.heap.size)) := by
            have t1 := HT.out.trans (Turn.of_below (S := fun b => b = w.heap.size) HB3.out) fun x hx => Or.inl hx
            have t2 := t1.alloc (.cells #[.int .i64 d1, .int .i64 d2] 29)
            exact t2.trans (Turn.of_grown (S := fun b => u6.ownBlock = some b) hg4 fun b hb => hb) fun x hx => Or.inr (HFK.out x hx)
          have HQ4 : Hid (w4.heap[w.heap.size]? = some (.cells (cells7 ⟨y0, y1, y2, y3, y4, y5, y6⟩) 43)) := by
            show _ = _
            have h1 := keep_on (below_new w3 (.cells #[.int .i64 d1, .int .i64 d2] 29)) HQ3.out
            rw [hg4.block _ (Array.getElem?_eq_some_iff.1 h1).1 (fun e => by have h2 := HFK.out w.heap.size e.symm; have h3 := HSZ.out; omega)]
            exact h1
          clear ho4 hg4 hb4 hB3 hTS
          go_wp2
          go_roundw
          case rel =>
            refine ⟨k + 1, _, lk ++ [(d1, d2)], by go_num, by omega, ?_, HC.out, by have := HLK.out; show _ ≤ _; simp; omega, HO4.out, HF4.out, HQ4.out, HT4.out⟩
            show R = _
            rw [HK.out, HX2.out]; simp
          case measure => simp [intOf]; omega
    · obtain rfl : k = n := by omega
      have HE : Hid (R = (ck, lk)) := by
        show R = _
        rw [HK.out, List.drop_eq_nil_of_le (by rw [← HN.out]; exact Nat.le_refl _)]
        simp [C.settleL]
      have HQz : Hid (wr.heap[w.heap.size + 1]? = some (.cells (cells7 ⟨0, 0, 0, 0, 0, 0, 0⟩) 43)) := by
        show _ = _
        rw [HT.out.block _ (Array.getElem?_eq_some_iff.1 HQ1.out).1 (by omega)]; exact HQ1.out
      obtain ⟨y0, y1, y2, y3, y4, y5, y6⟩ := ck
      obtain ⟨b0, b1, b2, b3, b4, b5, b6⟩ := box7 HQ.out
      obtain ⟨z0, z1, z2, z3, z4, z5, z6⟩ := box7 HQz.out
      obtain ⟨f0, f1, f2, f3, f4, f5, f6⟩ : wr.frozen? ⟨w.heap.size + 1, 0, none⟩ = false ∧ wr.frozen? ⟨w.heap.size + 1, 1, none⟩ = false ∧ wr.frozen? ⟨w.heap.size + 1, 2, none⟩ = false ∧ wr.frozen? ⟨w.heap.size + 1, 3, none⟩ = false ∧ wr.frozen? ⟨w.heap.size + 1, 4, none⟩ = false ∧ wr.frozen? ⟨w.heap.size + 1, 5, none⟩ = false ∧ wr.frozen? ⟨w.heap.size + 1, 6, none⟩ = false := by simp [World.frozen?, HQz.out]
      go_wp2
      generalize hW : World.setCell _ _ _ = W5
      have hq : W5.heap[w.heap.size + 1]? = some (.cells (cells7 ⟨y0, y1, y2, y3, y4, y5, y6⟩) 43) := by
        rw [← hW]
        exact (set_block (set_block (set_block (set_block (set_block (set_block (set_block HQz.out)))))))
      have HT5 : Turn W0 W5 (fun b => b = w.heap.size ∨ b = w.heap.size + 1) := by
        rw [← hW]
        iterate 7 refine Turn.setCell (b := w.heap.size + 1) ?_ (Or.inr rfl) _
        exact HT.out.mono fun b hb => Or.inl hb
      have HO5 : OwnD W5 u6 lk := HOK.out.same fun b hb => by
        have h1 := HFK.out b hb
        have h2 := HSZ.out
        have hne : b ≠ w.heap.size + 1 := by omega
        rw [← hW, set_other hne, set_other hne, set_other hne, set_other hne, set_other hne, set_other hne, set_other hne]
      have hB5 : Below w.heap.size w W5 := HB0.out.trans (HT5.below HB0.out.size fun b hb => by omega)
      obtain ⟨c0, c1, c2, c3, c4, c5, c6⟩ := box7 hq
      clear hW b0 b1 b2 b3 b4 b5 b6 z0 z1 z2 z3 z4 z5 z6 f0 f1 f2 f3 f4 f5 f6
      refine bodyPost_ret (v := .tuple #[.agg #[.int .i64 y0, .int .i64 y1, .int .i64 y2, .int .i64 y3, .int .i64 y4, .int .i64 y5, .int .i64 y6], u6]) (by simp [results, Try.results51, go_sem, c0, c1, c2, c3, c4, c5, c6]) rfl ⟨⟨u6, ?_, ?_, fun b hb => ?_⟩, hB5⟩
      · rw [HE.out]; rfl
      · rw [HE.out]; exact HO5
      · have := HFK.out b hb; have := HB0.out.size; omega
end Go.Proofs.Ytglmmhgmdhdleaa

namespace Go.Proofs.Ytglmmhgmdhdleaa
open Go.RowKit Go.Lib
set_option linter.unusedVariables false

theorem rd_grown {w w' : World} {g : Nat} {o : Option Nat} {s : Option (List UInt8)} {p : Option Addr} {n c : Nat} (h : Rd w g s p n c) (hg : w.grownBy w' o) (ho : ∀ k, o = some k → NB w k ∧ g ≠ k) : Rd w' g s p n c := by
  cases o with
  | none => exact h.below ⟨hg.os, hg.tape, hg.output, hg.size, fun b hb => hg.block b hb (fun e => by cases e)⟩
  | some k => exact h.kept hg (ho k rfl).1 (ho k rfl).2
theorem rowR_step {m k : Nat} {s : Option (List UInt8)} {a b : Int} {s1 s2 : Option (List UInt8)} (hk : k < m) (h1 : C.rnum s 0 6 = (a, s1)) (h2 : C.rnum s1 1 1099511627776 = (b, s2)) : C.rowR (m - k) s = ((a, b) :: (C.rowR (m - (k + 1)) s2).1, (C.rowR (m - (k + 1)) s2).2) := by
  obtain ⟨j, hj⟩ : ∃ j, m - k = j + 1 := ⟨m - k - 1, by omega⟩
  rw [hj, show m - (k + 1) = j by omega, C.rowR, h1]
  simp only
  rw [h2]
theorem zfacts7 {w : World} {b : Nat} {x0 x1 x2 x3 x4 x5 x6 : Int} {t : TypeId} (h : w.heap[b]? = some (.cells (cells7 ⟨x0, x1, x2, x3, x4, x5, x6⟩) t)) :
    (w.cell? ⟨b, 0, none⟩ = some (.int .i64 x0) ∧ w.cell? ⟨b, 1, none⟩ = some (.int .i64 x1) ∧ w.cell? ⟨b, 2, none⟩ = some (.int .i64 x2) ∧ w.cell? ⟨b, 3, none⟩ = some (.int .i64 x3) ∧ w.cell? ⟨b, 4, none⟩ = some (.int .i64 x4) ∧ w.cell? ⟨b, 5, none⟩ = some (.int .i64 x5) ∧ w.cell? ⟨b, 6, none⟩ = some (.int .i64 x6)) ∧
    (w.frozen? ⟨b, 0, none⟩ = false ∧ w.frozen? ⟨b, 1, none⟩ = false ∧ w.frozen? ⟨b, 2, none⟩ = false ∧ w.frozen? ⟨b, 3, none⟩ = false ∧ w.frozen? ⟨b, 4, none⟩ = false ∧ w.frozen? ⟨b, 5, none⟩ = false ∧ w.frozen? ⟨b, 6, none⟩ = false) := by
  refine ⟨box7 h, ?_⟩
  simp [World.frozen?, h]
theorem turn_g {w w' : World} {g : Nat} (h : w.grownBy w' (some g)) : Turn w w' (fun b => b = g) := Turn.of_grown h fun b hb => by cases hb; rfl
set_option maxRecDepth 100000 in
set_option maxHeartbeats 8000000 in
theorem readD_any (w : World) (g : Nat) (s : Option (List UInt8)) (p : Option Addr) (n c : Nat) (h : Rd w g s p n c) (hl : (s.getD []).length ≤ 100000) (cv : V7) (s1 s2 : Option (List UInt8)) (m : Nat) (hv : C.getV s = (cv, s1)) (hl1 : (s1.getD []).length ≤ 100000) (hm : C.rnum s1 0 1000 = ((m : Int), s2)) (hm1 : m ≤ 1000) (R : List C.Dt × Option (List UInt8)) (hR : C.rowR m s2 = R) :
    Calls Try.prog 38 #[.pointer (some ⟨g, 0, none⟩)] w fun e w' => (∃ v', e = .returned (.tuple #[cv.v, v']) ∧ OwnN w' v' R.1 ∧ Fresh w v') ∧ (∃ p' n' c', Rd w' g R.2 p' n' c') ∧ Turn w w' (fun b => b = g) := by
  have HRD : Hid (Rd w g s p n c) := h
  have HV : Hid (C.getV s = (cv, s1)) := hv
  have HM : Hid (C.rnum s1 0 1000 = ((m : Int), s2)) := hm
  have HR : Hid (R = C.rowR (m - 0) s2) := hR.symm
  have HGL : Hid (g < w.heap.size) := h.lt
  have HLS : Hid ((s.getD []).length ≤ 100000) := hl
  have HL1 : Hid ((s1.getD []).length ≤ 100000) := hl1
  have HL2 : Hid ((s2.getD []).length ≤ 100000) := rnum_len' hm hl1
  clear h hv hm hR hl hl1
  go_enter Try.func38, Try.ntmps38
  go_wp2_with fail
  refine (get_at _ g s p n c cv s1 (HRD.out.below (below_new w _)) HLS.out HV.out).mono ?_
  rintro e w1 ⟨rfl, ⟨p1, n1, c1, hr1⟩, hg1⟩
  have HR1 : Hid (Rd w1 g s1 p1 n1 c1) := hr1
  have hb0 : Below w.heap.size w (w.alloc (.cells (cells7 ⟨0, 0, 0, 0, 0, 0, 0⟩) 43)) := below_new w _
  have HT1 : Hid (Turn w w1 (fun b => b = g)) := (Turn.of_below hb0).trans (turn_g hg1) fun x hx => Or.inl hx
  have HQ0 : Hid (w1.heap[w.heap.size]? = some (.cells (cells7 ⟨0, 0, 0, 0, 0, 0, 0⟩) 43)) := by
    show _ = _
    rw [hg1.block w.heap.size (by simp) (fun e => by cases e; have := HGL.out; omega)]; exact heap_alloc_new w _
  clear hr1 hg1 hb0 HRD
  have hcv : cv.v = .agg (cells7 cv) := rfl
  obtain ⟨x0, x1, x2, x3, x4, x5, x6⟩ := cv
  rw [hcv]
  clear hcv
  simp only [cells7]
  have HB1 : Hid (Below w1.heap.size w1 (w1.alloc (.cells #[.int .i64 x0, .int .i64 x1, .int .i64 x2, .int .i64 x3, .int .i64 x4, .int .i64 x5, .int .i64 x6] 43))) := below_new _ _
  have HQ1 : Hid ((w1.alloc (.cells #[.int .i64 x0, .int .i64 x1, .int .i64 x2, .int .i64 x3, .int .i64 x4, .int .i64 x5, .int .i64 x6] 43)).heap[w1.heap.size]? = some (.cells #[.int .i64 x0, .int .i64 x1, .int .i64 x2, .int .i64 x3, .int .i64 x4, .int .i64 x5, .int .i64 x6] 43)) := heap_alloc_new _ _
  go_wp2_with fail
  refine (rnum_at _ g s1 p1 n1 c1 0 1000 _ s2 (HR1.out.below HB1.out) HL1.out HM.out).mono ?_
  rintro e w2 ⟨rfl, ⟨p2, n2, c2, hr2⟩, hg2⟩
  have HR2 : Hid (Rd w2 g s2 p2 n2 c2) := hr2
  have HT2 : Hid (Turn w w2 (fun b => b = g)) := (HT1.out.trans (Turn.of_below (S := fun b => b = g) HB1.out) fun x hx => Or.inl hx).trans (turn_g hg2) fun x hx => Or.inl hx
  have hgl := HGL.out
  have hs1 := HT1.out.size
  have HQ2 : Hid (w2.heap[w.heap.size]? = some (.cells (cells7 ⟨0, 0, 0, 0, 0, 0, 0⟩) 43)) := by
    show _ = _
    have h1 := keep_on HB1.out HQ0.out
    rw [hg2.block _ (Array.getElem?_eq_some_iff.1 h1).1 (fun e => by cases e; omega)]; exact h1
  have HQ3 : Hid (w2.heap[w1.heap.size]? = some (.cells #[.int .i64 x0, .int .i64 x1, .int .i64 x2, .int .i64 x3, .int .i64 x4, .int .i64 x5, .int .i64 x6] 43)) := by
    show _ = _
    rw [hg2.block _ (Array.getElem?_eq_some_iff.1 HQ1.out).1 (fun e => by cases e; omega)]; exact HQ1.out
  have HS1 : Hid (w.heap.size ≤ w1.heap.size) := hs1
  clear hr2 hg2 hgl hs1 HQ0 HQ1 HB1 HR1 HT1
  go_wp2_with fail
  go_loopw [5, 11] (fun s5 s11 wr => ∃ (k : Nat) (lk : List C.Dt) (sk : Option (List UInt8)), s11 = .int .i64 k ∧ k ≤ m ∧ Hid (R = (lk ++ (C.rowR (m - k) sk).1, (C.rowR (m - k) sk).2)) ∧ Hid (lk.length ≤ k) ∧ Hid (OwnN wr s5 lk) ∧ Hid (Fresh w2 s5) ∧ Hid ((sk.getD []).length ≤ 100000) ∧ Hid (∃ p n c, Rd wr g sk p n c) ∧ Hid (Turn w2 wr (fun b => b = g))) (fun _ s11 _ => m - (intOf s11).toNat)
  case atStart => exact ⟨0, [], s2, rfl, Nat.zero_le _, by show R = _; rw [HR.out]; rfl, Nat.le_refl _, OwnN.nil _, fun b hb => (by cases hb), HL2.out, ⟨p2, n2, c2, HR2.out⟩, Turn.refl _ _⟩
  case round =>
    clear HR2
    obtain ⟨k, lk, sk, rfl, hkm, HK, HLK, HO, HF, HLK2, HRk, HT⟩ := hrel
    by_cases hlt : k < m
    · obtain ⟨pk, nk, ck, hrk⟩ := HRk.out
      have HRK : Hid (Rd wr g sk pk nk ck) := hrk
      obtain ⟨a, sa, ha⟩ : ∃ a sa, C.rnum sk 0 6 = (a, sa) := ⟨_, _, rfl⟩
      obtain ⟨b, sb, hb⟩ : ∃ b sb, C.rnum sa 1 1099511627776 = (b, sb) := ⟨_, _, rfl⟩
      have HA : Hid (C.rnum sk 0 6 = (a, sa)) := ha
      have HBb : Hid (C.rnum sa 1 1099511627776 = (b, sb)) := hb
      have HLA : Hid ((sa.getD []).length ≤ 100000) := rnum_len' ha HLK2.out
      have HLB : Hid ((sb.getD []).length ≤ 100000) := rnum_len' hb HLA.out
      have HST : Hid (C.rowR (m - k) sk = ((a, b) :: (C.rowR (m - (k + 1)) sb).1, (C.rowR (m - (k + 1)) sb).2)) := rowR_step hlt ha hb
      clear hrk ha hb HRk
      go_wp2_with fail
      refine (rnum_at _ g sk pk nk ck 0 6 a sa HRK.out HLK2.out HA.out).mono ?_
      rintro e w3 ⟨rfl, ⟨p3, n3, c3, hr3⟩, hg3⟩
      have HR3 : Hid (Rd w3 g sa p3 n3 c3) := hr3
      have HT3 : Hid (Turn w2 w3 (fun b => b = g)) := HT.out.trans (turn_g hg3) fun x hx => Or.inl hx
      have hsz2 := HT2.out.size
      have hgl := HGL.out
      have HO3 : Hid (OwnN w3 u5 lk) := HO.out.same fun b hb => hg3.block b (row_lt HO.out.1 hb) fun e => by have := HF.out b hb; cases e; omega
      clear hr3 hg3 hsz2 hgl HRK
      go_wp2_with fail
      refine (rnum_at _ g sa p3 n3 c3 1 1099511627776 b sb HR3.out HLA.out HBb.out).mono ?_
      rintro e w4 ⟨rfl, ⟨p4, n4, c4, hr4⟩, hg4⟩
      have HR4 : Hid (Rd w4 g sb p4 n4 c4) := hr4
      have HT4 : Hid (Turn w2 w4 (fun b => b = g)) := HT3.out.trans (turn_g hg4) fun x hx => Or.inl hx
      have hsz2 := HT2.out.size
      have hgl := HGL.out
      have HO4 : Hid (OwnN w4 u5 lk) := HO3.out.same fun b hb => hg4.block b (row_lt HO3.out.1 hb) fun e => by have := HF.out b hb; cases e; omega
      clear hr4 hg4 hsz2 hgl HR3 HO3 HO
      have HO5 : Hid (OwnN (w4.alloc (.cells #[.int .i64 a, .int .i64 b] 29)) u5 lk) := HO4.out.same fun b hb => (below_new w4 _).block b (row_lt HO4.out.1 hb)
      go_wp2_with (at_builtin; go_must (refine wpList_append_one rfl _ _ rfl rfl rfl HO5.out (heap_alloc_new w4 _) (by have := HLK.out; omega) ?_); intro v6 w6 ho6 hg6 hb6)
      have HO6 : Hid (OwnN w6 v6 (lk ++ [(a, b)])) := ho6
      have hsz4 := HT4.out.size
      have HF6 : Hid (Fresh w2 v6) := fun b hb => by
        rcases hb6 with h | h
        · exact HF.out b (h.symm.trans hb)
        · rw [h] at hb; cases hb; simp only [World.size_alloc]; omega
      have hsz2 := HT2.out.size
      have hgl := HGL.out
      have HR6 : Hid (Rd w6 g sb p4 n4 c4) := rd_grown (HR4.out.below (below_new w4 _)) hg6 fun k hk => ⟨HO5.out.2 k hk, fun e => by have := HF.out k hk; omega⟩
      have HT6 : Hid (Turn w2 w6 (fun b => b = g)) := (HT4.out.alloc _).trans (Turn.of_grown (S := fun b => u5.ownBlock = some b) hg6 fun b hb => hb) fun x hx => Or.inr (HF.out x hx)
      clear ho6 hg6 hb6 hsz4 hsz2 hgl HO5 HO4 HR4
      go_wp2
      go_roundw
      case rel => exact ⟨k + 1, lk ++ [(a, b)], sb, by go_num, by omega, by show R = _; rw [HK.out, HST.out]; simp, by have := HLK.out; show _ ≤ _; simp; omega, HO6.out, HF6.out, HLB.out, ⟨p4, n4, c4, HR6.out⟩, HT6.out⟩
      case measure => simp [intOf]; omega
    · obtain rfl : k = m := by omega
      have HE : Hid (R = (lk, sk)) := by
        show R = _
        rw [HK.out, Nat.sub_self]
        simp [C.rowR]
      have hgl := HGL.out
      have hs1 := HS1.out
      have HQz : Hid (wr.heap[w.heap.size]? = some (.cells (cells7 ⟨0, 0, 0, 0, 0, 0, 0⟩) 43)) := by
        show _ = _
        rw [HT.out.block _ (Array.getElem?_eq_some_iff.1 HQ2.out).1 (by omega)]; exact HQ2.out
      have HQc : Hid (wr.heap[w1.heap.size]? = some (.cells #[.int .i64 x0, .int .i64 x1, .int .i64 x2, .int .i64 x3, .int .i64 x4, .int .i64 x5, .int .i64 x6] 43)) := by
        show _ = _
        rw [HT.out.block _ (Array.getElem?_eq_some_iff.1 HQ3.out).1 (by omega)]; exact HQ3.out
      obtain ⟨b0, b1, b2, b3, b4, b5, b6⟩ := box7 HQc.out
      obtain ⟨⟨z0, z1, z2, z3, z4, z5, z6⟩, f0, f1, f2, f3, f4, f5, f6⟩ := zfacts7 HQz.out
      clear hgl hs1
      go_wp2
      generalize hW : World.setCell _ _ _ = W5
      have hq : W5.heap[w.heap.size]? = some (.cells (cells7 ⟨x0, x1, x2, x3, x4, x5, x6⟩) 43) := by
        rw [← hW]
        exact (set_block (set_block (set_block (set_block (set_block (set_block (set_block HQz.out)))))))
      have hg5 : wr.grownBy W5 (some w.heap.size) := by
        rw [← hW]
        exact sets7 wr w.heap.size _ _ _ _ _ _ _
      have hsz2 := HT2.out.size
      have hgl := HGL.out
      have hqlt := (Array.getElem?_eq_some_iff.1 HQ2.out).1
      have HO5 : OwnN W5 u5 lk := HO.out.same fun b hb => hg5.block b (row_lt HO.out.1 hb) fun e => by have h1 := HF.out b hb; cases e; omega
      obtain ⟨pk, nk, ck, hrk⟩ := HRk.out
      have HR5 : Rd W5 g sk pk nk ck := rd_grown hrk hg5 fun k hk => by cases hk; exact ⟨nb7 HQz.out, by omega⟩
      have HT5 : Turn w W5 (fun b => b = g) := by
        have t1 := HT2.out.trans HT.out fun x hx => Or.inl hx
        exact t1.trans (Turn.of_grown (S := fun b => b = w.heap.size) hg5 fun b hb => by cases hb; rfl) fun x hx => Or.inr (by omega)
      obtain ⟨c0, c1, c2, c3, c4, c5, c6⟩ := box7 hq
      clear hW b0 b1 b2 b3 b4 b5 b6 z0 z1 z2 z3 z4 z5 z6 f0 f1 f2 f3 f4 f5 f6
      refine bodyPost_ret (v := .tuple #[.agg #[.int .i64 x0, .int .i64 x1, .int .i64 x2, .int .i64 x3, .int .i64 x4, .int .i64 x5, .int .i64 x6], u5]) (by simp [results, Try.results38, go_sem, c0, c1, c2, c3, c4, c5, c6]) rfl ⟨⟨u5, rfl, ?_, fun b hb => ?_⟩, ⟨pk, nk, ck, ?_⟩, HT5⟩
      · rw [HE.out]; exact HO5
      · have := HF.out b hb; omega
      · rw [HE.out]; exact HR5
end Go.Proofs.Ytglmmhgmdhdleaa

namespace Go.Proofs.Ytglmmhgmdhdleaa
open Go.RowKit Go.Lib
set_option linter.unusedVariables false

theorem is_turn {w w' : World} {g : Nat} {p : Option Addr} {n c : Nat} {l : List UInt8} (h : Is w p n c l) (hn : NB w g) (ht : Turn w w' (fun b => b = g)) : Is w' p n c l := ⟨h.1, h.2.1, fun hl => by
  obtain ⟨b, o, hp, hc⟩ := h.2.2 hl
  refine ⟨b, o, hp, fun i hi => ?_⟩
  have h1 := hc i hi
  have hb : b ≠ g := fun e => hn (o + i) _ (by rw [← e]; exact h1)
  simp only [World.cell?, ht.block b (World.block_lt_of_cell? _ _ h1) hb]
  exact h1⟩
/-- What Get hands back. -/
def GetRet (w w' : World) (g : Nat) (s : Option (List UInt8)) (cv : V7) (R : List C.Dt × Option (List UInt8)) (e : Ending) : Prop :=
  (R.2 = none ∧ e = .returned (.pointer none) ∧ ∃ p n c, Rd w' g none p n c) ∨
  (∃ r, R.2 = some r ∧ LooseP cv R.1 ∧ ∃ g2 v', e = .returned (.pointer (some ⟨g2, 0, none⟩)) ∧ DotsAt w' g2 cv v' R.1 ∧ w.heap.size ≤ g2 ∧ Fresh w v' ∧ ∃ p n c, Rd w' g (some r) p n c) ∨
  (R.2 ≠ none ∧ ¬ LooseP cv R.1 ∧ e = .returned (.pointer none) ∧ ∃ p n c, Rd w' g s p n c)
set_option maxRecDepth 100000 in
set_option maxHeartbeats 8000000 in
theorem getD_any (w : World) (g : Nat) (s : Option (List UInt8)) (p : Option Addr) (n c : Nat) (h : Rd w g s p n c) (hl : (s.getD []).length ≤ 100000) (cv : V7) (s1 s2 : Option (List UInt8)) (m : Nat) (hv : C.getV s = (cv, s1)) (hl1 : (s1.getD []).length ≤ 100000) (hm : C.rnum s1 0 1000 = ((m : Int), s2)) (hm1 : m ≤ 1000) (R : List C.Dt × Option (List UInt8)) (hR : C.rowR m s2 = R) :
    Calls Try.prog 13 #[.pointer (some ⟨g, 0, none⟩)] w fun e w' => GetRet w w' g s cv R e ∧ Turn w w' (fun b => b = g) := by
  have HRD : Hid (Rd w g s p n c) := h
  have HGC : Hid (C.good cv = true) := C.getV_good hv
  have HMY : Hid (∀ r, R.2 = some r → ∀ d ∈ R.1, C.may d = true) := fun r hr => by rw [← hR] at hr ⊢; exact C.rowR_may m s2 r hr
  have HLEN : Hid (R.1.length ≤ 1000) := by show _ ≤ _; rw [← hR, C.rowR_len]; exact hm1
  have HC : Hid (∀ W p n c, Rd W g s p n c → Calls Try.prog 38 #[.pointer (some ⟨g, 0, none⟩)] W fun e w' => (∃ v', e = .returned (.tuple #[cv.v, v']) ∧ OwnN w' v' R.1 ∧ Fresh W v') ∧ (∃ p' n' c', Rd w' g R.2 p' n' c') ∧ Turn W w' (fun b => b = g)) := fun W p n c hW => readD_any W g s p n c hW hl cv s1 s2 m hv hl1 hm hm1 R hR
  have c0 := h.c0
  have c1 := h.c1
  clear h hl hv hl1 hm hR
  obtain ⟨lr, sr⟩ := R
  obtain ⟨x0, x1, x2, x3, x4, x5, x6⟩ := cv
  simp only at HMY HLEN HC
  simp only [V7.v] at HC
  generalize hsn : s.isNone = sn at c1
  have HSN : Hid (s.isNone = sn) := hsn
  clear hsn
  obtain ⟨W1, hW1⟩ : ∃ W1, W1 = w.alloc (.cells #[.slice p n c, .bool sn] 68) := ⟨_, rfl⟩
  have HB1 : Hid (Below w.heap.size w W1) := by show Below _ _ _; rw [hW1]; exact below_new _ _
  have HQ1 : Hid (W1.heap[w.heap.size]? = some (.cells #[.slice p n c, .bool sn] 68)) := by show _ = _; rw [hW1]; exact heap_alloc_new _ _
  go_enter Try.func13, Try.ntmps13
  go_wp2_with fail
  rw [← hW1]
  clear hW1 c0 c1
  refine (HC.out W1 p n c (HRD.out.below HB1.out)).mono ?_
  rintro e w2 ⟨⟨v, rfl, ho, hf⟩, ⟨p2, n2, c2, hr2⟩, ht⟩
  obtain ⟨qv, kv, cpv, rfl⟩ := ho.1.slice
  have HO2 : Hid (OwnN w2 (.slice qv kv cpv) lr) := ho
  have HF2 : Hid (Fresh w (.slice qv kv cpv)) := fun b hb => Nat.le_trans HB1.out.size (hf b hb)
  have HR2 : Hid (Rd w2 g sr p2 n2 c2) := hr2
  have HT2 : Hid (Turn w w2 (fun b => b = g)) := (Turn.of_below HB1.out).trans ht fun x hx => Or.inl hx
  have hgl := HRD.out.lt
  have HQ2 : Hid (w2.heap[w.heap.size]? = some (.cells #[.slice p n c, .bool sn] 68)) := by
    show _ = _
    rw [ht.block _ (Array.getElem?_eq_some_iff.1 HQ1.out).1 (by omega)]; exact HQ1.out
  clear ho hf hr2 ht hgl HC HQ1 HB1
  have HB3 : Hid (Below w2.heap.size w2 (w2.alloc (.cells #[.int .i64 x0, .int .i64 x1, .int .i64 x2, .int .i64 x3, .int .i64 x4, .int .i64 x5, .int .i64 x6] 43))) := below_new _ _
  have HQ3 : Hid ((w2.alloc (.cells #[.int .i64 x0, .int .i64 x1, .int .i64 x2, .int .i64 x3, .int .i64 x4, .int .i64 x5, .int .i64 x6] 43)).heap[w2.heap.size]? = some (.cells #[.int .i64 x0, .int .i64 x1, .int .i64 x2, .int .i64 x3, .int .i64 x4, .int .i64 x5, .int .i64 x6] 43)) := heap_alloc_new _ _
  go_wp2_with fail
  generalize w2.alloc (.cells #[.int .i64 x0, .int .i64 x1, .int .i64 x2, .int .i64 x3, .int .i64 x4, .int .i64 x5, .int .i64 x6] 43) = W3 at *
  refine (bad_any W3 g sr p2 n2 c2 (HR2.out.below HB3.out)).mono ?_
  rintro e w3 ⟨rfl, hw⟩
  subst hw
  cases sr with
  | none =>
    go_wp2
    go_ret
    exact ⟨Or.inl ⟨rfl, rfl, p2, n2, c2, HR2.out.below HB3.out⟩, HT2.out.trans (Turn.of_below HB3.out) fun x hx => Or.inl hx⟩
  | some r =>
    obtain ⟨b0, b1, b2, b3, b4, b5, b6⟩ := box7 HQ3.out
    have hsr : (some r).isNone = false := rfl
    simp only [hsr]
    go_wp2_with fail
    refine (loose_ok ⟨x0, x1, x2, x3, x4, x5, x6⟩ (.slice qv kv cpv) lr w3 (HO2.out.1.below HB3.out) (by have := HLEN.out; omega) HGC.out (HMY.out r rfl)).mono ?_
    rintro e w4 ⟨⟨bl, rfl, hbl⟩, hb4⟩
    have HBL : Hid (bl = true ↔ LooseP ⟨x0, x1, x2, x3, x4, x5, x6⟩ lr) := hbl
    have HB4 : Hid (Below w2.heap.size w2 w4) := bt HB3.out hb4
    have HT4 : Hid (Turn w w4 (fun b => b = g)) := HT2.out.trans (Turn.of_below HB4.out) fun x hx => Or.inl hx
    have HQ4 : Hid _ := keep_on hb4 HQ3.out
    clear hbl hb4 b0 b1 b2 b3 b4 b5 b6 hsr
    cases bl with
    | true =>
      obtain ⟨b0, b1, b2, b3, b4, b5, b6⟩ := box7 HQ4.out
      go_wp2
      go_ret
      refine ⟨Or.inr (Or.inl ⟨r, rfl, HBL.out.1 (by trivial), _, _, rfl, ⟨heap_alloc_new w4 _, (HO2.out.1.below HB4.out).below (below_new _ _)⟩, HT4.out.size, HF2.out, p2, n2, c2, (HR2.out.below HB4.out).below (below_new _ _)⟩), HT4.out.alloc _⟩
    | false =>
      have q2 := keep_on HB4.out HQ2.out
      have s0 := box_cells q2 0
      have s1' := box_cells q2 1
      simp only [List.getElem?_toArray, List.getElem?_cons_succ, List.getElem?_cons_zero] at s0 s1'
      have HR4 : Hid (Rd w4 g (some r) p2 n2 c2) := HR2.out.below HB4.out
      have r0 := HR4.out.c0
      have r1 := HR4.out.c1
      have f0 := HR4.out.fz 0
      have f1 := HR4.out.fz 1
      clear q2
      go_wp2
      go_ret
      refine ⟨Or.inr (Or.inr ⟨by simp, (fun k => by have h9 := HBL.out.2 k; cases h9), rfl, p, n, c, ?_⟩), (HT4.out.setCell rfl _).setCell rfl _⟩
      have hD := HRD.out
      refine ⟨?_, is_turn hD.is hD.nb ((HT4.out.setCell rfl _).setCell rfl _), hD.nc, hD.cm, hD.pa⟩
      rw [HSN.out]
      exact set_block (set_block HR4.out.blk)
end Go.Proofs.Ytglmmhgmdhdleaa

namespace Go.Proofs.Ytglmmhgmdhdleaa
open Go.RowKit Go.Lib
set_option linter.unusedVariables false

namespace C
def dbytes (l : List Dt) : List UInt8 := l.flatMap fun d => num d.1 ++ num d.2
def sbytes (s : Ds) : List UInt8 := vbytes s.c ++ (num (s.l.length : Nat) ++ dbytes s.l)
theorem dbytes_snoc (l : List Dt) (x : Dt) : dbytes (l ++ [x]) = dbytes l ++ (num x.1 ++ num x.2) := by simp [dbytes]
theorem may_fits {d : Dt} (h : may d = true) : fits d.1 ∧ fits d.2 := by
  have := (may_iff d).1 h
  unfold fits
  omega
theorem dbytes_len : ∀ (l : List Dt), (∀ d ∈ l, may d = true) → (dbytes l).length ≤ l.length * 20
  | [], _ => Nat.le_refl _
  | d :: t, h => by
    have e : dbytes (d :: t) = num d.1 ++ num d.2 ++ dbytes t := rfl
    have := dbytes_len t fun x hx => h x (List.mem_cons_of_mem _ hx)
    obtain ⟨h1, h2⟩ := may_fits (h d (List.mem_cons_self ..))
    have := (num_ten h1).2
    have := (num_ten h2).2
    rw [e]; simp only [List.length_append, List.length_cons]; omega
theorem vbytes_len {c : V7} (h : fits7 c) : (vbytes c).length ≤ 70 := by
  obtain ⟨h0, h1, h2, h3, h4, h5, h6⟩ := h
  have := (num_ten h0).2; have := (num_ten h1).2; have := (num_ten h2).2; have := (num_ten h3).2; have := (num_ten h4).2; have := (num_ten h5).2; have := (num_ten h6).2
  unfold vbytes
  simp only [List.length_append]
  omega
end C
set_option maxHeartbeats 1000000 in
theorem num_own (pb : Option Addr) (nb cb : Nat) (lb l' : List UInt8) (v : Int) (w : World) (hb : Is w pb nb cb lb) (hv : C.fits v) (hl : lb.length ≤ 90000) (hl' : l' = lb ++ C.num v) :
    Calls Try.prog 34 #[.slice pb nb cb, .int .i64 v] w fun e w' => (∃ x, e = .returned x ∧ Own w' w.heap.size x l') ∧ Below w.heap.size w w' := by
  subst hl'
  have HB : Hid (Is w pb nb cb lb) := hb
  have HL : Hid (lb.length + (C.num v).length ≤ 100000) := by
    have := (C.num_ten hv).2
    show _ ≤ _
    omega
  clear hb
  go_enter Try.func34, Try.ntmps34
  go_wp2_with fail
  refine (groups_is v hv w).mono ?_
  rintro e w1 ⟨⟨p1, n1, c1, rfl, hi1⟩, h1⟩
  have HI1 : Hid (Is w1 p1 n1 c1 (C.num v)) := hi1
  have HB1 : Hid (Below w.heap.size w w1) := h1
  clear hi1 h1
  obtain ⟨rfl, k1⟩ := Is.below HB.out HB1.out
  obtain ⟨rfl, k2⟩ := HI1.out
  have HC : Hid _ := concat_new w1 [⟨pb, lb, cb⟩, ⟨p1, C.num v, c1⟩] 2 w1.heap.size 2 _ (lb ++ C.num v) rfl rfl rfl (by simp) (ok_cons k1 (ok_one k2)) (Nat.le_trans (by simpa [joined] using HL.out) (by decide)) (by simp [joined])
  clear k1 k2
  go_wp2_with fail
  refine Calls.mono HC.out ?_
  rintro e w2 ⟨⟨x, rfl, ho⟩, h2⟩
  have HO : Hid (Own w2 w1.heap.size x (lb ++ C.num v)) := ho
  clear ho
  go_wp2
  go_ret
  exact ⟨⟨_, rfl, HO.out.lower HB1.out.size⟩, bt HB1.out h2⟩
set_option maxRecDepth 100000 in
set_option maxHeartbeats 8000000 in
theorem put_obj (w : World) (g : Nat) (c : V7) (v : Value) (l : List C.Dt) (pb : Option Addr) (nb cb : Nat) (lb : List UInt8) (h : DotsAt w g c v l) (hs : C.Ds.Ok ⟨c, l⟩) (hl : l.length ≤ 1000) (hb : Is w pb nb cb lb) (hlb : lb.length ≤ 50000) :
    Calls Try.prog 11 #[.pointer (some ⟨g, 0, none⟩), .slice pb nb cb] w fun e w' => (∃ p n k, e = .returned (.slice p n k) ∧ Is w' p n k (lb ++ C.sbytes ⟨c, l⟩)) ∧ Below w.heap.size w w' := by
  have HD : Hid (DotsAt w g c v l) := h
  have HS : Hid (C.Ds.Ok ⟨c, l⟩) := hs
  have HBI : Hid (Is w pb nb cb lb) := hb
  have HLL : Hid (l.length ≤ 1000) := hl
  have HLB : Hid (lb.length ≤ 50000) := hlb
  have HF : Hid (C.fits7 c) := good_fits hs.good
  have HVL : Hid ((C.vbytes c).length ≤ 70) := C.vbytes_len HF.out
  have HMY : Hid (∀ d ∈ l, C.may d = true) := fun d hd => C.far_may hs.good (hs.far d hd)
  obtain ⟨q, cp, hv⟩ := h.row.len
  subst hv
  obtain ⟨n, hn⟩ : ∃ n, n = l.length := ⟨_, rfl⟩
  have HN : Hid (n = l.length) := hn
  obtain ⟨pre, hpre⟩ : ∃ pre, pre = C.vbytes c ++ C.num (n : Nat) := ⟨_, rfl⟩
  have HP : Hid (pre = C.vbytes c ++ C.num (n : Nat)) := hpre
  have HPL : Hid (pre.length ≤ 80) := by
    have h1 := (C.num_ten (show C.fits (n : Int) from ⟨by omega, by omega⟩)).2
    have h2 := HVL.out
    show _ ≤ _
    rw [hpre, List.length_append]; omega
  have HSW : Hid (∀ w', Below w.heap.size w w' → w'.cell? ⟨g, 0, none⟩ = some (.int .i64 c.x0) ∧ w'.cell? ⟨g, 1, none⟩ = some (.int .i64 c.x1) ∧ w'.cell? ⟨g, 2, none⟩ = some (.int .i64 c.x2) ∧ w'.cell? ⟨g, 3, none⟩ = some (.int .i64 c.x3) ∧ w'.cell? ⟨g, 4, none⟩ = some (.int .i64 c.x4) ∧ w'.cell? ⟨g, 5, none⟩ = some (.int .i64 c.x5) ∧ w'.cell? ⟨g, 6, none⟩ = some (.int .i64 c.x6) ∧ w'.cell? ⟨g, 7, none⟩ = some (.slice q n cp)) := fun w' hb => by rw [hn]; exact cells8_at (HD.out.below hb).blk
  have HPV : Hid (∀ W, Calls Try.prog 35 #[.slice none 0 0, c.v] W fun e w' => (∃ p n k, e = .returned (.slice p n k) ∧ Is w' p n k (C.vbytes c)) ∧ Below W.heap.size W w') := fun W => put_nil (C.vbytes c) c W HF.out rfl
  clear h hs hb hpre hlb
  rw [← hn] at hl
  clear hn
  obtain ⟨x0, x1, x2, x3, x4, x5, x6⟩ := c
  simp only [V7.v] at HPV
  simp only at HSW
  go_enter Try.func11, Try.ntmps11
  go_wp2_with fail
  go_region_held_law (fun w' => w'.cell? ⟨g, 0, none⟩ = some (.int .i64 x0) ∧ w'.cell? ⟨g, 1, none⟩ = some (.int .i64 x1) ∧ w'.cell? ⟨g, 2, none⟩ = some (.int .i64 x2) ∧ w'.cell? ⟨g, 3, none⟩ = some (.int .i64 x3) ∧ w'.cell? ⟨g, 4, none⟩ = some (.int .i64 x4) ∧ w'.cell? ⟨g, 5, none⟩ = some (.int .i64 x5) ∧ w'.cell? ⟨g, 6, none⟩ = some (.int .i64 x6) ∧ w'.cell? ⟨g, 7, none⟩ = some (.slice q n cp))
    ((refine HSW.out _ ?_; repeat (first | assumption | exact Below.refl _ _ | refine Below.drew ?_)))
    (first
    | (go_at_call 35; refine (HPV.out _).mono ?_; rintro e w1 ⟨⟨p1, n1, k1, rfl, hi1⟩, hb1⟩; have hB1 : Below w.heap.size w w1 := bt ((Below.refl _ w).drew) hb1; clear hb1)
    | (go_at_call 34; refine (num_own p1 n1 k1 _ pre (n : Int) _ hi1 (⟨by omega, by omega⟩) (by have := HVL.out; omega) HP.out).mono ?_; rintro e w2 ⟨⟨vt, rfl, ho2⟩, hb2⟩; have hB2 : Below w.heap.size w w2 := bt hB1 hb2; have HO2 : Hid (Own w2 w1.heap.size vt pre) := ho2; have hW1 := hB1.size; have HW1 : Hid (w.heap.size ≤ w1.heap.size) := hW1; clear hb2 ho2 hi1 hB1 hW1))
  have HB2 : Hid (Below w.heap.size w w2) := hB2
  have HO3 : Hid (Own w2 0 vt (pre ++ C.dbytes (l.take 0))) := by show Own _ _ _ _; simpa [C.dbytes] using HO2.out.lower (Nat.zero_le _)
  have HF3 : Hid (∀ b, vt.ownBlock = some b → w.heap.size ≤ b) := fun b hb => Nat.le_trans HW1.out (HO2.out.ge b hb)
  have hc7 := (HSW.out _ HB2.out).2.2.2.2.2.2.2
  clear hB2 HO2 HW1
  rename_i hHeld
  clear hHeld
  go_wp2_with fail
  clear hc7
  go_loopw [5, 24] (fun s5 s24 wr => ∃ (k : Nat), s24 = .int .i64 k ∧ k ≤ n ∧ Hid (Own wr 0 s5 (pre ++ C.dbytes (l.take k))) ∧ Hid (∀ b, s5.ownBlock = some b → w.heap.size ≤ b) ∧ Hid (Below w.heap.size w wr)) (fun _ s24 _ => n - (intOf s24).toNat)
  case atStart => exact ⟨0, rfl, Nat.zero_le _, HO3.out, HF3.out, HB2.out⟩
  case round =>
    clear HO3 HF3 HB2
    obtain ⟨k, rfl, hkn, HO, HF2, HB⟩ := hrel
    by_cases hlt : k < n
    · obtain ⟨x, hx⟩ : ∃ x, l[k]? = some x := ⟨_, List.getElem?_eq_getElem (by have := HN.out; omega)⟩
      have hmx := HMY.out x (List.mem_of_getElem? hx)
      have HFX : Hid (C.fits x.1 ∧ C.fits x.2) := C.may_fits hmx
      have hrow := (HD.out.below HB.out).row
      obtain ⟨gb, cap, hvs⟩ := hrow.at (by have := HN.out; omega)
      rw [← HN.out] at hvs
      cases hvs
      obtain ⟨a0, a1⟩ := OwnD.cell hrow k x hx
      have HDN : Hid (C.dbytes (l.take (k + 1)) = C.dbytes (l.take k) ++ (C.num x.1 ++ C.num x.2)) := by show _ = _; rw [C.take_snoc hx, C.dbytes_snoc]
      have HTL : Hid ((pre ++ C.dbytes (l.take k)).length ≤ 30000) := by
        have h1 := C.dbytes_len (l.take k) fun d hd => HMY.out d (List.mem_of_mem_take hd)
        have h2 := HPL.out
        have h3 := List.length_take_le k l
        show _ ≤ _
        rw [List.length_append]; omega
      obtain ⟨l1, e1⟩ : ∃ l1, l1 = [] ++ C.num x.1 := ⟨_, rfl⟩
      obtain ⟨l2, e2⟩ : ∃ l2, l2 = l1 ++ C.num x.2 := ⟨_, rfl⟩
      have HL1 : Hid (l1.length ≤ 10) := by show _ ≤ _; rw [e1]; exact (C.num_ten HFX.out.1).2
      have HL2 : Hid (l2.length ≤ 20) := by have h1 := HL1.out; have h2 := (C.num_ten HFX.out.2).2; show _ ≤ _; rw [e2, List.length_append]; omega
      have HL12 : Hid (C.num x.1 ++ C.num x.2 = l2) := by show _ = l2; rw [e2, e1]; rfl
      have E1 : Hid (l1 = [] ++ C.num x.1) := e1
      have E2 : Hid (l2 = l1 ++ C.num x.2) := e2
      clear hrow hx hmx e1 e2
      obtain ⟨d1, d2⟩ := x
      simp only at a0 a1
      obtain ⟨W1, hW1⟩ : ∃ W1, W1 = wr.alloc (.cells #[.int .i64 d1, .int .i64 d2] 29) := ⟨_, rfl⟩
      have HB1 : Hid (Below wr.heap.size wr W1) := by show Below _ _ _; rw [hW1]; exact below_new _ _
      have HD1 : Hid (W1.heap[wr.heap.size]? = some (.cells #[.int .i64 d1, .int .i64 d2] 29)) := by show _ = _; rw [hW1]; exact heap_alloc_new _ _
      have HSD : Hid (∀ w', Below W1.heap.size W1 w' → w'.cell? ⟨wr.heap.size, 0, none⟩ = some (.int .i64 d1) ∧ w'.cell? ⟨wr.heap.size, 1, none⟩ = some (.int .i64 d2)) := fun w' hb => box2 (keep_on hb HD1.out)
      have HOB : Hid (∀ w', Below W1.heap.size W1 w' → Own w' 0 u5 (pre ++ C.dbytes (l.take k))) := fun w' hb => HO.out.below (bt HB1.out hb)
      go_wp2_with fail
      rw [← hW1]
      clear a0 a1 hW1
      go_region_held_law (fun w' => w'.cell? ⟨wr.heap.size, 0, none⟩ = some (.int .i64 d1) ∧ w'.cell? ⟨wr.heap.size, 1, none⟩ = some (.int .i64 d2))
        ((first | assumption | (refine HSD.out _ ?_; repeat (first | assumption | exact Below.refl _ _ | refine Below.drew ?_))))
        (first
        | (go_at_call 34; refine (num_at none 0 0 [] l1 d1 _ (Is.nil _) HFX.out.1 (by decide) E1.out).mono ?_; rintro e w3 ⟨⟨p3, n3, k3, rfl, hi3⟩, hb3⟩; have hB3 : Below W1.heap.size W1 w3 := bt ((Below.refl _ W1).drew) hb3; clear hb3)
        | (go_at_call 34; refine (num_at p3 n3 k3 l1 l2 d2 _ hi3 HFX.out.2 (by have := HL1.out; omega) E2.out).mono ?_; rintro e w4 ⟨⟨p4, n4, k4, rfl, hi4⟩, hb4⟩; have hB4 : Below W1.heap.size W1 w4 := bt hB3 hb4; clear hb4 hi3)
        | (obtain ⟨rfl, hk4⟩ := hi4; refine step_append_src Try.underlying30 info_u8 rfl (by decide) rfl _ _ rfl rfl (HOB.out _ hB4) rfl (Part.src hk4) (one_bytes _) (by have := HTL.out; have := HL2.out; simp only; unfold maxLen; omega) (by have := HTL.out; have := HL2.out; simp only; omega) ?_; intro v5 w5 ho5 hg5 hb5; have hS5 : w5.cell? ⟨wr.heap.size, 0, none⟩ = some (.int .i64 d1) ∧ w5.cell? ⟨wr.heap.size, 1, none⟩ = some (.int .i64 d2) := box2 ((hg5.block wr.heap.size (Array.getElem?_eq_some_iff.1 (keep_on hB4 HD1.out)).1 (fun e => by have := row_lt HO.out e.symm; omega)).trans (keep_on hB4 HD1.out)); have HO5 : Hid (Own w5 0 v5 (pre ++ C.dbytes (l.take k) ++ l2)) := (show Own w5 0 v5 _ from (by unfold Own; rw [List.length_append, ← bytesV_append]; exact ho5)); have HB5 : Hid (Below w.heap.size w w5) := Below.grown (bt HB.out (bt HB1.out hB4)) hg5 (bt HB.out (bt HB1.out hB4)).size HF2.out; have HF5 : Hid (∀ b, v5.ownBlock = some b → w.heap.size ≤ b) := (fun b hb => by rcases hb5 with h | h; exact HF2.out b (h.symm.trans hb); rw [h] at hb; cases hb; exact (bt HB.out (bt HB1.out hB4)).size); clear ho5 hg5 hb5 hB4 hk4))
      rename_i hHeld
      clear hHeld hS5
      go_wp2
      go_roundw
      case rel => exact ⟨k + 1, by go_num, by omega, by show Own _ _ _ _; rw [HDN.out, HL12.out, ← List.append_assoc]; exact HO5.out, HF5.out, HB5.out⟩
      case measure => simp [intOf]; omega
    · obtain rfl : k = n := by omega
      have htk : l.take k = l := List.take_of_length_le (by have := HN.out; omega)
      rw [htk] at HO
      obtain ⟨p6, n6, c6, hv6, hi6⟩ := Own.is HO.out
      have HI6 : Hid (Is wr p6 n6 c6 (pre ++ C.dbytes l)) := hi6
      subst hv6
      have HTL : Hid ((pre ++ C.dbytes l).length ≤ 30000) := by
        have h1 := C.dbytes_len l HMY.out
        have h2 := HPL.out
        have h3 := HLL.out
        show _ ≤ _
        rw [List.length_append]; omega
      clear hi6 htk HO
      go_wp2_with fail
      refine (concat_two pb nb cb lb p6 n6 c6 (pre ++ C.dbytes l) _ _ wr rfl (Is.below HBI.out HB.out) HI6.out (by have := HTL.out; have := HLB.out; omega)).mono ?_
      rintro e w7 ⟨⟨p7, n7, c7, rfl, hi7⟩, hb7⟩
      have HI7 : Hid _ := hi7
      have HB7 : Hid (Below w.heap.size w w7) := bt HB.out hb7
      clear hi7 hb7
      go_wp2
      go_ret
      refine ⟨⟨p7, n7, c7, rfl, ?_⟩, HB7.out⟩
      have h := HI7.out
      rw [HP.out, HN.out, List.append_assoc] at h
      exact h
end Go.Proofs.Ytglmmhgmdhdleaa

namespace Go.Proofs.Ytglmmhgmdhdleaa
open Go.RowKit Go.Lib
set_option linter.unusedVariables false

theorem Objs.turn {w0 w w' : World} {L : List DObj} {g : Nat} (h : Objs w0 w L) (ht : Turn w w' (fun b => b = g)) (hg : w0.heap.size ≤ g) (hn : ∀ o ∈ L, ¬ foot o.g o.v g) : Objs w0 w' L :=
  ⟨fun o ho => ⟨(h.at_ o ho).1.same fun b hb => ht.block b ((h.at_ o ho).1.lt hb) (fun e => hn o ho (by rw [← e]; exact hb)), (h.at_ o ho).2⟩, h.apart, h.bel.trans (ht.below h.bel.size fun b hb => by rw [hb]; exact hg)⟩
theorem get_good {w w' : World} {g : Nat} {s : Option (List UInt8)} {cv : V7} {l : List C.Dt} {r : List UInt8} {e : Ending} (h : GetRet w w' g s cv (l, some r) e) (hl : LooseP cv l) : ∃ g2 v', e = .returned (.pointer (some ⟨g2, 0, none⟩)) ∧ DotsAt w' g2 cv v' l ∧ w.heap.size ≤ g2 ∧ Fresh w v' ∧ ∃ p n c, Rd w' g (some r) p n c := by
  rcases h with ⟨h1, _⟩ | ⟨r', h1, _, h2⟩ | ⟨_, h1, _⟩
  · cases h1
  · cases h1; exact h2
  · exact absurd hl h1
theorem get_none {w w' : World} {g : Nat} {s : Option (List UInt8)} {cv : V7} {R : List C.Dt × Option (List UInt8)} {e : Ending} (h : GetRet w w' g s cv R e) (hl : R.2 = none ∨ ¬ LooseP cv R.1) : e = .returned (.pointer none) := by
  rcases h with ⟨_, h1, _⟩ | ⟨r', h1, h2, _⟩ | ⟨_, _, h1, _⟩
  · exact h1
  · rcases hl with hl | hl
    · rw [hl] at h1; cases h1
    · exact absurd h2 hl
  · exact h1
def s15 : C.Ds := ⟨⟨0, 0, 0, 0, 0, 0, 0⟩, [(1, 5)]⟩
theorem loose15 : LooseP ⟨0, 0, 0, 0, 0, 0, 0⟩ [(1, 5)] := ⟨List.pairwise_singleton _ _, fun d hd => by
  obtain rfl : d = (1, 5) := by simpa using hd
  refine ⟨by decide, by decide, by decide, by decide⟩⟩
theorem loose01 : ¬ LooseP ⟨0, 0, 0, 0, 0, 0, 0⟩ [(0, 1)] := fun h => by
  have := (h.2 (0, 1) (by simp)).2.2.1
  revert this; decide
set_option maxRecDepth 100000 in
set_option maxHeartbeats 8000000 in
theorem known_any (w : World) : Calls Try.prog 3 #[] w fun e w' => e = .returned (.bool true) ∧ Below w.heap.size w w' := by
  go_enter Try.func3, Try.ntmps3
  go_wp2_with fail
  refine (awake_any _).mono ?_
  rintro e w0 ⟨rfl, h0⟩
  go_wp2_with fail
  refine (o_new (Objs.nil h0)).mono ?_
  rintro e w1 ⟨g, rfl, h1, -⟩
  have H1 : Hid (Objs w w1 ([] ++ ⟨g, .slice none 0 0, C.zeroS⟩ :: [])) := h1
  clear h0 h1
  go_wp2_with fail
  refine (o_add [] [] g _ C.zeroS C.zeroS 7 1 false 1 H1.out (by decide) (by decide) (by decide) rfl).mono ?_
  rintro e w2 ⟨rfl, ⟨v2, h2⟩, -⟩
  have H2 : Hid (Objs w w2 ([] ++ ⟨g, v2, C.zeroS⟩ :: [])) := h2
  clear h2 H1
  go_wp2_with fail
  refine (o_add [] [] g _ C.zeroS C.zeroS 0 0 false 1 H2.out (by decide) (by decide) (by decide) rfl).mono ?_
  rintro e w3 ⟨rfl, ⟨v3, h3⟩, -⟩
  have H3 : Hid (Objs w w3 ([] ++ ⟨g, v3, C.zeroS⟩ :: [])) := h3
  clear h3 H2
  go_wp2_with fail
  refine (o_add [] [] g _ C.zeroS C.zeroS 0 1099511627777 false 1 H3.out (by decide) (by decide) (by decide) rfl).mono ?_
  rintro e w4 ⟨rfl, ⟨v4, h4⟩, -⟩
  have H4 : Hid (Objs w w4 ([] ++ ⟨g, v4, C.zeroS⟩ :: [])) := h4
  clear h4 H3
  go_wp2_with fail
  refine (o_add [] [] g _ C.zeroS s15 1 5 true 0 H4.out (by decide) (by decide) (by decide) rfl).mono ?_
  rintro e w5 ⟨rfl, ⟨v5, h5⟩, -⟩
  have H5 : Hid (Objs w w5 ([] ++ ⟨g, v5, s15⟩ :: [])) := h5
  clear h5 H4
  go_wp2_with fail
  refine (o_add [] [] g _ s15 s15 1 5 false 0 H5.out (by decide) (by decide) (by decide) rfl).mono ?_
  rintro e w6 ⟨rfl, ⟨v6, h6⟩, -⟩
  have H6 : Hid (Objs w w6 ([] ++ ⟨g, v6, s15⟩ :: [])) := h6
  clear h6 H5
  go_wp2_with fail
  refine (put_obj w6 g s15.c v6 s15.l none 0 0 [] H6.out.get.1 H6.out.get.2 (by decide) (Is.nil _) (by decide)).mono ?_
  rintro e w7 ⟨⟨p7, n7, c7, rfl, hi7⟩, hb7⟩
  have HI7 : Hid (Is w7 p7 n7 c7 [0, 0, 0, 0, 0, 0, 0, 2, 2, 10]) := hi7
  have H7 : Hid (Objs w w7 ([] ++ ⟨g, v6, s15⟩ :: [])) := H6.out.below hb7
  clear hi7 hb7 H6
  go_wp2_with fail
  refine (read_at w7 p7 n7 c7 _ HI7.out (by decide)).mono ?_
  rintro e w8 ⟨⟨gr, p8, n8, c8, rfl, hgr, -, hr8⟩, hb8⟩
  have HR8 : Hid (Rd w8 gr (some [0, 0, 0, 0, 0, 0, 0, 2, 2, 10]) p8 n8 c8) := hr8
  have H8 : Hid (Objs w w8 ([] ++ ⟨g, v6, s15⟩ :: [])) := H7.out.below hb8
  have HNF : Hid (¬ foot g v6 gr) := fun hf => by have := H7.out.get.1.lt hf; omega
  have HGR : Hid (w.heap.size ≤ gr) := Nat.le_trans H7.out.bel.size hgr
  clear hr8 hb8 hgr H7 HI7
  go_wp2_with fail
  refine (getD_any w8 gr _ p8 n8 c8 HR8.out (by decide) ⟨0, 0, 0, 0, 0, 0, 0⟩ (some [2, 2, 10]) (some [2, 10]) 1 rfl (by decide) rfl (by decide) ([(1, 5)], some []) rfl).mono ?_
  rintro e w9 ⟨hret, ht9⟩
  obtain ⟨g2, v9, rfl, hd9, hg9, -, p9, n9, c9, hr9⟩ := get_good hret loose15
  have HD9 : Hid (DotsAt w9 g2 ⟨0, 0, 0, 0, 0, 0, 0⟩ v9 [(1, 5)]) := hd9
  have HR9 : Hid (Rd w9 gr (some []) p9 n9 c9) := hr9
  have H9 : Hid (Objs w w9 ([] ++ ⟨g, v6, s15⟩ :: [])) := H8.out.turn ht9 HGR.out fun o ho => by
    obtain rfl : o = ⟨g, v6, s15⟩ := by simpa using ho
    exact HNF.out
  clear hret ht9 hd9 hg9 hr9 H8 HR8
  go_wp2_with fail
  refine (same_any w9 g g2 s15 s15 v6 v9 true H9.out.get.1 HD9.out (by decide) (by decide)).mono ?_
  rintro e w10 ⟨rfl, hb10⟩
  have H10 : Hid (Objs w w10 ([] ++ ⟨g, v6, s15⟩ :: [])) := H9.out.below hb10
  have HR10 : Hid (Rd w10 gr (some []) p9 n9 c9) := HR9.out.below hb10
  clear hb10 H9 HR9 HD9
  go_wp2_with fail
  refine (end_any w10 gr _ p9 n9 c9 HR10.out).mono ?_
  rintro e w11 ⟨rfl, hw⟩
  subst hw
  have he : ((some ([] : List UInt8)) == some []) = true := by decide
  simp only [he]
  clear he
  go_wp2_with fail
  refine (read_new w11 [0, 0, 0, 0, 0, 0, 0, 2, 0, 2] _ _ 10 10 rfl (by rfl) rfl (by decide)).mono ?_
  rintro e w12 ⟨⟨ga, pa, na, ca, rfl, hga, -, hra⟩, hb12⟩
  have HRA : Hid (Rd w12 ga (some [0, 0, 0, 0, 0, 0, 0, 2, 0, 2]) pa na ca) := hra
  have H12 : Hid (Objs w w12 ([] ++ ⟨g, v6, s15⟩ :: [])) := H10.out.below hb12
  have HNA : Hid (¬ foot g v6 ga) := fun hf => by have := H10.out.get.1.lt hf; omega
  have HGA : Hid (w.heap.size ≤ ga) := Nat.le_trans H10.out.bel.size hga
  clear hra hb12 hga H10 HR10
  go_wp2_with fail
  refine (getD_any w12 ga _ pa na ca HRA.out (by decide) ⟨0, 0, 0, 0, 0, 0, 0⟩ (some [2, 0, 2]) (some [0, 2]) 1 rfl (by decide) rfl (by decide) ([(0, 1)], some []) rfl).mono ?_
  rintro e w13 ⟨hret, ht13⟩
  obtain rfl := get_none hret (Or.inr loose01)
  have H13 : Hid (Objs w w13 ([] ++ ⟨g, v6, s15⟩ :: [])) := H12.out.turn ht13 HGA.out fun o ho => by
    obtain rfl : o = ⟨g, v6, s15⟩ := by simpa using ho
    exact HNA.out
  clear hret ht13 H12 HRA
  go_wp2_with fail
  refine (read_at w13 none 0 0 [] (Is.nil _) (by decide)).mono ?_
  rintro e w14 ⟨⟨gc, pc, nc, cc, rfl, hgc, -, hrc⟩, hb14⟩
  have HRC : Hid (Rd w14 gc (some []) pc nc cc) := hrc
  have H14 : Hid (Objs w w14 ([] ++ ⟨g, v6, s15⟩ :: [])) := H13.out.below hb14
  have HNC : Hid (¬ foot g v6 gc) := fun hf => by have := H13.out.get.1.lt hf; omega
  have HGC : Hid (w.heap.size ≤ gc) := Nat.le_trans H13.out.bel.size hgc
  clear hrc hb14 hgc H13
  go_wp2_with fail
  refine (getD_any w14 gc _ pc nc cc HRC.out (by decide) ⟨0, 0, 0, 0, 0, 0, 0⟩ none none 0 rfl (by decide) rfl (by decide) ([], none) rfl).mono ?_
  rintro e w15 ⟨hret, ht15⟩
  obtain rfl := get_none hret (Or.inl rfl)
  have H15 : Hid (Objs w w15 ([] ++ ⟨g, v6, s15⟩ :: [])) := H14.out.turn ht15 HGC.out fun o ho => by
    obtain rfl : o = ⟨g, v6, s15⟩ := by simpa using ho
    exact HNC.out
  clear hret ht15 H14 HRC
  go_wp2_with fail
  refine (o_has [] [] g v6 s15 1 4 false H15.out (by decide) (by decide)).mono ?_
  rintro e w16 ⟨rfl, hb16⟩
  have H16 : Hid (Objs w w16 ([] ++ ⟨g, v6, s15⟩ :: [])) := H15.out.below hb16
  clear hb16 H15
  go_wp2
  go_ret
  exact ⟨rfl, H16.out.bel⟩
end Go.Proofs.Ytglmmhgmdhdleaa

namespace Go.Proofs.Ytglmmhgmdhdleaa
open Go.RowKit Go.Lib
set_option linter.unusedVariables false

/-- What Merge does among some dots beside each other. -/
def MergeDoes : Prop := ∀ (L1 L2 : List DObj) (w0 w : World) (g : Nat) (v : Value) (s s' : C.Ds) (o2 : DObj), Objs w0 w (L1 ++ ⟨g, v, s⟩ :: L2) → o2 ∈ L1 ++ ⟨g, v, s⟩ :: L2 → s.l.length + o2.s.l.length ≤ 1000 → C.mergeS s o2.s = s' →
    Calls Try.prog 24 #[.pointer (some ⟨g, 0, none⟩), .pointer (some ⟨o2.g, 0, none⟩)] w fun e w' => e = .returned (.int .i64 0) ∧ ∃ v', Objs w0 w' (L1 ++ ⟨g, v', s'⟩ :: L2)
namespace C
theorem merge_all {s : Ds} (h : s.Ok) (m : List Dt) : mergeS s (addAll zeroS m) = addAll s m :=
  canon (merge_ok h (all_ok m _ zero_ok)) (all_ok m _ h) fun x => by
    rw [Bool.eq_iff_iff, merge_mem h (all_ok m _ zero_ok), all_mem x m s h, all_mem x m zeroS zero_ok, zero_mem]
    simp
theorem all_lenS : ∀ (m : List Dt) (s : Ds), s.Ok → lenS s ≤ lenS (addAll s m)
  | [], s, _ => Int.le_refl _
  | d :: t, s, h => by
    have e : addAll s (d :: t) = addAll (addM s d) t := rfl
    have h1 := all_lenS t (addM s d) (addM_ok h d)
    have h2 := lenM h d
    rw [e]
    split at h2 <;> omega
theorem add_take {l : List Dt} {k : Nat} {x : Dt} (hx : l[k]? = some x) : addAll zeroS (l.take (k + 1)) = addM (addAll zeroS (l.take k)) x := by rw [take_snoc hx, all_snoc]
theorem take_small (l : List Dt) (k n : Nat) (h : l.length ≤ n) : (addAll zeroS (l.take k)).l.length ≤ n := by
  have h1 := all_len (l.take k) zeroS
  have h2 := List.length_take_le' k l
  have h4 : zeroS.l.length = 0 := rfl
  omega
end C
set_option maxRecDepth 100000 in
set_option maxHeartbeats 8000000 in
theorem order_walk (HMD : MergeDoes) (pa : Option Addr) (l : List C.Dt) (ca : Nat) (pb : Option Addr) (m : List C.Dt) (cb : Nat) (w : World) (ha : ArgD w pa l) (hla : l.length ≤ maxLen) (hb : ArgD w pb m) (hlb : m.length ≤ maxLen) :
    Calls Try.prog 6 #[.slice pa l.length ca, .slice pb m.length cb] w fun e w' => e = .returned (.bool true) ∧ Below w.heap.size w w' := by
  have HMG : Hid MergeDoes := HMD
  have HA : Hid (ArgD w pa l) := ha
  have HB : Hid (ArgD w pb m) := hb
  clear ha hb HMD
  unfold maxLen at hla hlb
  obtain ⟨n, hn⟩ : ∃ n, n = l.length := ⟨_, rfl⟩
  have HN : Hid (n = l.length) := hn
  obtain ⟨q, hq⟩ : ∃ q, q = m.length := ⟨_, rfl⟩
  have HQ : Hid (q = m.length) := hq
  rw [← hn] at hla ⊢
  rw [← hq] at hlb ⊢
  clear hn hq
  by_cases hbig : 60 < n
  · go_enter Try.func6, Try.ntmps6
    go_wp2_with fail
    refine (awake_any _).mono ?_
    rintro e w1 ⟨rfl, hb1⟩
    have HB1 : Hid (Below w.heap.size w w1) := hb1
    clear hb1
    go_wp2
    go_ret
    exact ⟨rfl, HB1.out⟩
  by_cases hbig2 : 60 < q
  · go_enter Try.func6, Try.ntmps6
    go_wp2_with fail
    refine (awake_any _).mono ?_
    rintro e w1 ⟨rfl, hb1⟩
    have HB1 : Hid (Below w.heap.size w w1) := hb1
    clear hb1
    go_wp2
    go_ret
    exact ⟨rfl, HB1.out⟩
  have HL60 : Hid (l.length ≤ 60) := by have := HN.out; show _ ≤ _; omega
  have HM60 : Hid (m.length ≤ 60) := by have := HQ.out; show _ ≤ _; omega
  have HR60 : Hid (l.reverse.length ≤ 60) := by show _ ≤ _; rw [List.length_reverse]; exact HL60.out
  go_enter Try.func6, Try.ntmps6
  go_wp2_with fail
  refine (awake_any _).mono ?_
  rintro e w1 ⟨rfl, hb1⟩
  go_wp2_with fail
  refine (o_new (Objs.nil hb1)).mono ?_
  rintro e w2 ⟨ga, rfl, h2, -⟩
  go_wp2_with fail
  refine (o_new h2).mono ?_
  rintro e w3 ⟨gb, rfl, h3, -⟩
  go_wp2_with fail
  refine (o_new h3).mono ?_
  rintro e w4 ⟨gc, rfl, h4, -⟩
  go_wp2_with fail
  refine (o_new h4).mono ?_
  rintro e w5 ⟨gd, rfl, h5, -⟩
  have H5 : Hid (Objs w w5 [⟨ga, .slice none 0 0, C.addAll C.zeroS (l.take 0)⟩, ⟨gb, .slice none 0 0, C.addAll C.zeroS (l.reverse.take 0)⟩, ⟨gc, .slice none 0 0, C.addAll C.zeroS (l.take 0)⟩, ⟨gd, .slice none 0 0, C.zeroS⟩]) := h5
  clear hb1 h2 h3 h4 h5
  go_wp2_with fail
  go_loopw [9] (fun s9 wr => ∃ (k : Nat) (va vb vc : Value), s9 = .int .i64 k ∧ k ≤ n ∧ Hid (Objs w wr [⟨ga, va, C.addAll C.zeroS (l.take k)⟩, ⟨gb, vb, C.addAll C.zeroS (l.reverse.take k)⟩, ⟨gc, vc, C.addAll C.zeroS (l.take k)⟩, ⟨gd, .slice none 0 0, C.zeroS⟩])) (fun s9 _ => n - (intOf s9).toNat)
  case atStart => exact ⟨0, _, _, _, rfl, Nat.zero_le _, H5.out⟩
  case round =>
    clear H5
    obtain ⟨k, va, vb, vc, rfl, hkn, HO⟩ := hrel
    by_cases hlt : k < n
    · obtain ⟨x, hx⟩ : ∃ x, l[k]? = some x := ⟨_, List.getElem?_eq_getElem (by have := HN.out; omega)⟩
      obtain ⟨j, hj0⟩ : ∃ j, n = k + 1 + j := ⟨n - (k + 1), by omega⟩
      have HJ : Hid (n = k + 1 + j) := hj0
      have hjn : j < n := by omega
      clear hj0
      obtain ⟨y, hy⟩ : ∃ y, l[j]? = some y := ⟨_, List.getElem?_eq_getElem (by have := HN.out; omega)⟩
      have hyr : l.reverse[k]? = some y := by
        rw [List.getElem?_reverse (by have := HN.out; omega), ← hy]
        congr 1
        have := HN.out; have := HJ.out; omega
      obtain ⟨b, o, rfl, hc⟩ := HA.out (by have := HN.out; omega)
      have HXA : Hid (C.addAll C.zeroS (l.take (k + 1)) = C.addM (C.addAll C.zeroS (l.take k)) x) := C.add_take hx
      have HYA : Hid (C.addAll C.zeroS (l.reverse.take (k + 1)) = C.addM (C.addAll C.zeroS (l.reverse.take k)) y) := C.add_take hyr
      obtain ⟨a0, a1⟩ := hc k x hx
      obtain ⟨b0, b1⟩ := hc j y hy
      have HCX : Hid (∀ W, Below w.heap.size w W → W.cell? ⟨b, o + k * 2, none⟩ = some (.int .i64 x.1) ∧ W.cell? ⟨b, o + k * 2 + 1, none⟩ = some (.int .i64 x.2)) := fun W hW => ⟨(hW.cell (p := ⟨b, o + k * 2, none⟩) (World.block_lt_of_cell? _ _ a0)).trans a0, (hW.cell (p := ⟨b, o + k * 2 + 1, none⟩) (World.block_lt_of_cell? _ _ a1)).trans a1⟩
      have HCY : Hid (∀ W, Below w.heap.size w W → W.cell? ⟨b, o + j * 2, none⟩ = some (.int .i64 y.1) ∧ W.cell? ⟨b, o + j * 2 + 1, none⟩ = some (.int .i64 y.2)) := fun W hW => ⟨(hW.cell (p := ⟨b, o + j * 2, none⟩) (World.block_lt_of_cell? _ _ b0)).trans b0, (hW.cell (p := ⟨b, o + j * 2 + 1, none⟩) (World.block_lt_of_cell? _ _ b1)).trans b1⟩
      have HKA : Hid ((C.addAll C.zeroS (l.take k)).l.length < 1000) := Nat.lt_of_le_of_lt (C.take_small l k 60 HL60.out) (by decide)
      have HKB : Hid ((C.addAll C.zeroS (l.reverse.take k)).l.length < 1000) := Nat.lt_of_le_of_lt (C.take_small l.reverse k 60 HR60.out) (by decide)
      clear hc a0 a1 b0 b1 hx hy hyr
      obtain ⟨x1, x2⟩ := x
      obtain ⟨y1, y2⟩ := y
      obtain ⟨c0, c1⟩ := HCX.out _ HO.out.bel
      simp only at c0 c1
      go_wp2_with fail
      refine (o_add [] _ ga va _ _ x1 x2 _ _ HO.out HKA.out rfl rfl rfl).mono ?_
      rintro e w6 ⟨rfl, ⟨va2, h6⟩, -⟩
      rw [← HXA.out] at h6
      have H6 : Hid (Objs w w6 ([⟨ga, va2, C.addAll C.zeroS (l.take (k + 1))⟩] ++ ⟨gb, vb, C.addAll C.zeroS (l.reverse.take k)⟩ :: [⟨gc, vc, C.addAll C.zeroS (l.take k)⟩, ⟨gd, .slice none 0 0, C.zeroS⟩])) := h6
      clear h6 HO c0 c1
      obtain ⟨c0, c1⟩ := HCY.out _ H6.out.bel
      try simp only at c0 c1
      have hix : (n : Int) - 1 - (k : Int) = (j : Int) := by have := HJ.out; omega
      go_wp2_with fail
      refine (o_add [⟨ga, va2, C.addAll C.zeroS (l.take (k + 1))⟩] _ gb vb _ _ y1 y2 _ _ H6.out HKB.out rfl rfl rfl).mono ?_
      rintro e w7 ⟨rfl, ⟨vb2, h7⟩, -⟩
      rw [← HYA.out] at h7
      have H7 : Hid (Objs w w7 ([⟨ga, va2, C.addAll C.zeroS (l.take (k + 1))⟩, ⟨gb, vb2, C.addAll C.zeroS (l.reverse.take (k + 1))⟩] ++ ⟨gc, vc, C.addAll C.zeroS (l.take k)⟩ :: [⟨gd, .slice none 0 0, C.zeroS⟩])) := h7
      clear h7 H6 c0 c1 hix
      obtain ⟨c0, c1⟩ := HCX.out _ H7.out.bel
      try simp only at c0 c1
      go_wp2_with fail
      refine (o_add [⟨ga, va2, C.addAll C.zeroS (l.take (k + 1))⟩, ⟨gb, vb2, C.addAll C.zeroS (l.reverse.take (k + 1))⟩] _ gc vc _ _ x1 x2 _ _ H7.out HKA.out rfl rfl rfl).mono ?_
      rintro e w8 ⟨rfl, ⟨vc2, h8⟩, -⟩
      rw [← HXA.out] at h8
      have H8 : Hid (Objs w w8 [⟨ga, va2, C.addAll C.zeroS (l.take (k + 1))⟩, ⟨gb, vb2, C.addAll C.zeroS (l.reverse.take (k + 1))⟩, ⟨gc, vc2, C.addAll C.zeroS (l.take (k + 1))⟩, ⟨gd, .slice none 0 0, C.zeroS⟩]) := h8
      clear h8 H7 c0 c1
      go_wp2
      go_roundw
      case rel => exact ⟨k + 1, va2, vb2, vc2, by go_num, by omega, H8.out⟩
      case measure => simp [intOf]; omega
    · obtain rfl : k = n := by omega
      have htk : l.take k = l := List.take_of_length_le (by have := HN.out; omega)
      have htr : l.reverse.take k = l.reverse := List.take_of_length_le (by rw [List.length_reverse]; have := HN.out; omega)
      have hrev : C.addAll C.zeroS l.reverse = C.addAll C.zeroS l := C.all_perm fun x => by simp
      rw [htk, htr, hrev] at HO
      have HAL : Hid ((C.addAll C.zeroS l).l.length ≤ 60) := by
        have := C.take_small l l.length 60 HL60.out
        rwa [List.take_of_length_le (Nat.le_refl _)] at this
      have HAO : Hid (C.addAll C.zeroS l).Ok := C.all_ok l _ C.zero_ok
      obtain ⟨A, hA⟩ : ∃ A, A = C.addAll C.zeroS l := ⟨_, rfl⟩
      rw [← hA] at HO HAL HAO
      have HO0 : Hid (Objs w wr [⟨ga, va, A⟩, ⟨gb, vb, A⟩, ⟨gc, vc, A⟩, ⟨gd, .slice none 0 0, C.addAll C.zeroS (m.take 0)⟩]) := HO.out
      clear htk htr hrev hA HO
      go_wp2_with fail
      go_loopw [10] (fun s10 wr => ∃ (j : Nat) (vd : Value), s10 = .int .i64 j ∧ j ≤ q ∧ Hid (Objs w wr [⟨ga, va, A⟩, ⟨gb, vb, A⟩, ⟨gc, vc, A⟩, ⟨gd, vd, C.addAll C.zeroS (m.take j)⟩])) (fun s10 _ => q - (intOf s10).toNat)
      case atStart => exact ⟨0, _, rfl, Nat.zero_le _, HO0.out⟩
      case round =>
        clear HO0
        obtain ⟨j, vd, rfl, hjq, HO⟩ := hrel
        by_cases hlt2 : j < q
        · obtain ⟨x, hx⟩ : ∃ x, m[j]? = some x := ⟨_, List.getElem?_eq_getElem (by have := HQ.out; omega)⟩
          obtain ⟨b, o, rfl, hc⟩ := HB.out (by have := HQ.out; omega)
          have HXA : Hid (C.addAll C.zeroS (m.take (j + 1)) = C.addM (C.addAll C.zeroS (m.take j)) x) := C.add_take hx
          obtain ⟨a0, a1⟩ := hc j x hx
          have c0 := (HO.out.bel.cell (p := ⟨b, o + j * 2, none⟩) (World.block_lt_of_cell? _ _ a0)).trans a0
          have c1 := (HO.out.bel.cell (p := ⟨b, o + j * 2 + 1, none⟩) (World.block_lt_of_cell? _ _ a1)).trans a1
          have HKD : Hid ((C.addAll C.zeroS (m.take j)).l.length < 1000) := Nat.lt_of_le_of_lt (C.take_small m j 60 HM60.out) (by decide)
          clear hc a0 a1 hx
          obtain ⟨x1, x2⟩ := x
          try simp only at c0 c1
          go_wp2_with fail
          refine (o_add [⟨ga, va, A⟩, ⟨gb, vb, A⟩, ⟨gc, vc, A⟩] [] gd vd _ _ x1 x2 _ _ HO.out HKD.out rfl rfl rfl).mono ?_
          rintro e w6 ⟨rfl, ⟨vd2, h6⟩, -⟩
          rw [← HXA.out] at h6
          have H6 : Hid (Objs w w6 [⟨ga, va, A⟩, ⟨gb, vb, A⟩, ⟨gc, vc, A⟩, ⟨gd, vd2, C.addAll C.zeroS (m.take (j + 1))⟩]) := h6
          clear h6 HO c0 c1
          go_wp2
          go_roundw
          case rel => exact ⟨j + 1, vd2, by go_num, by omega, H6.out⟩
          case measure => simp [intOf]; omega
        · obtain rfl : j = q := by omega
          have htm : m.take j = m := List.take_of_length_le (by have := HQ.out; omega)
          rw [htm] at HO
          have HDL : Hid ((C.addAll C.zeroS m).l.length ≤ 60) := by
            have := C.take_small m m.length 60 HM60.out
            rwa [List.take_of_length_le (Nat.le_refl _)] at this
          have HDO : Hid (C.addAll C.zeroS m).Ok := C.all_ok m _ C.zero_ok
          have HME : Hid (C.mergeS A (C.addAll C.zeroS m) = C.addAll A m) := C.merge_all HAO.out m
          have HMC : Hid (C.mergeS (C.addAll C.zeroS m) A = C.addAll A m) := by show _ = _; rw [C.merge_comm HDO.out HAO.out]; exact HME.out
          have HML : Hid ((C.addAll A m).l.length ≤ 120) := by
            have h1 := C.all_len m A
            have h2 := HAL.out
            have h3 := HM60.out
            show _ ≤ _
            omega
          have HLE : Hid (C.lenS A ≤ C.lenS (C.addAll A m)) := C.all_lenS m A HAO.out
          have HMO : Hid (C.addAll A m).Ok := C.all_ok m A HAO.out
          obtain ⟨M, hM⟩ : ∃ M, M = C.addAll A m := ⟨_, rfl⟩
          obtain ⟨D, hD⟩ : ∃ D, D = C.addAll C.zeroS m := ⟨_, rfl⟩
          rw [← hM] at HME HMC HML HLE HMO
          rw [← hD] at HME HMC HDL HDO HO
          clear htm hM hD
          have hfa := (HO.out.at_ ⟨ga, va, A⟩ (by simp)).1
          have hfb := (HO.out.at_ ⟨gb, vb, A⟩ (by simp)).1
          go_wp2_with fail
          refine (same_any wr ga gb A A va vb true hfa hfb (by have := HAL.out; omega) ((sameS_iff A A).2 rfl)).mono ?_
          rintro e w6 ⟨rfl, hb6⟩
          have H6 : Hid (Objs w w6 ([⟨ga, va, A⟩, ⟨gb, vb, A⟩] ++ ⟨gc, vc, A⟩ :: [⟨gd, vd, D⟩])) := HO.out.below hb6
          clear hb6 HO hfa hfb
          go_wp2_with fail
          refine (HMG.out [⟨ga, va, A⟩, ⟨gb, vb, A⟩] [⟨gd, vd, D⟩] w w6 gc vc A M ⟨gd, vd, D⟩ H6.out (by simp) (by have h1 := HAL.out; have h2 := HDL.out; simp only; omega) HME.out).mono ?_
          rintro e w7 ⟨rfl, vc2, h7⟩
          have H7 : Hid (Objs w w7 ([⟨ga, va, A⟩, ⟨gb, vb, A⟩, ⟨gc, vc2, M⟩] ++ ⟨gd, vd, D⟩ :: [])) := h7
          clear h7 H6
          go_wp2_with fail
          refine (HMG.out [⟨ga, va, A⟩, ⟨gb, vb, A⟩, ⟨gc, vc2, M⟩] [] w w7 gd vd D M ⟨ga, va, A⟩ H7.out (by simp) (by have h1 := HAL.out; have h2 := HDL.out; simp only; omega) HMC.out).mono ?_
          rintro e w8 ⟨rfl, vd2, h8⟩
          have H8 : Hid (Objs w w8 [⟨ga, va, A⟩, ⟨gb, vb, A⟩, ⟨gc, vc2, M⟩, ⟨gd, vd2, M⟩]) := h8
          clear h8 H7
          have hfc := (H8.out.at_ ⟨gc, vc2, M⟩ (by simp)).1
          have hfd := (H8.out.at_ ⟨gd, vd2, M⟩ (by simp)).1
          go_wp2_with fail
          refine (same_any w8 gc gd M M vc2 vd2 true hfc hfd (by have := HML.out; omega) ((sameS_iff M M).2 rfl)).mono ?_
          rintro e w9 ⟨rfl, hb9⟩
          have H9 : Hid (Objs w w9 [⟨ga, va, A⟩, ⟨gb, vb, A⟩, ⟨gc, vc2, M⟩, ⟨gd, vd2, M⟩]) := H8.out.below hb9
          clear hb9 H8 hfc hfd
          obtain ⟨zm, hzm⟩ : ∃ zm, C.lenS M = zm := ⟨_, rfl⟩
          obtain ⟨za, hza⟩ : ∃ za, C.lenS A = za := ⟨_, rfl⟩
          have hle : za ≤ zm := by rw [← hzm, ← hza]; exact HLE.out
          have HZM : Hid (C.lenS M = zm) := hzm
          have HZA : Hid (C.lenS A = za) := hza
          clear hzm hza
          go_wp2_with fail
          refine (o_len [⟨ga, va, A⟩, ⟨gb, vb, A⟩] [⟨gd, vd2, M⟩] gc vc2 M zm H9.out (by have := HML.out; omega) HZM.out).mono ?_
          rintro e w10 ⟨rfl, hw⟩
          subst hw
          go_wp2_with fail
          refine (o_len [] [⟨gb, vb, A⟩, ⟨gc, vc2, M⟩, ⟨gd, vd2, M⟩] ga va A za H9.out (by have := HAL.out; omega) HZA.out).mono ?_
          rintro e w11 ⟨rfl, hw⟩
          subst hw
          go_wp2
          go_ret
          exact ⟨ret_bool (by simp), H9.out.bel⟩
end Go.Proofs.Ytglmmhgmdhdleaa
