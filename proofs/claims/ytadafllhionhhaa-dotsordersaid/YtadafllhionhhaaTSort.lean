/-
  slices.SortFunc at dots, by dots.compare.
-/
import Derived.Test.YtadafllhionhhaaTCat
import Derived.Test.YtadafllhionhhaaLayD
namespace Go.Proofs.Ytadafllhionhhaa
open Go.RowKit Go.Lib Go.Sort
set_option linter.unusedVariables false

/-- A row by its cells. -/
theorem ownD_cells {w : World} {g cap : Nat} {cur : Array Value} {l : List C.Dt} (hg : w.heap[g]? = some (.cells cur 29)) (hs : cur.size = cap * 2) (hn : l.length ≤ cap) (hm : cap ≤ maxLen)
    (hc : ∀ i x j, l[i]? = some x → j < 2 → w.cell? ⟨g, i * 2 + j, none⟩ = (encD x)[j]?) : OwnD w (.slice (some ⟨g, 0, none⟩) l.length cap) l := by
  refine OwnD.make (cur := cur.toList) (by rw [Array.toArray_toList]; exact hg) hn hm (by simpa using hs) ?_
  apply List.ext_getElem?
  intro t
  rw [List.getElem?_take]
  by_cases ht : t < l.length * 2
  · rw [if_pos ht]
    have hd : t / 2 < l.length := by omega
    have hx : l[t / 2]? = some l[t / 2] := List.getElem?_eq_getElem hd
    have h1 := hc (t / 2) _ (t % 2) hx (by omega)
    have h2 := rowD_get l (t / 2) _ (t % 2) hx (by omega)
    rw [show t / 2 * 2 + t % 2 = t by omega] at h1 h2
    rw [h2, ← h1]
    simp [World.cell?, hg]
  · rw [if_neg ht, List.getElem?_eq_none (by rw [rowD_length]; omega)]
theorem own_holdsD {w : World} {g cap : Nat} {l : List C.Dt} (h : OwnD w (.slice (some ⟨g, 0, none⟩) l.length cap) l) : HoldsK encD 2 w g 0 l.toArray ∧ g < w.heap.size := by
  rcases h.shape with ⟨h1, _⟩ | ⟨g', cap', cur, hv, hg, hn, hm, hs, ht⟩
  · cases h1
  cases hv
  refine ⟨fun t ht' => ?_, (Array.getElem?_eq_some_iff.1 hg).1⟩
  simp only [size_flatK, List.size_toArray] at ht'
  have hd : t / 2 < l.length := by omega
  have hx : l[t / 2]? = some l[t / 2] := List.getElem?_eq_getElem hd
  have h2 := rowD_get l (t / 2) _ (t % 2) hx (by omega)
  rw [show t / 2 * 2 + t % 2 = t by omega, ← ht, List.getElem?_take, if_pos ht'] at h2
  refine ⟨?_, by simp [World.frozen?, hg]⟩
  rw [Nat.zero_add, box_cells hg t, get_flatK _ _ _ _ (by simpa using ht'), List.getElem?_toArray, h2]
  have e4 : l.toArray[t / 2]! = l[t / 2] := by simp [hd]
  rw [e4]
  have : t % 2 < (encD l[t / 2]).length := by show _ < 2; omega
  rw [List.getElem?_eq_getElem this]
  simp [this]
theorem ltD (x y : C.Dt) : ltOf C.cmpD x y = C.dlt x y := by
  unfold ltOf
  rw [Bool.eq_iff_iff, decide_eq_true_eq]
  exact C.cmpD_lt x y
theorem swoD : SWO (ltOf C.cmpD) where
  irrefl x := by rw [ltD]; exact C.dlt_irrefl x
  trans x y z h1 h2 := by rw [ltD] at *; exact C.dlt_trans h1 h2
  ntrans x y z h1 h2 := by
    rw [ltD] at *
    rw [C.dlt_not] at *
    omega
theorem encD_one (x : C.Dt) : ∀ v ∈ encD x, v.oneCell' = true := fun v hv => by
  simp only [encD, List.mem_cons, List.not_mem_nil, or_false] at hv
  rcases hv with rfl | rfl <;> rfl
theorem laysD (blk off size : Nat) (w : World) : CmpLays Try.prog 50 #[] encD 2 C.cmpD blk off size w := fun _ _ _ _ x y => compare_any x y _
theorem sortD_some (g cap : Nat) (l : List C.Dt) (w : World) (h : OwnD w (.slice (some ⟨g, 0, none⟩) l.length cap) l) (hl : l.length ≤ 1000000) :
    Calls Try.prog 49 #[.slice (some ⟨g, 0, none⟩) l.length cap, .func (.func 50) #[] #[]] w fun e w' => e = .returned (.tuple #[]) ∧ (∃ l', OwnD w' (.slice (some ⟨g, 0, none⟩) l.length cap) l' ∧ l'.Perm l ∧ l'.Pairwise fun a b => C.dlt b a = false) ∧ w.grownBy w' (some g) := by
  obtain ⟨hH, hgl⟩ := own_holdsD h
  have hc := AnyQ.slices_SortFunc Try.sortD 2 Try.isAgg29 Try.sizeOf29 encD (fun _ => rfl) encD_one C.cmpD swoD 50 #[] g 0 cap l.toArray w (enters_of Try.func50 (by kernel_rfl) rfl) (laysD g 0 _ w) hH hgl (by simp; omega)
  rcases h.shape with ⟨h1, _⟩ | ⟨g', cap', cur, hv, hg, hn, hm, hs, ht⟩
  · cases h1
  cases hv
  refine Calls.mono hc ?_
  rintro e w' ⟨rfl, d', n, os, ⟨hz, _, hp⟩, h2, rfl⟩
  have hz' : d'.size = l.length := by simpa using hz
  have e1 : (d'.extract 0 l.toArray.size) = d' := by rw [← hz]; simp
  have e2 : (l.toArray.extract 0 l.toArray.size) = l.toArray := by simp
  rw [e1, e2] at hp
  have hh := holdsK_sortWorldK encD 2 w g 0 n l.toArray d' os hgl hH hz
  refine ⟨rfl, ⟨d'.toList, ?_, hp, ?_⟩, ?_⟩
  · obtain ⟨cur', q1, q2⟩ : ∃ cur' : Array Value, (sortWorldK encD 2 w g 0 n d' os).heap[g]? = some (.cells cur' 29) ∧ cur'.size = cap * 2 := by
      refine ⟨putCells id 0 (flatK encD 2 d') cur.toArray, ?_, ?_⟩
      · unfold sortWorldK putRowK
        rw [heap_grow_old _ _ (by simpa [putRow, mapBlock, Sort.ahead] using hgl)]
        simp [putRow, mapBlock, Sort.ahead, Array.getElem?_modify, hg, onCells]
      · simpa [putCells] using hs
    have hlen : d'.toList.length = l.length := by simpa using hz'
    have := ownD_cells (l := d'.toList) (cap := cap) q1 q2 (by omega) hm fun i x j hx hj => by
      have hi : i < d'.size := by have := (List.getElem?_eq_some_iff.1 hx).1; simpa using this
      have h5 := (hh.cell (i := i) (c := j) hi hj).1
      rw [Nat.zero_add] at h5
      rw [h5]
      have e3 : d'[i]! = x := by
        rw [Array.getElem?_toList, Array.getElem?_eq_getElem hi] at hx
        simp only [Option.some.injEq] at hx
        rw [getElem!_pos d' i hi, hx]
      rw [e3]
      have : j < (encD x).length := hj
      rw [List.getElem?_eq_getElem this]
      simp [this]
    rw [hlen] at this
    exact this
  · rw [List.pairwise_iff_getElem]
    intro i j hi hj hij
    have hi' : i < d'.size := by simpa using hi
    have hj' : j < d'.size := by simpa using hj
    have := h2 i j (Nat.zero_le _) hij (by rw [← hz]; exact hj')
    rw [ltD] at this
    rw [getElem!_pos d' i hi', getElem!_pos d' j hj'] at this
    simpa using this
  · refine ⟨rfl, rfl, rfl, by simp [sortWorldK, putRowK, putRow, mapBlock, Sort.ahead], fun k hk hne => ?_⟩
    have hgk : g ≠ k := fun e => hne (by rw [e])
    unfold sortWorldK putRowK
    rw [heap_grow_old _ _ (by simpa [putRow, mapBlock, Sort.ahead] using hk)]
    simp [putRow, mapBlock, Sort.ahead, Array.getElem?_modify, hgk]
theorem sortD_any (v : Value) (l : List C.Dt) (w : World) (h : OwnD w v l) (hl : l.length ≤ 1000000) :
    Calls Try.prog 49 #[v, .func (.func 50) #[] #[]] w fun e w' => e = .returned (.tuple #[]) ∧ (∃ l', OwnD w' v l' ∧ l'.Perm l ∧ l'.Pairwise fun a b => C.dlt b a = false) ∧ w.grownBy w' v.ownBlock := by
  rcases h.shape with ⟨rfl, rfl⟩ | ⟨g, cap, cur, rfl, _⟩
  · refine (AnyF.slices_SortFunc_none Try.sortD none 0 _ w).mono ?_
    rintro e w' ⟨rfl, rfl⟩
    exact ⟨rfl, ⟨[], h, List.Perm.refl _, List.Pairwise.nil⟩, ⟨rfl, rfl, rfl, Nat.le_refl _, fun _ _ _ => rfl⟩⟩
  · exact sortD_some g cap l w h hl
end Go.Proofs.Ytadafllhionhhaa
