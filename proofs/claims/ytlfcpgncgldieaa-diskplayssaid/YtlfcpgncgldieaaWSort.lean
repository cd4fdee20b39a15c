/-
  disk.Disk.pending: its order of writes; the library's sort at them.
-/
import Derived.Test.YtlfcpgncgldieaaWAppend3
import Derived.Test.YtlfcpgncgldieaaLayW
namespace Go.Proofs.Ytlfcpgncgldieaa
open Go.RowKit Go.Lib Go.Maps Go.Sort
open C (upd upd_same upd_other)
set_option linter.unusedVariables false

/-- A row of writes as it lies. -/
def WAt (w : World) (p : Option Addr) (l : List C.Wr) : Prop := 0 < l.length → ∃ b, p = some ⟨b, 0, none⟩ ∧ ∀ i x, l[i]? = some x → ∀ j v, (encW x)[j]? = some v → w.cell? ⟨b, i * 3 + j, none⟩ = some v
theorem WAt.below {w w' : World} {p : Option Addr} {l : List C.Wr} (h : WAt w p l) (hb : Below w.heap.size w w') : WAt w' p l := fun hl => by
  obtain ⟨b, hp, hc⟩ := h hl
  refine ⟨b, hp, fun i x hx j v hv => ?_⟩
  have h1 := hc i x hx j v hv
  rw [hb.cell (p := ⟨b, i * 3 + j, none⟩) (World.block_lt_of_cell? _ _ h1)]; exact h1
theorem rowW_get : ∀ (l : List C.Wr) (i : Nat) (x : C.Wr) (j : Nat), l[i]? = some x → j < 3 → (rowW l)[i * 3 + j]? = (encW x)[j]?
  | [], i, x, j, h, _ => by cases h
  | y :: r, 0, x, j, h, hj => by
    have e : y = x := by simpa using h
    subst e
    have : rowW (y :: r) = encW y ++ rowW r := rfl
    rw [this, List.getElem?_append_left (by simp only [encW, List.length_cons, List.length_nil]; omega)]
    congr 1; omega
  | y :: r, i + 1, x, j, h, hj => by
    have h' : r[i]? = some x := by simpa using h
    have : rowW (y :: r) = encW y ++ rowW r := rfl
    rw [this, List.getElem?_append_right (by simp only [encW, List.length_cons, List.length_nil]; omega)]
    rw [← rowW_get r i x j h' hj]
    congr 1
    simp only [encW, List.length_cons, List.length_nil]; omega
theorem own_holds [Inhabited C.Wr] {w : World} {g n cap : Nat} {l : List C.Wr} (h : OwnW w (.slice (some ⟨g, 0, none⟩) n cap) l) : HoldsK encW 3 w g 0 l.toArray ∧ g < w.heap.size ∧ n = l.length := by
  rcases h.2 with ⟨h1, _⟩ | ⟨g', cap', cur, hv, _, hg, _, _, _, ht⟩
  · cases h1
  · cases hv
    refine ⟨fun t ht' => ?_, (Array.getElem?_eq_some_iff.1 hg).1, rfl⟩
    simp only [size_flatK, List.size_toArray] at ht'
    have hd : t / 3 < l.length := by rw [Nat.div_lt_iff_lt_mul (by decide)]; exact ht'
    have hm : t % 3 < 3 := Nat.mod_lt _ (by decide)
    have hx : l[t / 3]? = some l[t / 3] := List.getElem?_eq_getElem hd
    have e1 := rowW_get l (t / 3) _ (t % 3) hx hm
    have e2 : t / 3 * 3 + t % 3 = t := by omega
    rw [e2] at e1
    refine ⟨?_, blk_free hg _⟩
    rw [Nat.zero_add, blk_cell hg t, get_flatK _ _ _ _ (by simpa using ht')]
    have e3 := congrArg (fun q => q[t]?) ht
    simp only [List.getElem?_take] at e3
    rw [if_pos ht'] at e3
    rw [← Array.getElem?_toList, e3, e1]
    have e4 : l.toArray[t / 3]! = l[t / 3] := by simp [hd]
    rw [e4]
    have : t % 3 < (encW l[t / 3]).length := hm
    rw [List.getElem?_eq_getElem this]
    simp [this]
theorem holds_at [Inhabited C.Wr] {w : World} {g : Nat} {l : List C.Wr} (h : HoldsK encW 3 w g 0 l.toArray) : WAt w (some ⟨g, 0, none⟩) l := fun _ => by
  refine ⟨g, rfl, fun i x hx j v hv => ?_⟩
  have hi : i < l.length := (List.getElem?_eq_some_iff.1 hx).1
  have hj : j < (encW x).length := (List.getElem?_eq_some_iff.1 hv).1
  have := (h.cell (i := i) (c := j) (by simpa using hi) hj).1
  rw [Nat.zero_add] at this
  rw [this]
  have e1 : l.toArray[i]! = x := by
    rw [List.getElem?_eq_getElem hi] at hx
    simp only [Option.some.injEq] at hx
    simp [hi, hx]
  rw [e1]
  rw [List.getElem?_eq_getElem hj] at hv
  simp only [Option.some.injEq] at hv
  simp [hj, hv]
def cmpW (x y : C.Wr) : Int := Lib.compareInt (x.num : Nat) (y.num : Nat)
theorem ltW (x y : C.Wr) : ltOf cmpW x y = decide (x.num < y.num) := by
  unfold ltOf cmpW Lib.compareInt
  by_cases h1 : x.num < y.num
  · rw [if_pos (by omega)]; simp [h1]
  · rw [if_neg (by omega)]
    by_cases h2 : y.num < x.num
    · rw [if_pos (by omega)]; simp [h1]
    · rw [if_neg (by omega)]; simp [h1]
theorem swoW : SWO (ltOf cmpW) where
  irrefl x := by rw [ltW]; simp
  trans x y z h1 h2 := by rw [ltW] at *; simp at *; omega
  ntrans x y z h1 h2 := by rw [ltW] at *; simp at *; omega
set_option maxHeartbeats 1000000 in
theorem less_any (x y : C.Wr) (W : World) : Calls Try.prog 41 #[.agg #[.int .i64 (x.num : Nat), .int .i64 (x.file : Nat), .int .i64 (x.bytes.length : Nat)], .agg #[.int .i64 (y.num : Nat), .int .i64 (y.file : Nat), .int .i64 (y.bytes.length : Nat)]] W fun e w' => e = .returned (.int .i64 (cmpW x y)) ∧ ∃ q os', w' = grow (W.drewN q) os' := by
  have hcon := fun W' => AnyG.cmp_Compare_int Try.cmpI (x.num : Nat) (y.num : Nat) W'
  change ∀ W', Calls Try.prog 42 _ _ _ at hcon
  unfold cmpW
  generalize Lib.compareInt (x.num : Nat) (y.num : Nat) = r at hcon ⊢
  have HC : Hid _ := hcon
  clear hcon
  go_enter Try.func41, Try.ntmps41
  go_wp2_with fail
  refine Calls.mono (HC.out _) ?_
  rintro e w1 ⟨rfl, hw⟩
  subst w1
  go_wp2
  go_ret
  exact ⟨rfl, 0, _, by rw [alloc_eq_grow, alloc_eq_grow, grow_grow]; rfl⟩
theorem lays_any [Inhabited C.Wr] (blk off size : Nat) (w : World) : CmpLays Try.prog 41 #[] encW 3 cmpW blk off size w := fun _ _ _ _ x y => less_any x y _
theorem encW_one (x : C.Wr) : ∀ v ∈ encW x, v.oneCell' = true := fun v hv => by
  simp only [encW, List.mem_cons, List.not_mem_nil, or_false] at hv
  rcases hv with rfl | rfl | rfl <;> rfl
/-- Sorted by number, and a permutation of what rises: what rises. -/
theorem sorted_is [Inhabited C.Wr] {l s : List C.Wr} (hp : l.Perm s) (hs : s.Pairwise fun a b => a.num < b.num) {d' : Array C.Wr} (h1 : PermIn 0 l.toArray.size l.toArray d') (h2 : SortedIn (ltOf cmpW) 0 l.toArray.size d') : d'.toList = s := by
  obtain ⟨hz, _, hp'⟩ := h1
  have e1 : (d'.extract 0 l.toArray.size) = d' := by rw [← hz]; simp
  have e2 : (l.toArray.extract 0 l.toArray.size) = l.toArray := by simp
  rw [e1, e2] at hp'
  have hpp : d'.toList.Perm s := hp'.trans hp
  refine List.Perm.eq_of_pairwise (le := fun a b => a.num ≤ b.num) (fun a b ha hb h1 h2 => ?_) ?_ (hs.imp fun h => Nat.le_of_lt h) hpp
  · have ha' : a ∈ s := hpp.mem_iff.1 ha
    have hinj : ∀ (s : List C.Wr), (s.Pairwise fun a b => a.num < b.num) → ∀ a ∈ s, ∀ b ∈ s, a.num = b.num → a = b := by
      intro s hs
      induction s with
      | nil => intro a ha; cases ha
      | cons x r ih =>
        obtain ⟨k1, k2⟩ := List.pairwise_cons.1 hs
        intro a ha b hb e
        rcases List.mem_cons.1 ha with ea | ha2
        · rcases List.mem_cons.1 hb with eb | hb2
          · rw [ea, eb]
          · have := k1 b hb2; rw [ea] at e; omega
        · rcases List.mem_cons.1 hb with eb | hb2
          · have := k1 a ha2; rw [eb] at e; omega
          · exact ih k2 a ha2 b hb2 e
    exact hinj s hs a ha' b hb (by omega)
  · rw [List.pairwise_iff_getElem]
    intro i j hi hj hij
    have hi' : i < d'.size := by simpa using hi
    have hj' : j < d'.size := by simpa using hj
    have := h2 i j (Nat.zero_le _) hij (by rw [← hz]; exact hj')
    rw [ltW] at this
    simp only [decide_eq_false_iff_not, Nat.not_lt] at this
    rw [getElem!_pos d' i hi', getElem!_pos d' j hj'] at this
    simpa using this
theorem sort_none (p : Option Addr) (cap : Nat) (w : World) : Calls Try.prog 40 #[.slice p 0 cap, .func (.func 41) #[] #[]] w fun e w' => e = .returned (.tuple #[]) ∧ w' = w :=
  AnyF.slices_SortFunc_none Try.sortW p cap _ w
theorem sort_some (g cap : Nat) (l s : List C.Wr) (w : World) (h : OwnW w (.slice (some ⟨g, 0, none⟩) l.length cap) l) (hp : l.Perm s) (hs : s.Pairwise fun a b => a.num < b.num) (hl : l.length ≤ 1000000) :
    Calls Try.prog 40 #[.slice (some ⟨g, 0, none⟩) l.length cap, .func (.func 41) #[] #[]] w fun e w' => e = .returned (.tuple #[]) ∧ WAt w' (some ⟨g, 0, none⟩) s ∧ w.grownBy w' (some g) := by
  haveI : Inhabited C.Wr := ⟨⟨0, 0, [], false⟩⟩
  obtain ⟨hH, hg, _⟩ := own_holds h
  have hc := AnyQ.slices_SortFunc Try.sortW 3 Try.isAgg60 Try.sizeOf60 encW (fun _ => rfl) encW_one cmpW swoW 41 #[] g 0 cap l.toArray w (enters_of Try.func41 (by kernel_rfl) rfl) (lays_any g 0 _ w) hH hg (by simp; omega)
  refine Calls.mono hc ?_
  rintro e w' ⟨rfl, d', n, os, h1, h2, rfl⟩
  have hd := sorted_is hp hs h1 h2
  have hsz : d'.size = l.toArray.size := h1.1
  refine ⟨rfl, ?_, ?_⟩
  · have := holdsK_sortWorldK encW 3 w g 0 n l.toArray d' os hg hH hsz
    rw [show d' = s.toArray by rw [← hd]] at this ⊢
    exact holds_at this
  · refine ⟨rfl, rfl, rfl, by simp [sortWorldK, putRowK, putRow, mapBlock, Sort.ahead], fun k hk hne => ?_⟩
    have hgk : g ≠ k := fun e => hne (by rw [e])
    unfold sortWorldK putRowK
    rw [heap_grow_old _ _ (by simpa [putRow, mapBlock, Sort.ahead] using hk)]
    simp [putRow, mapBlock, Sort.ahead, Array.getElem?_modify, hgk]
end Go.Proofs.Ytlfcpgncgldieaa
