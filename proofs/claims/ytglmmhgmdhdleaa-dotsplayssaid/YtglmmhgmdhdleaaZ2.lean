/-
  Several texts in one: TSort, BStructs, TArg, TComp, TComp2, TSettle, RClose, RAdd.
-/
import Derived.Test.YtglmmhgmdhdleaaZ1
import Derived.Test.YtglmmhgmdhdleaaLayD
import Derived.Test.YtglmmhgmdhdleaaBIs
import Derived.Deep.Slices
import Derived.Test.YtglmmhgmdhdleaaTObjs
import Derived.Deep.RegionHeldLaw
namespace Go.Proofs.Ytglmmhgmdhdleaa
open Go.RowKit Go.Lib Go.Sort
set_option linter.unusedVariables false

/-- A row by its cells. -/
theorem ownD_cells {w : World} {g cap : Nat} {cur : Array Value} {l : List C.Dt} (hg : w.heap[g]? = some (.cells cur 29)) (hs : cur.size = cap * 2) (hn : l.length ≤ cap) (hm : cap ≤ maxLen)
    (hc : ∀ i x j, l[i]? = some x → j < 2 → w.cell? ⟨g, i * 2 + j, none⟩ = (encD x)[j]?) : OwnD w (.slice (some ⟨g, 0, none⟩) l.length cap) l := by
  refine OwnD.make (cur := cur.toList) (by rw [Array.toArray_toList]; exact hg) hn hm (by simpa using hs) ?_
  apply List.ext_getElem?
  intro t
  rw [List.getElem?_take]
  by_cases ht : t < l.length * 2
  · rw [if_pos ht]
    have hd : t / 2 < l.length := by omega
    have hx : l[t / 2]? = some l[t / 2] := List.getElem?_eq_getElem hd
    have h1 := hc (t / 2) _ (t % 2) hx (by omega)
    have h2 := rowD_get l (t / 2) _ (t % 2) hx (by omega)
    rw [show t / 2 * 2 + t % 2 = t by omega] at h1 h2
    rw [h2, ← h1]
    simp [World.cell?, hg]
  · rw [if_neg ht, List.getElem?_eq_none (by rw [rowD_length]; omega)]
theorem own_holdsD {w : World} {g cap : Nat} {l : List C.Dt} (h : OwnD w (.slice (some ⟨g, 0, none⟩) l.length cap) l) : HoldsK encD 2 w g 0 l.toArray ∧ g < w.heap.size := by
  rcases h.shape with ⟨h1, _⟩ | ⟨g', cap', cur, hv, hg, hn, hm, hs, ht⟩
  · cases h1
  cases hv
  refine ⟨fun t ht' => ?_, (Array.getElem?_eq_some_iff.1 hg).1⟩
  simp only [size_flatK, List.size_toArray] at ht'
  have hd : t / 2 < l.length := by omega
  have hx : l[t / 2]? = some l[t / 2] := List.getElem?_eq_getElem hd
  have h2 := rowD_get l (t / 2) _ (t % 2) hx (by omega)
  rw [show t / 2 * 2 + t % 2 = t by omega, ← ht, List.getElem?_take, if_pos ht'] at h2
  refine ⟨?_, by simp [World.frozen?, hg]⟩
  rw [Nat.zero_add, box_cells hg t, get_flatK _ _ _ _ (by simpa using ht'), List.getElem?_toArray, h2]
  have e4 : l.toArray[t / 2]! = l[t / 2] := by simp [hd]
  rw [e4]
  have : t % 2 < (encD l[t / 2]).length := by show _ < 2; omega
  rw [List.getElem?_eq_getElem this]
  simp [this]
theorem ltD (x y : C.Dt) : ltOf C.cmpD x y = C.dlt x y := by
  unfold ltOf
  rw [Bool.eq_iff_iff, decide_eq_true_eq]
  exact C.cmpD_lt x y
theorem swoD : SWO (ltOf C.cmpD) where
  irrefl x := by rw [ltD]; exact C.dlt_irrefl x
  trans x y z h1 h2 := by rw [ltD] at *; exact C.dlt_trans h1 h2
  ntrans x y z h1 h2 := by
    rw [ltD] at *
    rw [C.dlt_not] at *
    omega
theorem encD_one (x : C.Dt) : ∀ v ∈ encD x, v.oneCell' = true := fun v hv => by
  simp only [encD, List.mem_cons, List.not_mem_nil, or_false] at hv
  rcases hv with rfl | rfl <;> rfl
theorem laysD (blk off size : Nat) (w : World) : CmpLays Try.prog 50 #[] encD 2 C.cmpD blk off size w := fun _ _ _ _ x y => compare_any x y _
theorem sortD_some (g cap : Nat) (l : List C.Dt) (w : World) (h : OwnD w (.slice (some ⟨g, 0, none⟩) l.length cap) l) (hl : l.length ≤ 1000000) :
    Calls Try.prog 49 #[.slice (some ⟨g, 0, none⟩) l.length cap, .func (.func 50) #[] #[]] w fun e w' => e = .returned (.tuple #[]) ∧ (∃ l', OwnD w' (.slice (some ⟨g, 0, none⟩) l.length cap) l' ∧ l'.Perm l ∧ l'.Pairwise fun a b => C.dlt b a = false) ∧ w.grownBy w' (some g) := by
  obtain ⟨hH, hgl⟩ := own_holdsD h
  have hc := AnyQ.slices_SortFunc Try.sortD 2 Try.isAgg29 Try.sizeOf29 encD (fun _ => rfl) encD_one C.cmpD swoD 50 #[] g 0 cap l.toArray w (enters_of Try.func50 (by kernel_rfl) rfl) (laysD g 0 _ w) hH hgl (by simp; omega)
  rcases h.shape with ⟨h1, _⟩ | ⟨g', cap', cur, hv, hg, hn, hm, hs, ht⟩
  · cases h1
  cases hv
  refine Calls.mono hc ?_
  rintro e w' ⟨rfl, d', n, os, ⟨hz, _, hp⟩, h2, rfl⟩
  have hz' : d'.size = l.length := by simpa using hz
  have e1 : (d'.extract 0 l.toArray.size) = d' := by rw [← hz]; simp
  have e2 : (l.toArray.extract 0 l.toArray.size) = l.toArray := by simp
  rw [e1, e2] at hp
  have hh := holdsK_sortWorldK encD 2 w g 0 n l.toArray d' os hgl hH hz
  refine ⟨rfl, ⟨d'.toList, ?_, hp, ?_⟩, ?_⟩
  · obtain ⟨cur', q1, q2⟩ : ∃ cur' : Array Value, (sortWorldK encD 2 w g 0 n d' os).heap[g]? = some (.cells cur' 29) ∧ cur'.size = cap * 2 := by
      refine ⟨putCells id 0 (flatK encD 2 d') cur.toArray, ?_, ?_⟩
      · unfold sortWorldK putRowK
        rw [heap_grow_old _ _ (by simpa [putRow, mapBlock, Sort.ahead] using hgl)]
        simp [putRow, mapBlock, Sort.ahead, Array.getElem?_modify, hg, onCells]
      · simpa [putCells] using hs
    have hlen : d'.toList.length = l.length := by simpa using hz'
    have := ownD_cells (l := d'.toList) (cap := cap) q1 q2 (by omega) hm fun i x j hx hj => by
      have hi : i < d'.size := by have := (List.getElem?_eq_some_iff.1 hx).1; simpa using this
      have h5 := (hh.cell (i := i) (c := j) hi hj).1
      rw [Nat.zero_add] at h5
      rw [h5]
      have e3 : d'[i]! = x := by
        rw [Array.getElem?_toList, Array.getElem?_eq_getElem hi] at hx
        simp only [Option.some.injEq] at hx
        rw [getElem!_pos d' i hi, hx]
      rw [e3]
      have : j < (encD x).length := hj
      rw [List.getElem?_eq_getElem this]
      simp [this]
    rw [hlen] at this
    exact this
  · rw [List.pairwise_iff_getElem]
    intro i j hi hj hij
    have hi' : i < d'.size := by simpa using hi
    have hj' : j < d'.size := by simpa using hj
    have := h2 i j (Nat.zero_le _) hij (by rw [← hz]; exact hj')
    rw [ltD] at this
    rw [getElem!_pos d' i hi', getElem!_pos d' j hj'] at this
    simpa using this
  · refine ⟨rfl, rfl, rfl, by simp [sortWorldK, putRowK, putRow, mapBlock, Sort.ahead], fun k hk hne => ?_⟩
    have hgk : g ≠ k := fun e => hne (by rw [e])
    unfold sortWorldK putRowK
    rw [heap_grow_old _ _ (by simpa [putRow, mapBlock, Sort.ahead] using hk)]
    simp [putRow, mapBlock, Sort.ahead, Array.getElem?_modify, hgk]
theorem sortD_any (v : Value) (l : List C.Dt) (w : World) (h : OwnD w v l) (hl : l.length ≤ 1000000) :
    Calls Try.prog 49 #[v, .func (.func 50) #[] #[]] w fun e w' => e = .returned (.tuple #[]) ∧ (∃ l', OwnD w' v l' ∧ l'.Perm l ∧ l'.Pairwise fun a b => C.dlt b a = false) ∧ w.grownBy w' v.ownBlock := by
  rcases h.shape with ⟨rfl, rfl⟩ | ⟨g, cap, cur, rfl, _⟩
  · refine (AnyF.slices_SortFunc_none Try.sortD none 0 _ w).mono ?_
    rintro e w' ⟨rfl, rfl⟩
    exact ⟨rfl, ⟨[], h, List.Perm.refl _, List.Pairwise.nil⟩, ⟨rfl, rfl, rfl, Nat.le_refl _, fun _ _ _ => rfl⟩⟩
  · exact sortD_some g cap l w h hl
end Go.Proofs.Ytglmmhgmdhdleaa

namespace Go.Proofs.Ytglmmhgmdhdleaa
open Go.ChangeShapes Go.WideShapes Go.ChangeAt Go.RowKit Go.Lib
set_option linter.unusedVariables false

/-- Cell j of element i. -/
theorem openedStructs {H : Type} {enc : TypeId × Value → H} {P : Program} {t e : TypeId} {fs : Array Field} (m : Nat) (hm : 0 < m) (ht : P.underlying t = some (.slice e)) (he : P.underlying e = some (.struct fs)) (ce : P.cellsOf e = m) (hfs : ∀ (j : Nat) (f : Field), fs[j]? = some f → f.offset = j ∧ P.cellsOf f.type = 1) (hsz : fs.size = m) {W : World} {a0 : Option Addr} {len cap : Nat} {d0 : DataW H} {p : List MemPlace}
    (h0 : DataW.Trod enc P W 0 (fun _ => true) true t (.slice a0 len cap) d0 p) :
    len ≤ cap ∧ cap ≤ maxLen ∧ ∃ V : Nat → Nat → Value, (0 < len → ∃ b o, a0 = some ⟨b, o, none⟩ ∧ ∀ i j, i < len → j < m → W.cell? ⟨b, o + i * m + j, none⟩ = some (V i j)) ∧
      ∀ (i j : Nat) (f : Field), i < len → fs[j]? = some f → ∃ n y, DataW.trod enc P W 0 (fun _ => true) true n f.type [V i j] = some y := by
  obtain ⟨fuel, hf⟩ := h0
  rcases Go.Deep.open_slice ht hf with ⟨hcs, hx⟩ | ⟨a, len', cap', mm, n, D, Pl, hcs, _, hl, hmx, hmm, hx, hr⟩
  · simp [Value.cells] at hcs
    obtain ⟨rfl, rfl, rfl⟩ := hcs
    exact ⟨Nat.le_refl _, Nat.zero_le _, fun _ _ => .bool false, fun h => absurd h (Nat.lt_irrefl 0), fun i j f hi => absurd hi (Nat.not_lt_zero _)⟩
  · simp [Value.cells] at hcs
    obtain ⟨rfl, rfl, rfl⟩ := hcs
    simp only [if_true] at hmm
    subst hmm
    have each : ∀ i, i < len → ∃ q : List Value, (∀ j, j < m → W.cell? (a.add (i * m + j)) = some (q.getD j (.bool false))) ∧ ∀ (j : Nat) (f : Field), fs[j]? = some f → ∃ n y, DataW.trod enc P W 0 (fun _ => true) true n f.type [q.getD j (.bool false)] = some y := by
      intro i hi
      obtain ⟨cs', h1, h2⟩ := hr i (by omega)
      rw [ce] at h1
      obtain ⟨_, hlen, hcell⟩ := World.cells?_some h1
      obtain ⟨xs, k, hk, hxy, _, hxl, hff⟩ := DataW.trod_struct he h2
      refine ⟨cs', fun j hj => ?_, fun j f hj => ?_⟩
      · have := hcell j hj
        rw [Go.Deep.add_add] at this
        rw [this, List.getElem?_eq_getElem (by omega)]
        simp [List.getD, show j < cs'.length by omega]
      · have hjm : j < m := by have := (Array.getElem?_eq_some_iff.1 hj).1; omega
        have g := hff j f hj
        rw [(hfs j f hj).1, (hfs j f hj).2] at g
        have e1 : (cs'.drop j).take 1 = [cs'.getD j (.bool false)] := by
          rw [List.drop_eq_getElem_cons (by omega), List.take_succ_cons, List.take_zero]
          simp [List.getD, show j < cs'.length by omega]
        rw [e1] at g
        obtain ⟨y, hy⟩ : ∃ y, xs[j]? = some y := ⟨xs[j]'(by omega), List.getElem?_eq_getElem (by omega)⟩
        rw [hy] at g
        exact ⟨k, y, g⟩
    obtain ⟨q, hq⟩ := Go.Deep.choose_lt each
    refine ⟨hl, hmx, fun i j => (q i).getD j (.bool false), fun hlen => ?_, fun i j f hi hj => (hq i hi).2 j f hj⟩
    obtain ⟨b, o, s⟩ := a
    have h00 := (hq 0 hlen).1 0 hm
    obtain rfl : s = none := by simpa [Addr.add] using World.cell?_spot h00
    refine ⟨b, o, rfl, fun i j hi hj => ?_⟩
    have := (hq i hi).1 j hj
    rw [add_plain] at this
    rw [Nat.add_assoc]
    exact this
/-- A slice of bytes with room: where it lies. -/
theorem openedAt {H : Type} {enc : TypeId × Value → H} {P : Program} {t e : TypeId} (ht : P.underlying t = some (.slice e)) (he : P.underlying e = some (.int .u8)) (hc : P.cellsOf e = 1) {W : World} {a0 : Option Addr} {len cap : Nat} {d0 : DataW H} {p : List MemPlace}
    (h0 : DataW.Trod enc P W 0 (fun _ => true) true t (.slice a0 len cap) d0 p) (hcap : 0 < cap) : ∃ b o, a0 = some ⟨b, o, none⟩ := by
  obtain ⟨fuel, hf⟩ := h0
  rcases open_ints ht he hc hf with ⟨hcs, hx⟩ | ⟨a, len', cap', zs, hcs, _, hl, hm, hz, hx, hcell, hwz⟩
  · simp [Value.cells] at hcs
    omega
  · simp [Value.cells] at hcs
    obtain ⟨rfl, rfl, rfl⟩ := hcs
    simp only [if_true] at hz
    obtain ⟨b, o, s⟩ := a
    obtain rfl : s = none := by simpa [Addr.add] using World.cell?_spot (hcell 0 (by omega))
    exact ⟨b, o, rfl⟩
end Go.Proofs.Ytglmmhgmdhdleaa

namespace Go.Proofs.Ytglmmhgmdhdleaa
open Go.RowKit Go.Lib
set_option linter.unusedVariables false

/-- Dots as they came in. -/
def ArgD (w : World) (p : Option Addr) (l : List C.Dt) : Prop := 0 < l.length → ∃ b o, p = some ⟨b, o, none⟩ ∧ ∀ i x, l[i]? = some x → w.cell? ⟨b, o + i * 2, none⟩ = some (.int .i64 x.1) ∧ w.cell? ⟨b, o + i * 2 + 1, none⟩ = some (.int .i64 x.2)
theorem ArgD.below {w w' : World} {p : Option Addr} {l : List C.Dt} (h : ArgD w p l) (hb : Below w.heap.size w w') : ArgD w' p l := fun hl => by
  obtain ⟨b, o, hp, hc⟩ := h hl
  refine ⟨b, o, hp, fun i x hx => ?_⟩
  obtain ⟨h1, h2⟩ := hc i x hx
  exact ⟨(hb.cell (p := ⟨b, o + i * 2, none⟩) (World.block_lt_of_cell? _ _ h1)).trans h1, (hb.cell (p := ⟨b, o + i * 2 + 1, none⟩) (World.block_lt_of_cell? _ _ h2)).trans h2⟩
/-- .. out of what 'openedStructs' hands. -/
theorem argD_of (w : World) (pa : Option Addr) (len : Nat) (V : Nat → Nat → Value) (hV : 0 < len → ∃ b o, pa = some ⟨b, o, none⟩ ∧ ∀ i j, i < len → j < 2 → w.cell? ⟨b, o + i * 2 + j, none⟩ = some (V i j)) (hI : ∀ i j, i < len → j < 2 → ∃ z, V i j = .int .i64 z ∧ (Lit.int .i64 z).wf = true) :
    ∃ l : List C.Dt, len = l.length ∧ ArgD w pa l := by
  refine ⟨(List.range len).map fun i => (intOf (V i 0), intOf (V i 1)), by simp, fun hl => ?_⟩
  simp only [List.length_map, List.length_range] at hl
  obtain ⟨b, o, hp, hc⟩ := hV hl
  refine ⟨b, o, hp, fun i x hx => ?_⟩
  have hi : i < len := by
    have := (List.getElem?_eq_some_iff.1 hx).1
    simpa using this
  simp only [List.getElem?_map, List.getElem?_range hi, Option.map_some, Option.some.injEq] at hx
  subst hx
  constructor
  · obtain ⟨z, hz, _⟩ := hI i 0 hi (by omega)
    have := hc i 0 hi (by omega)
    rw [hz] at this
    simp only [hz]
    exact this
  · obtain ⟨z, hz, _⟩ := hI i 1 hi (by omega)
    have := hc i 1 hi (by omega)
    rw [hz] at this
    simp only [hz]
    exact this
namespace C
def wasB (l : List Dt) (d : Dt) : Bool := may d && l.contains d
theorem was_snoc (l : List Dt) (x d : Dt) : wasB (l ++ [x]) d = (wasB l d || (may x && decide (x = d))) := by
  unfold wasB
  rw [Bool.eq_iff_iff]
  simp only [Bool.and_eq_true, Bool.or_eq_true, List.contains_iff_mem, List.mem_append, List.mem_singleton, decide_eq_true_eq]
  constructor
  · rintro ⟨a, b | rfl⟩
    · exact Or.inl ⟨a, b⟩
    · exact Or.inr ⟨a, rfl⟩
  · rintro (⟨a, b⟩ | ⟨a, rfl⟩)
    · exact ⟨a, Or.inl b⟩
    · exact ⟨a, Or.inr rfl⟩
theorem mem_was (l : List Dt) (d : Dt) : mem (addAll zeroS l) d = wasB l d := by
  rw [Bool.eq_iff_iff, all_mem d l zeroS zero_ok, zero_mem]
  unfold wasB
  simp
theorem lenM {s : Ds} (h : s.Ok) (d : Dt) : lenS (addM s d) = lenS s + if (may d && !mem s d) = true then 1 else 0 := by
  unfold addM
  cases hm : may d with
  | false => simp
  | true =>
    cases hd : mem s d with
    | true => simp [add_there h hm hd]
    | false => simp [add_lenS h hm hd]
theorem take_snoc {l : List Dt} {k : Nat} {x : Dt} (hx : l[k]? = some x) : l.take (k + 1) = l.take k ++ [x] := by
  rw [List.take_add_one, hx]; rfl
end C
end Go.Proofs.Ytglmmhgmdhdleaa

namespace Go.Proofs.Ytglmmhgmdhdleaa
open Go.RowKit Go.Lib
set_option linter.unusedVariables false

namespace C
def ddStep (acc : List Dt) (x : Dt) : List Dt := if acc.getLast? = some x then acc else acc ++ [x]
def dd (l : List Dt) : List Dt := l.foldl ddStep []
theorem dd_snoc (l : List Dt) (x : Dt) : dd (l ++ [x]) = ddStep (dd l) x := by unfold dd; rw [List.foldl_append]; rfl
theorem ddStep_last (acc : List Dt) (x : Dt) : (ddStep acc x).getLast? = some x := by
  unfold ddStep; split
  · assumption
  · simp
theorem dd_take {l : List Dt} {k : Nat} {x y : Dt} (hx : l[k]? = some x) (hk : 0 < k) (hy : l[k - 1]? = some y) : dd (l.take (k + 1)) = if x = y then dd (l.take k) else dd (l.take k) ++ [x] := by
  have e1 : l.take k = l.take (k - 1) ++ [y] := by
    have := take_snoc hy
    rwa [show k - 1 + 1 = k by omega] at this
  have h1 : (dd (l.take k)).getLast? = some y := by rw [e1, dd_snoc]; exact ddStep_last _ _
  rw [take_snoc hx, dd_snoc, ddStep, h1]
  by_cases h : x = y
  · subst h; simp
  · rw [if_neg h, if_neg (fun e => h (by simpa using e.symm))]
theorem dd_one (l : List Dt) (h : l.length ≤ 1) : dd l = l := by
  match l, h with
  | [], _ => rfl
  | [x], _ => rfl
theorem dd_all : ∀ (r acc : List Dt), Up acc → (∀ a ∈ acc, ∀ b ∈ r, dlt b a = false) → (r.Pairwise fun a b => dlt b a = false) → Up (r.foldl ddStep acc) ∧ ∀ x, x ∈ r.foldl ddStep acc ↔ x ∈ acc ∨ x ∈ r
  | [], acc, hu, _, _ => ⟨hu, fun x => by simp⟩
  | d :: t, acc, hu, hle, hs => by
    obtain ⟨hs1, hs2⟩ := List.pairwise_cons.1 hs
    have hd : ∀ a ∈ acc, dlt d a = false := fun a ha => hle a ha d (List.mem_cons_self ..)
    have key : Up (ddStep acc d) ∧ ∀ x, x ∈ ddStep acc d ↔ x ∈ acc ∨ x = d := by
      unfold ddStep
      split
      · rename_i h
        have hm : d ∈ acc := List.mem_of_getLast? h
        exact ⟨hu, fun x => ⟨Or.inl, fun h => by rcases h with h | rfl; exact h; exact hm⟩⟩
      · rename_i h
        refine ⟨?_, fun x => by simp⟩
        refine List.pairwise_append.2 ⟨hu, List.pairwise_singleton _ _, fun a ha b hb => ?_⟩
        obtain rfl : b = d := by simpa using hb
        cases hc : dlt a b with
        | true => rfl
        | false =>
          exfalso
          obtain rfl := dlt_total hc (hd a ha)
          obtain ⟨z, hz⟩ : ∃ z, acc.getLast? = some z := by
            cases hg : acc.getLast? with
            | none => rw [List.getLast?_eq_none_iff] at hg; subst hg; cases ha
            | some z => exact ⟨z, rfl⟩
          have hne : a ≠ z := fun e => h (by rw [hz, e])
          have hzm : z ∈ acc := List.mem_of_getLast? hz
          obtain ⟨pre, hpre⟩ : ∃ pre, acc = pre ++ [z] := by
            obtain ⟨hne', e⟩ := List.getLast?_eq_some_iff.1 hz
            exact ⟨_, e⟩
          rw [hpre] at ha hu
          rcases List.mem_append.1 ha with ha' | ha'
          · have := (List.pairwise_append.1 hu).2.2 a ha' z (by simp)
            rw [hd z hzm] at this; cases this
          · exact hne (by simpa using ha')
    have ih := dd_all t (ddStep acc d) key.1 (fun a ha b hb => by
      rcases (key.2 a).1 ha with h | rfl
      · exact hle a h b (List.mem_cons_of_mem _ hb)
      · exact hs1 b hb) hs2
    refine ⟨ih.1, fun x => ?_⟩
    have e : (d :: t).foldl ddStep acc = t.foldl ddStep (ddStep acc d) := rfl
    rw [e, ih.2 x, key.2 x, List.mem_cons]
    constructor
    · rintro ((h | h) | h)
      · exact Or.inl h
      · exact Or.inr (Or.inl h)
      · exact Or.inr (Or.inr h)
    · rintro (h | h | h)
      · exact Or.inl (Or.inl h)
      · exact Or.inl (Or.inr h)
      · exact Or.inr h
/-- Two rows, sorted together, each once: joined. -/
theorem dd_join {a b s : List Dt} (ha : Up a) (hp : s.Perm (a ++ b)) (hs : s.Pairwise fun x y => dlt y x = false) : dd s = joinL a b := by
  obtain ⟨h1, h2⟩ := dd_all s [] Up.nil (fun a h => by cases h) hs
  refine up_eq h1 (join_up b a ha) fun x => ?_
  rw [join_mem, ← List.mem_append, ← hp.mem_iff]
  have := h2 x
  unfold dd
  rw [this]; simp
end C
theorem rowD_set (l : List C.Dt) (k : Nat) (x : C.Dt) : rowD (l.set k x) = ((rowD l).set (k * 2) (.int .i64 x.1)).set (k * 2 + 1) (.int .i64 x.2) := by
  induction l generalizing k with
  | nil => rfl
  | cons y r ih =>
    have e : ∀ z : C.Dt, ∀ q, rowD (z :: q) = .int .i64 z.1 :: .int .i64 z.2 :: rowD q := fun _ _ => rfl
    cases k with
    | zero => simp [e]
    | succ k =>
      rw [List.set_cons_succ, e, e, ih, show (k + 1) * 2 = k * 2 + 1 + 1 by omega]
      simp
theorem OwnD.set {w : World} {g n cap : Nat} {l : List C.Dt} (h : OwnD w (.slice (some ⟨g, 0, none⟩) n cap) l) (hn : n = l.length) (k : Nat) (x : C.Dt) :
    OwnD ((w.setCell ⟨g, k * 2, none⟩ (.int .i64 x.1)).setCell ⟨g, k * 2 + 1, none⟩ (.int .i64 x.2)) (.slice (some ⟨g, 0, none⟩) n cap) (l.set k x) := by
  subst hn
  have h1 := (World.ownsRow.stored h (k * 2) (.int .i64 x.1)).1
  have h2 := (World.ownsRow.stored h1 (k * 2 + 1) (.int .i64 x.2)).1
  unfold OwnD
  rw [List.length_set, rowD_set]
  exact h2
end Go.Proofs.Ytglmmhgmdhdleaa

namespace Go.Proofs.Ytglmmhgmdhdleaa
open Go.RowKit Go.Lib
set_option linter.unusedVariables false

theorem cell_eq {w : World} {g a b : Nat} {v : Value} (h : w.cell? ⟨g, a, none⟩ = some v) (e : b = a) : w.cell? ⟨g, b, none⟩ = some v := by rw [e]; exact h
theorem ownD_free {w : World} {g n cap : Nat} {l : List C.Dt} (h : OwnD w (.slice (some ⟨g, 0, none⟩) n cap) l) (k : Nat) : w.frozen? ⟨g, k, none⟩ = false := by
  obtain ⟨cur, hc⟩ := row_type h rfl
  simp [World.frozen?, hc]
theorem turn_own {w w' : World} {g n cap : Nat} (h : Below w.heap.size w w') : Turn w w' (fun b => b = g) := Turn.of_below h
set_option maxRecDepth 100000 in
set_option maxHeartbeats 8000000 in
theorem compact_some (g cap : Nat) (l : List C.Dt) (w : World) (h : OwnD w (.slice (some ⟨g, 0, none⟩) l.length cap) l) (hl : l.length ≤ 1000000) (h2 : 2 ≤ l.length) :
    Calls Try.prog 53 #[.slice (some ⟨g, 0, none⟩) l.length cap] w fun e w' => ∃ m, e = .returned (.slice (some ⟨g, 0, none⟩) m cap) ∧ m = (C.dd l).length ∧ OwnD w' (.slice (some ⟨g, 0, none⟩) m cap) (C.dd l) ∧ Turn w w' (fun b => b = g) := by
  obtain ⟨n, hn⟩ : ∃ n, n = l.length := ⟨_, rfl⟩
  have HN : Hid (n = l.length) := hn
  have HO : Hid (OwnD w (.slice (some ⟨g, 0, none⟩) n cap) l) := by show OwnD _ _ _; rw [hn]; exact h
  obtain ⟨hcn, hcm⟩ : n ≤ cap ∧ cap ≤ maxLen := by
    rcases h.shape with ⟨h1, _⟩ | ⟨g', cap', cur, hv, hg, hnn, hm, hs, ht⟩
    · cases h1
    · cases hv; exact ⟨by omega, hm⟩
  have hcap63 : cap ≤ 9223372036854775807 := Nat.le_trans hcm (by decide)
  have HCM : Hid (cap ≤ maxLen) := hcm
  rw [← hn] at hl h2 ⊢
  clear h hn hcm
  go_enter Try.func53, Try.ntmps53
  go_wp2_with fail
  go_loopw [3] (fun s3 wr => ∃ j : Nat, s3 = .int .i64 ((j : Int) + 1) ∧ j + 1 ≤ n ∧ Hid (C.dd (l.take (j + 1)) = l.take (j + 1)) ∧ Hid (Below w.heap.size w wr)) (fun s3 _ => n - (intOf s3).toNat)
  case atStart => exact ⟨0, rfl, by omega, C.dd_one _ (by simp; omega), Below.refl _ _⟩
  case round =>
    obtain ⟨j, rfl, hjn, HK, HB⟩ := hrel
    by_cases hlt : j + 1 < n
    · obtain ⟨x, hx⟩ : ∃ x, l[j + 1]? = some x := ⟨_, List.getElem?_eq_getElem (by have := HN.out; omega)⟩
      obtain ⟨y, hy⟩ : ∃ y, l[j]? = some y := ⟨_, List.getElem?_eq_getElem (by have := HN.out; omega)⟩
      have hne : Nonempty (NewW wr) := ⟨NewW.start wr⟩
      have a0 : ∀ m : NewW wr, m.v.cell? ⟨g, (j + 1) * 2, none⟩ = some (.int .i64 x.1) := fun m => ((HO.out.below (bt HB.out m.h)).cell (j + 1) x hx).1
      have a1 : ∀ m : NewW wr, m.v.cell? ⟨g, (j + 1) * 2 + 1, none⟩ = some (.int .i64 x.2) := fun m => ((HO.out.below (bt HB.out m.h)).cell (j + 1) x hx).2
      have b0 : ∀ m : NewW wr, m.v.cell? ⟨g, j * 2, none⟩ = some (.int .i64 y.1) := fun m => ((HO.out.below (bt HB.out m.h)).cell j y hy).1
      have b1 : ∀ m : NewW wr, m.v.cell? ⟨g, j * 2 + 1, none⟩ = some (.int .i64 y.2) := fun m => ((HO.out.below (bt HB.out m.h)).cell j y hy).2
      obtain ⟨qb, hqb⟩ : ∃ qb, qb = (x.1 == y.1 && x.2 == y.2) := ⟨_, rfl⟩
      have kq : ∀ W, (Op.equalIn 10000 29 (.agg #[.int .i64 x.1, .int .i64 x.2]) (.agg #[.int .i64 y.1, .int .i64 y.2])).run Try.prog W = .ok qb W := fun W => by rw [hqb]; exact eq2_dot x.1 x.2 y.1 y.2 W
      have HQ : Hid (qb = true ↔ x = y) := by
        show _ ↔ _
        rw [hqb]; simp [Prod.ext_iff]
      have HT : Hid (C.dd (l.take (j + 1 + 1)) = if x = y then C.dd (l.take (j + 1)) else C.dd (l.take (j + 1)) ++ [x]) := C.dd_take hx (by omega) hy
      have HX : Hid (l[j + 1]? = some x) := hx
      clear hqb hx hy
      cases qb with
      | false =>
        go_wp2_with fail
        refine wp_region_new (by kernel_rfl) (by kernel_rfl) ?_
        repeat (go_big_quiet_step (fail))
        refine wpQuiet_nil ?_
        rintro _ ⟨w2, rfl⟩
        go_wp2
        go_roundw
        case rel =>
          refine ⟨j + 1, by go_num, by omega, ?_, bt HB.out w2.h⟩
          show _ = _
          rw [HT.out, if_neg (fun e => by have := HQ.out.2 e; cases this), HK.out, ← C.take_snoc HX.out]
        case measure => simp [intOf]; omega
      | true =>
        have hc1 : ¬ (cap = j + 1) := by omega
        have hjl : j + 1 ≤ n := by omega
        have hjc : j + 1 ≤ cap := by omega
        go_wp2_with fail
        refine wp_region_new (by kernel_rfl) (by kernel_rfl) ?_
        repeat (go_big_quiet_step (fail))
        refine wpQuiet_nil ?_
        rintro _ ⟨w2, rfl⟩
        have HB2 : Hid (Below w.heap.size w w2.v) := bt HB.out w2.h
        have HT2 : Hid (C.dd (l.take (j + 1 + 1)) = l.take (j + 1)) := by show _ = _; rw [HT.out, if_pos (HQ.out.1 (by trivial)), HK.out]
        clear a0 a1 b0 b1 kq HT HX hne
        go_wp2_with fail
        go_loopw [3, 5] (fun s3 s5 wr => ∃ (k i : Nat) (M : List C.Dt), s3 = .int .i64 k ∧ s5 = .int .i64 ((i : Int) + 1) ∧ j + 1 + i + 1 ≤ n ∧ k ≤ j + 1 + i ∧ Hid (n = M.length) ∧ Hid (M.take k = C.dd (l.take (j + 1 + i + 1))) ∧ Hid (∀ t, j + 1 + i ≤ t → M[t]? = l[t]?) ∧ Hid (OwnD wr (.slice (some ⟨g, 0, none⟩) n cap) M) ∧ Hid (Turn w wr (fun b => b = g))) (fun _ s5 _ => n - (intOf s5).toNat)
        case atStart => exact ⟨j + 1, 0, l, by go_num, rfl, by omega, by omega, HN.out, by show _ = _; rw [HT2.out], fun t _ => rfl, HO.out.below HB2.out, Turn.of_below HB2.out⟩
        case round =>
          obtain ⟨k, i, M, rfl, rfl, hin, hki, HML, HMT, HMR, HOM, HTM⟩ := hrel
          clear HB2 HT2 HK
          have hkl : k ≤ n := by omega
          have hkc : k ≤ cap := by omega
          have hck : ¬ (cap = k) := by omega
          by_cases hlt2 : i + 1 < n - (j + 1)
          · obtain ⟨x', hx⟩ : ∃ x, M[j + 1 + (i + 1)]? = some x := ⟨_, List.getElem?_eq_getElem (by have := HML.out; omega)⟩
            obtain ⟨y', hy⟩ : ∃ y, M[j + 1 + i]? = some y := ⟨_, List.getElem?_eq_getElem (by have := HML.out; omega)⟩
            have hlx : l[j + 1 + i + 1]? = some x' := by rw [← HMR.out _ (by omega)]; exact hx
            have hly : l[j + 1 + i + 1 - 1]? = some y' := by rw [show j + 1 + i + 1 - 1 = j + 1 + i by omega, ← HMR.out _ (by omega)]; exact hy
            have HT3 : Hid (C.dd (l.take (j + 1 + i + 1 + 1)) = if x' = y' then C.dd (l.take (j + 1 + i + 1)) else C.dd (l.take (j + 1 + i + 1)) ++ [x']) := C.dd_take hlx (by omega) hly
            have hne : Nonempty (NewW wr) := ⟨NewW.start wr⟩
            have a0 : ∀ m : NewW wr, m.v.cell? ⟨g, (j + 1) * 2 + (i + 1) * 2, none⟩ = some (.int .i64 x'.1) := fun m => cell_eq ((HOM.out.below m.h).cell (j + 1 + (i + 1)) x' hx).1 (by omega)
            have a1 : ∀ m : NewW wr, m.v.cell? ⟨g, (j + 1) * 2 + (i + 1) * 2 + 1, none⟩ = some (.int .i64 x'.2) := fun m => cell_eq ((HOM.out.below m.h).cell (j + 1 + (i + 1)) x' hx).2 (by omega)
            have b0 : ∀ m : NewW wr, m.v.cell? ⟨g, (j + 1) * 2 + i * 2, none⟩ = some (.int .i64 y'.1) := fun m => cell_eq ((HOM.out.below m.h).cell (j + 1 + i) y' hy).1 (by omega)
            have b1 : ∀ m : NewW wr, m.v.cell? ⟨g, (j + 1) * 2 + i * 2 + 1, none⟩ = some (.int .i64 y'.2) := fun m => cell_eq ((HOM.out.below m.h).cell (j + 1 + i) y' hy).2 (by omega)
            obtain ⟨qb, hqb⟩ : ∃ qb, qb = (x'.1 == y'.1 && x'.2 == y'.2) := ⟨_, rfl⟩
            have kq : ∀ W, (Op.equalIn 10000 29 (.agg #[.int .i64 x'.1, .int .i64 x'.2]) (.agg #[.int .i64 y'.1, .int .i64 y'.2])).run Try.prog W = .ok qb W := fun W => by rw [hqb]; exact eq2_dot x'.1 x'.2 y'.1 y'.2 W
            have HQ3 : Hid (qb = true ↔ x' = y') := by
              show _ ↔ _
              rw [hqb]; simp [Prod.ext_iff]
            have HX3 : Hid (M[j + 1 + (i + 1)]? = some x') := hx
            clear hqb hx hy hlx hly
            cases qb with
            | true =>
              go_wp2_with fail
              refine wp_region_new (by kernel_rfl) (by kernel_rfl) ?_
              repeat (go_big_quiet_step (fail))
              refine wpQuiet_nil ?_
              rintro _ ⟨w3, rfl⟩
              go_wp2
              go_roundw
              case rel =>
                refine ⟨k, i + 1, M, rfl, by go_num, by omega, by omega, HML.out, ?_, fun t ht => HMR.out t (by omega), HOM.out.below w3.h, HTM.out.trans (Turn.of_below w3.h) fun x hx => Or.inl hx⟩
                show _ = _
                rw [HMT.out, show j + 1 + (i + 1) + 1 = j + 1 + i + 1 + 1 by omega, HT3.out, if_pos (HQ3.out.1 (by trivial))]
              case measure => simp [intOf]; omega
            | false =>
              go_wp2_with fail
              refine wp_region_new (by kernel_rfl) (by kernel_rfl) ?_
              repeat (go_big_quiet_step (fail))
              refine wpQuiet_nil ?_
              rintro _ ⟨w3, rfl⟩
              have d0 := a0 w3
              have d1 := a1 w3
              have HOM3 : Hid (OwnD w3.v (.slice (some ⟨g, 0, none⟩) n cap) M) := HOM.out.below w3.h
              obtain ⟨z, hz⟩ : ∃ z, M[k]? = some z := ⟨_, List.getElem?_eq_getElem (by have := HML.out; omega)⟩
              obtain ⟨e0, e1⟩ := HOM3.out.cell k z hz
              have f0 := ownD_free HOM3.out (k * 2)
              have f1 := ownD_free HOM3.out (k * 2 + 1)
              clear a0 a1 b0 b1 kq hne hz
              go_wp2
              go_roundw
              case rel =>
                refine ⟨k + 1, i + 1, M.set k x', by go_num, by go_num, by omega, by omega, by show _ = _; rw [List.length_set]; exact HML.out, ?_, fun t ht => ?_, OwnD.set HOM3.out HML.out k x', ?_⟩
                · show _ = _
                  rw [show j + 1 + (i + 1) + 1 = j + 1 + i + 1 + 1 by omega, HT3.out, if_neg (fun e => by have := HQ3.out.2 e; cases this), ← HMT.out]
                  have hk : (M.set k x')[k]? = some x' := by rw [List.getElem?_set_self (by have := HML.out; omega)]
                  rw [C.take_snoc hk, List.take_set_of_le (Nat.le_refl _)]
                · rw [List.getElem?_set_ne (by omega)]; exact HMR.out t (by omega)
                · exact ((HTM.out.trans (Turn.of_below w3.h) fun x hx => Or.inl hx).setCell rfl _).setCell rfl _
              case measure => simp [intOf]; omega
          · have hie : j + 1 + i + 1 = n := by omega
            have HE : Hid (M.take k = C.dd l) := by show _ = _; rw [HMT.out, List.take_of_length_le (by have := HN.out; omega)]
            have hkn : k < n := by omega
            have hML := HML.out
            rcases HOM.out.shape with ⟨h1, _⟩ | ⟨g', cap', cur, hv, hg, hnn, hm, hs, ht⟩
            · cases h1
            cases hv
            obtain ⟨X, hX⟩ : ∃ X, X = over cur (k * 2) (rowD (List.replicate (M.length - k) ((0, 0) : C.Dt))) := ⟨_, rfl⟩
            have lz : (rowD (List.replicate (M.length - k) ((0, 0) : C.Dt))).length = (M.length - k) * 2 := by rw [rowD_length, List.length_replicate]
            have hr : ∀ ty c', (Builtin.clear_ #[37] ty #[.slice (some ⟨g, k * 2, none⟩) (M.length - k) c']).run Try.prog wr = .ok (.tuple #[]) (wr.setRow g X.toArray) := fun ty c' => by
              rw [hX]
              exact run_clear_k u_dots zv_dot ty hg (by rw [zero_dots]) (rowD_one _) (by omega) (by omega)
            have hgX : (wr.setRow g X.toArray).heap[g]? = some (.cells X.toArray 29) := set_over hg
            have htk : X.take (k * 2) = rowD (M.take k) := by
              rw [hX, over, List.append_assoc, List.take_append_of_le_length (by rw [List.length_take]; omega), List.take_of_length_le (by rw [List.length_take]; omega), ← rowD_take M k (by omega), ← ht, List.take_take]
              congr 1; omega
            have lk : (M.take k).length = k := by rw [List.length_take]; omega
            have HF : Hid (OwnD (wr.setRow g X.toArray) (.slice (some ⟨g, 0, none⟩) k cap) (C.dd l)) := by
              have := OwnD.make (l := M.take k) (cap := cap) hgX (by omega) hm (by rw [hX, over_length _ _ _ (by omega)]; exact hs) (by rw [lk]; exact htk)
              rw [lk, HE.out] at this
              exact this
            have HLK : Hid (k = (C.dd l).length) := by show k = _; rw [← HE.out]; exact lk.symm
            have HTF : Hid (Turn w (wr.setRow g X.toArray) (fun b => b = g)) := HTM.out.trans (Turn.of_grown (row_grown wr g _) fun b hb => by cases hb; rfl) fun x hx => Or.inl hx
            have HR : Hid _ := hr
            clear hX lz hgX htk lk hg hs ht hnn hm hr HOM HMR HMT
            generalize M.length = nn at *
            have hr := HR.out
            go_wp2
            go_ret
            exact ⟨k, rfl, HLK.out, HF.out, HTF.out⟩
    · obtain rfl : n = j + 1 := by omega
      have hE : C.dd l = l := by
        have := HK.out
        rwa [List.take_of_length_le (by have := HN.out; omega)] at this
      have HE : Hid (C.dd l = l) := hE
      clear hE
      go_wp2
      go_ret
      exact ⟨_, rfl, by rw [HE.out]; exact HN.out, by rw [HE.out]; exact HO.out.below HB.out, Turn.of_below HB.out⟩
end Go.Proofs.Ytglmmhgmdhdleaa

namespace Go.Proofs.Ytglmmhgmdhdleaa
open Go.RowKit Go.Lib
set_option linter.unusedVariables false

theorem compact_any (v : Value) (l : List C.Dt) (w : World) (h : OwnD w v l) (hl : l.length ≤ 1000000) :
    Calls Try.prog 53 #[v] w fun e w' => ∃ v', e = .returned v' ∧ OwnD w' v' (C.dd l) ∧ v'.ownBlock = v.ownBlock ∧ Turn w w' (fun b => v.ownBlock = some b) := by
  by_cases h2 : 2 ≤ l.length
  · rcases h.shape with ⟨rfl, rfl⟩ | ⟨g, cap, cur, rfl, _⟩
    · simp at h2
    · refine (compact_some g cap l w h hl h2).mono ?_
      rintro e w' ⟨m, rfl, _, h3, h4⟩
      exact ⟨_, rfl, h3, rfl, h4.mono fun b hb => by rw [hb]; rfl⟩
  · have e : C.dd l = l := C.dd_one l (by omega)
    obtain ⟨q, c, hv⟩ := h.len
    rw [e]
    have HO : Hid (OwnD w v l) := h
    subst hv
    clear h e
    generalize l.length = n at *
    go_enter Try.func53, Try.ntmps53
    go_wp2
    go_ret
    exact ⟨_, rfl, HO.out, rfl, Turn.refl _ _⟩
def cells7 (c : V7) : Array Value := #[.int .i64 c.x0, .int .i64 c.x1, .int .i64 c.x2, .int .i64 c.x3, .int .i64 c.x4, .int .i64 c.x5, .int .i64 c.x6]
theorem get_cells7 (c : V7) {k : Nat} (h : k < 7) : (cells7 c)[k]? = some (.int .i64 (C.at7 c k)) := by
  rcases C.seven h with rfl | rfl | rfl | rfl | rfl | rfl | rfl <;> rfl
theorem set_cells7 (c : V7) {k : Nat} (h : k < 7) : (cells7 c).setIfInBounds k (.int .i64 (C.at7 c k + 1)) = cells7 (C.inc c k) := by
  rcases C.seven h with rfl | rfl | rfl | rfl | rfl | rfl | rfl <;> rfl
namespace C
theorem settle_has {c : V7} {l : List Dt} {k : Nat} {x : Dt} (hx : l[k]? = some x) (h : hasd c x = true) : settleL c (l.drop k) = settleL c (l.drop (k + 1)) := by
  obtain ⟨hk, rfl⟩ := List.getElem?_eq_some_iff.1 hx
  rw [List.drop_eq_getElem_cons hk, settleL, if_pos h]
theorem settle_next {c : V7} {l : List Dt} {k : Nat} {x : Dt} (hx : l[k]? = some x) (h : hasd c x = false) (h2 : nextd c x = true) : settleL c (l.drop k) = settleL (inc c x.1.toNat) (l.drop (k + 1)) := by
  obtain ⟨hk, rfl⟩ := List.getElem?_eq_some_iff.1 hx
  rw [List.drop_eq_getElem_cons hk, settleL, if_neg (by rw [h]; simp), if_pos h2]
theorem settle_loose {c : V7} {l : List Dt} {k : Nat} {x : Dt} (hx : l[k]? = some x) (h : hasd c x = false) (h2 : nextd c x = false) : settleL c (l.drop k) = ((settleL c (l.drop (k + 1))).1, x :: (settleL c (l.drop (k + 1))).2) := by
  obtain ⟨hk, rfl⟩ := List.getElem?_eq_some_iff.1 hx
  rw [List.drop_eq_getElem_cons hk, settleL, if_neg (by rw [h]; simp), if_neg (by rw [h2]; simp)]
end C
set_option maxRecDepth 100000 in
set_option maxHeartbeats 8000000 in
theorem settle_any (c : V7) (v : Value) (l : List C.Dt) (w : World) (h : OwnD w v l) (hl : l.length ≤ 1000000) (hg : C.good c = true) (hm : ∀ d ∈ l, C.may d = true) :
    Calls Try.prog 51 #[c.v, v] w fun e w' => (∃ v', e = .returned (.tuple #[(C.settleL c l).1.v, v']) ∧ OwnD w' v' (C.settleL c l).2 ∧ Fresh w v') ∧ Below w.heap.size w w' := by
  obtain ⟨q, cp, hv⟩ := h.len
  subst hv
  obtain ⟨n, hn⟩ : ∃ n, n = l.length := ⟨_, rfl⟩
  have HN : Hid (n = l.length) := hn
  have HO : Hid (OwnD w (.slice q n cp) l) := by show OwnD _ _ _; rw [hn]; exact h
  have HM : Hid (∀ d ∈ l, C.may d = true) := hm
  have HG : Hid (C.good c = true) := hg
  rw [← hn] at hl ⊢
  obtain ⟨R, hR⟩ : ∃ R, R = C.settleL c l := ⟨_, rfl⟩
  have HR : Hid (R = C.settleL c (l.drop 0)) := hR
  rw [← hR]
  have HB0 : Hid (Below w.heap.size w ((w.alloc (.cells (cells7 c) 43)).alloc (.cells (cells7 ⟨0, 0, 0, 0, 0, 0, 0⟩) 43))) := bt (below_new _ _) (below_new _ _)
  have HQ0 : Hid (((w.alloc (.cells (cells7 c) 43)).alloc (.cells (cells7 ⟨0, 0, 0, 0, 0, 0, 0⟩) 43)).heap[w.heap.size]? = some (.cells (cells7 c) 43)) := (two_boxes w _ _ (Below.refl _ _)).1
  have HQ1 : Hid (((w.alloc (.cells (cells7 c) 43)).alloc (.cells (cells7 ⟨0, 0, 0, 0, 0, 0, 0⟩) 43)).heap[w.heap.size + 1]? = some (.cells (cells7 ⟨0, 0, 0, 0, 0, 0, 0⟩) 43)) := (two_boxes w _ _ (Below.refl _ _)).2
  clear h hm hg hn hR
  have hcv : c.v = .agg (cells7 c) := rfl
  obtain ⟨x0, x1, x2, x3, x4, x5, x6⟩ := c
  simp only [cells7] at HB0 HQ0 HQ1
  rw [hcv]
  clear hcv
  simp only [cells7]
  go_enter Try.func51, Try.ntmps51
  go_wp2_with fail
  have hsz0 : ((w.alloc (.cells #[.int .i64 x0, .int .i64 x1, .int .i64 x2, .int .i64 x3, .int .i64 x4, .int .i64 x5, .int .i64 x6] 43)).alloc (.cells #[.int .i64 0, .int .i64 0, .int .i64 0, .int .i64 0, .int .i64 0, .int .i64 0, .int .i64 0] 43)).heap.size = w.heap.size + 2 := by simp
  have HSZ : Hid _ := hsz0
  clear hsz0
  generalize (w.alloc (.cells #[.int .i64 x0, .int .i64 x1, .int .i64 x2, .int .i64 x3, .int .i64 x4, .int .i64 x5, .int .i64 x6] 43)).alloc (.cells #[.int .i64 0, .int .i64 0, .int .i64 0, .int .i64 0, .int .i64 0, .int .i64 0, .int .i64 0] 43) = W0 at *
  go_loopw [6, 11] (fun s6 s11 wr => ∃ (k : Nat) (ck : V7) (lk : List C.Dt), s11 = .int .i64 k ∧ k ≤ n ∧ Hid (R = ((C.settleL ck (l.drop k)).1, lk ++ (C.settleL ck (l.drop k)).2)) ∧ Hid (C.good ck = true) ∧ Hid (lk.length ≤ k) ∧ Hid (OwnD wr s6 lk) ∧ Hid (Fresh W0 s6) ∧ Hid (wr.heap[w.heap.size]? = some (.cells (cells7 ck) 43)) ∧ Hid (Turn W0 wr (fun b => b = w.heap.size))) (fun _ s11 _ => n - (intOf s11).toNat)
  case atStart => exact ⟨0, _, [], rfl, Nat.zero_le _, by show R = _; rw [HR.out]; rfl, HG.out, Nat.le_refl _, OwnD.nil _, fun b hb => (by cases hb), HQ0.out, Turn.refl _ _⟩
  case round =>
    clear HR HG HQ0
    obtain ⟨k, ck, lk, rfl, hkn, HK, HC, HLK, HOK, HFK, HQ, HT⟩ := hrel
    have HOW : Hid (OwnD wr (.slice q n cp) l) := (HO.out.below HB0.out).same fun b hb => HT.out.block b (row_lt (HO.out.below HB0.out) hb) fun e => by have := row_lt HO.out hb; omega
    by_cases hlt : k < n
    · obtain ⟨x, hx⟩ : ∃ x, l[k]? = some x := ⟨_, List.getElem?_eq_getElem (by have := HN.out; omega)⟩
      have hmx := (C.may_iff x).1 (HM.out x (List.mem_of_getElem? hx))
      obtain ⟨gb, cap, hvs⟩ := OwnD.at HOW.out (by have := HN.out; omega)
      cases hvs
      obtain ⟨a0, a1⟩ := OwnD.cell HOW.out k x hx
      have HX : Hid (l[k]? = some x) := hx
      clear hx
      have hga := C.good_at7 HC.out x.1.toNat
      obtain ⟨hs, hhs⟩ : ∃ hs, C.hasd ck x = hs := ⟨_, rfl⟩
      obtain ⟨nx, hnx⟩ : ∃ nx, C.nextd ck x = nx := ⟨_, rfl⟩
      have HHS : Hid (C.hasd ck x = hs) := hhs
      have HNX : Hid (C.nextd ck x = nx) := hnx
      obtain ⟨d1, d2⟩ := x
      simp only at a0 a1 hmx hga
      have HH : Hid (∀ W, Calls Try.prog 29 #[ck.v, .agg #[.int .i64 d1, .int .i64 d2]] W fun e w' => e = .returned (.bool hs) ∧ Below W.heap.size W w') := fun W => has_at hhs W
      have HI : Hid (∀ W, Calls Try.prog 31 #[ck.v, .agg #[.int .i64 d1, .int .i64 d2]] W fun e w' => e = .returned (.bool nx) ∧ Below W.heap.size W w') := fun W => isnext_any ck d1 d2 nx W hmx.1 hmx.2.1 (by omega) hnx
      clear hhs hnx
      obtain ⟨W1, hW1⟩ : ∃ W1, W1 = wr.alloc (.cells #[.int .i64 d1, .int .i64 d2] 29) := ⟨_, rfl⟩
      have HB1 : Hid (Below wr.heap.size wr W1) := by show Below _ _ _; rw [hW1]; exact below_new _ _
      have HD1 : Hid (W1.heap[wr.heap.size]? = some (.cells #[.int .i64 d1, .int .i64 d2] 29)) := by show _ = _; rw [hW1]; exact heap_alloc_new _ _
      have q1 := keep_on HB1.out HQ.out
      obtain ⟨y0, y1, y2, y3, y4, y5, y6⟩ := ck
      obtain ⟨b0, b1, b2, b3, b4, b5, b6⟩ := box7 q1
      obtain ⟨z0, z1⟩ := box2 HD1.out
      have HQ1' : Hid _ := q1
      clear q1
      rw [hW1] at b0 b1 b2 b3 b4 b5 b6 z0 z1
      simp only [V7.v] at HH HI
      go_wp2_with fail
      rw [← hW1]
      clear a0 a1
      refine (HH.out _).mono ?_
      rintro e w2 ⟨rfl, hb2⟩
      have HB2 : Hid (Below wr.heap.size wr w2) := bt HB1.out hb2
      have HD2 : Hid (w2.heap[wr.heap.size]? = some (.cells #[.int .i64 d1, .int .i64 d2] 29)) := keep_on hb2 HD1.out
      have HQ2 : Hid _ := keep_on HB2.out HQ.out
      clear hb2 b0 b1 b2 b3 b4 b5 b6 z0 z1 HB1 HD1 HQ1' hW1
      cases hs with
      | true =>
        go_wp2
        go_roundw
        case rel =>
          exact ⟨k + 1, _, lk, by go_num, by omega, by show R = _; rw [HK.out, C.settle_has HX.out HHS.out], HC.out, Nat.le_succ_of_le HLK.out, HOK.out.below HB2.out, HFK.out, HQ2.out, HT.out.trans (Turn.of_below HB2.out) fun x hx => Or.inl hx⟩
        case measure => simp [intOf]; omega
      | false =>
        obtain ⟨b0, b1, b2, b3, b4, b5, b6⟩ := box7 HQ2.out
        obtain ⟨z0, z1⟩ := box2 HD2.out
        go_wp2_with fail
        refine (HI.out _).mono ?_
        rintro e w3 ⟨rfl, hb3⟩
        have HB3 : Hid (Below wr.heap.size wr w3) := bt HB2.out hb3
        have HD3 : Hid (w3.heap[wr.heap.size]? = some (.cells #[.int .i64 d1, .int .i64 d2] 29)) := keep_on hb3 HD2.out
        have HQ3 : Hid (w3.heap[w.heap.size]? = some (.cells (cells7 ⟨y0, y1, y2, y3, y4, y5, y6⟩) 43)) := keep_on HB3.out HQ.out
        clear hb3 b0 b1 b2 b3 b4 b5 b6 z0 z1 HB2 HD2 HQ2
        obtain ⟨z0, z1⟩ := box2 HD3.out
        cases nx with
        | true =>
          have hr7 : d1.toNat < 7 := by omega
          have hrx : d1 = (d1.toNat : Nat) := by omega
          have HX2 : Hid (C.settleL ⟨y0, y1, y2, y3, y4, y5, y6⟩ (l.drop k) = C.settleL (C.inc ⟨y0, y1, y2, y3, y4, y5, y6⟩ d1.toNat) (l.drop (k + 1))) := C.settle_next HX.out HHS.out HNX.out
          have HC2 : Hid (C.good (C.inc ⟨y0, y1, y2, y3, y4, y5, y6⟩ d1.toNat) = true) := C.good_inc HC.out hr7 (by have h1 := (C.nextd_iff _ _).1 HNX.out; have h2 := hmx.2.2.2; simp only at h1; omega)
          clear HX HHS HNX HH HI
          generalize d1.toNat = r at *
          subst hrx
          obtain ⟨y, hy⟩ : ∃ y, C.at7 ⟨y0, y1, y2, y3, y4, y5, y6⟩ r = y := ⟨_, rfl⟩
          rw [hy] at hga
          have cr : w3.cell? ⟨w.heap.size, r, none⟩ = some (.int .i64 y) := by rw [box_cells HQ3.out r, get_cells7 _ hr7, hy]
          have fr : w3.frozen? ⟨w.heap.size, r, none⟩ = false := by simp [World.frozen?, HQ3.out]
          have hr7' : (r : Int) < 7 := by omega
          have HY : Hid (C.at7 ⟨y0, y1, y2, y3, y4, y5, y6⟩ r = y) := hy
          clear hy
          go_wp2
          go_roundw
          case rel =>
            refine ⟨k + 1, _, lk, by go_num, by omega, by show R = _; rw [HK.out, HX2.out], HC2.out, Nat.le_succ_of_le HLK.out, ?_, HFK.out, ?_, ?_⟩
            · exact (HOK.out.below HB3.out).same fun b hb => set_other fun e => by have h1 := HFK.out b hb; have h2 := HSZ.out; omega
            · show _ = _
              rw [← HY.out, ← set_cells7 _ hr7]; exact set_block HQ3.out
            · exact (HT.out.trans (Turn.of_below HB3.out) fun x hx => Or.inl hx).setCell rfl _
          case measure => simp [intOf]; omega
        | false =>
          have HX2 : Hid (C.settleL ⟨y0, y1, y2, y3, y4, y5, y6⟩ (l.drop k) = ((C.settleL ⟨y0, y1, y2, y3, y4, y5, y6⟩ (l.drop (k + 1))).1, (d1, d2) :: (C.settleL ⟨y0, y1, y2, y3, y4, y5, y6⟩ (l.drop (k + 1))).2)) := C.settle_loose HX.out HHS.out HNX.out
          clear HX HHS HNX HH HI
          go_wp2_with (at_builtin; go_must (refine wpList_append_src u_dots info_dot rfl (by decide) rfl _ _ rfl rfl ((HOK.out.below HB3.out).below (below_new w3 _)) rfl (two_src (heap_alloc_new w3 (.cells #[.int .i64 d1, .int .i64 d2] 29))) two_mem (by have := HLK.out; unfold maxLen; omega) (by have := HLK.out; omega) ?_); intro v4 w4 ho4 hg4 hb4)
          have HO4 : Hid (OwnD w4 v4 (lk ++ [(d1, d2)])) := by show OwnD _ _ _; unfold OwnD; rw [← rowD_append]; simpa using ho4
          have hB3 := HB3.out.size
          have hTS := HT.out.size
          have HF4 : Hid (Fresh W0 v4) := fun b hb => by
            rcases hb4 with h | h
            · exact HFK.out b (h.symm.trans hb)
            · rw [h] at hb; cases hb; simp only [World.size_alloc]; omega
          have HT4 : Hid (Turn W0 w4 (fun b => b = w.heap.size)) := by
            have t1 := HT.out.trans (Turn.of_below (S := fun b => b = w.heap.size) HB3.out) fun x hx => Or.inl hx
            have t2 := t1.alloc (.cells #[.int .i64 d1, .int .i64 d2] 29)
            exact t2.trans (Turn.of_grown (S := fun b => u6.ownBlock = some b) hg4 fun b hb => hb) fun x hx => Or.inr (HFK.out x hx)
          have HQ4 : Hid (w4.heap[w.heap.size]? = some (.cells (cells7 ⟨y0, y1, y2, y3, y4, y5, y6⟩) 43)) := by
            show _ = _
            have h1 := keep_on (below_new w3 (.cells #[.int .i64 d1, .int .i64 d2] 29)) HQ3.out
            rw [hg4.block _ (Array.getElem?_eq_some_iff.1 h1).1 (fun e => by have h2 := HFK.out w.heap.size e.symm; have h3 := HSZ.out; omega)]
            exact h1
          clear ho4 hg4 hb4 hB3 hTS
          go_wp2
          go_roundw
          case rel =>
            refine ⟨k + 1, _, lk ++ [(d1, d2)], by go_num, by omega, ?_, HC.out, by have := HLK.out; show _ ≤ _; simp; omega, HO4.out, HF4.out, HQ4.out, HT4.out⟩
            show R = _
            rw [HK.out, HX2.out]; simp
          case measure => simp [intOf]; omega
    · obtain rfl : k = n := by omega
      have HE : Hid (R = (ck, lk)) := by
        show R = _
        rw [HK.out, List.drop_eq_nil_of_le (by rw [← HN.out]; exact Nat.le_refl _)]
        simp [C.settleL]
      have HQz : Hid (wr.heap[w.heap.size + 1]? = some (.cells (cells7 ⟨0, 0, 0, 0, 0, 0, 0⟩) 43)) := by
        show _ = _
        rw [HT.out.block _ (Array.getElem?_eq_some_iff.1 HQ1.out).1 (by omega)]; exact HQ1.out
      obtain ⟨y0, y1, y2, y3, y4, y5, y6⟩ := ck
      obtain ⟨b0, b1, b2, b3, b4, b5, b6⟩ := box7 HQ.out
      obtain ⟨z0, z1, z2, z3, z4, z5, z6⟩ := box7 HQz.out
      obtain ⟨f0, f1, f2, f3, f4, f5, f6⟩ : wr.frozen? ⟨w.heap.size + 1, 0, none⟩ = false ∧ wr.frozen? ⟨w.heap.size + 1, 1, none⟩ = false ∧ wr.frozen? ⟨w.heap.size + 1, 2, none⟩ = false ∧ wr.frozen? ⟨w.heap.size + 1, 3, none⟩ = false ∧ wr.frozen? ⟨w.heap.size + 1, 4, none⟩ = false ∧ wr.frozen? ⟨w.heap.size + 1, 5, none⟩ = false ∧ wr.frozen? ⟨w.heap.size + 1, 6, none⟩ = false := by simp [World.frozen?, HQz.out]
      go_wp2
      generalize hW : World.setCell _ _ _ = W5
      have hq : W5.heap[w.heap.size + 1]? = some (.cells (cells7 ⟨y0, y1, y2, y3, y4, y5, y6⟩) 43) := by
        rw [← hW]
        exact (set_block (set_block (set_block (set_block (set_block (set_block (set_block HQz.out)))))))
      have HT5 : Turn W0 W5 (fun b => b = w.heap.size ∨ b = w.heap.size + 1) := by
        rw [← hW]
        iterate 7 refine Turn.setCell (b := w.heap.size + 1) ?_ (Or.inr rfl) _
        exact HT.out.mono fun b hb => Or.inl hb
      have HO5 : OwnD W5 u6 lk := HOK.out.same fun b hb => by
        have h1 := HFK.out b hb
        have h2 := HSZ.out
        have hne : b ≠ w.heap.size + 1 := by omega
        rw [← hW, set_other hne, set_other hne, set_other hne, set_other hne, set_other hne, set_other hne, set_other hne]
      have hB5 : Below w.heap.size w W5 := HB0.out.trans (HT5.below HB0.out.size fun b hb => by omega)
      obtain ⟨c0, c1, c2, c3, c4, c5, c6⟩ := box7 hq
      clear hW b0 b1 b2 b3 b4 b5 b6 z0 z1 z2 z3 z4 z5 z6 f0 f1 f2 f3 f4 f5 f6
      refine bodyPost_ret (v := .tuple #[.agg #[.int .i64 y0, .int .i64 y1, .int .i64 y2, .int .i64 y3, .int .i64 y4, .int .i64 y5, .int .i64 y6], u6]) (by simp [results, Try.results51, go_sem, c0, c1, c2, c3, c4, c5, c6]) rfl ⟨⟨u6, ?_, ?_, fun b hb => ?_⟩, hB5⟩
      · rw [HE.out]; rfl
      · rw [HE.out]; exact HO5
      · have := HFK.out b hb; have := HB0.out.size; omega
end Go.Proofs.Ytglmmhgmdhdleaa

namespace Go.Proofs.Ytglmmhgmdhdleaa
open Go.RowKit Go.Lib
set_option linter.unusedVariables false

theorem RDAt.apart {w : World} {g : Nat} {c : V7} {v : Value} {l : List C.Dt} (h : RDAt w g c v l) : v.ownBlock ≠ some g := fun e => by
  obtain ⟨cur, hc⟩ := row_type h.row e
  have := h.blk
  rw [hc] at this
  simp at this
set_option maxRecDepth 100000 in
set_option maxHeartbeats 8000000 in
theorem rclose_any (w : World) (g : Nat) (c : V7) (v : Value) (l : List C.Dt) (h : RDAt w g c v l) (hl : l.length ≤ 100000) (hg : C.good c = true) (hm : ∀ d ∈ l, C.may d = true) :
    Calls Try.prog 44 #[.pointer (some ⟨g, 0, none⟩)] w fun e w' => e = .returned (.tuple #[]) ∧ (∃ v', RDAt w' g (C.settleL c l).1 v' (C.settleL c l).2 ∧ Fresh w v') ∧ Turn w w' (fun b => b = g) := by
  obtain ⟨q, cp, hv⟩ := h.row.len
  subst hv
  obtain ⟨n, hn⟩ : ∃ n, n = l.length := ⟨_, rfl⟩
  have HN : Hid (n = l.length) := hn
  have HO : Hid (RDAt w g c (.slice q n cp) l) := by show RDAt _ _ _ _ _; rw [hn]; exact h
  have HM : Hid (∀ d ∈ l, C.may d = true) := hm
  have HG : Hid (C.good c = true) := hg
  rw [← hn] at hl
  obtain ⟨R, hR⟩ : ∃ R, R = C.settleL c l := ⟨_, rfl⟩
  have HR : Hid (R = C.settleL c (l.drop 0)) := hR
  rw [← hR]
  clear h hm hg hn hR
  go_enter Try.func44, Try.ntmps44
  go_wp2_with fail
  go_loopw [2, 3] (fun s2 s3 wr => ∃ (k : Nat) (ck : V7) (lk : List C.Dt), s3 = .int .i64 k ∧ k ≤ n ∧ Hid (R = ((C.settleL ck (l.drop k)).1, lk ++ (C.settleL ck (l.drop k)).2)) ∧ Hid (C.good ck = true) ∧ Hid (lk.length ≤ k) ∧ Hid (OwnD wr s2 lk) ∧ Hid (Fresh w s2) ∧ Hid (RDAt wr g ck (.slice q n cp) l) ∧ Hid (Turn w wr (fun b => b = g))) (fun _ s3 _ => n - (intOf s3).toNat)
  case atStart => exact ⟨0, _, [], rfl, Nat.zero_le _, by show R = _; rw [HR.out]; rfl, HG.out, Nat.le_refl _, OwnD.nil _, fun b hb => (by cases hb), HO.out, Turn.refl _ _⟩
  case round =>
    clear HR HG
    obtain ⟨k, ck, lk, rfl, hkn, HK, HC, HLK, HOK, HFK, HOW, HT⟩ := hrel
    have hng : g < w.heap.size := (Array.getElem?_eq_some_iff.1 HO.out.blk).1
    have HNG : Hid (g < w.heap.size) := hng
    have y7 : wr.cell? ⟨g, 7, none⟩ = some (.slice q n cp) := (held8 HOW.out.blk (Below.refl _ _) 7).1
    by_cases hlt : k < n
    · obtain ⟨x, hx⟩ : ∃ x, l[k]? = some x := ⟨_, List.getElem?_eq_getElem (by have := HN.out; omega)⟩
      have hmx := (C.may_iff x).1 (HM.out x (List.mem_of_getElem? hx))
      obtain ⟨gb, cap, hvs⟩ := HOW.out.row.at (by have := HN.out; omega)
      rw [← HN.out] at hvs
      cases hvs
      obtain ⟨a0, a1⟩ := OwnD.cell HOW.out.row k x hx
      have HX : Hid (l[k]? = some x) := hx
      clear hx
      have hga := C.good_at7 HC.out x.1.toNat
      obtain ⟨hs, hhs⟩ : ∃ hs, C.hasd ck x = hs := ⟨_, rfl⟩
      obtain ⟨nx, hnx⟩ : ∃ nx, C.nextd ck x = nx := ⟨_, rfl⟩
      have HHS : Hid (C.hasd ck x = hs) := hhs
      have HNX : Hid (C.nextd ck x = nx) := hnx
      clear hhs hnx
      obtain ⟨d1, d2⟩ := x
      simp only at a0 a1 hmx hga
      have hr7 : d1.toNat < 7 := by omega
      have hrx : d1 = (d1.toNat : Nat) := by omega
      have HXN : Hid (C.hasd ck (d1, d2) = false → C.nextd ck (d1, d2) = true → C.settleL ck (l.drop k) = C.settleL (C.inc ck d1.toNat) (l.drop (k + 1))) := fun h1 h2 => C.settle_next HX.out h1 h2
      have HXH : Hid (C.hasd ck (d1, d2) = true → C.settleL ck (l.drop k) = C.settleL ck (l.drop (k + 1))) := fun h1 => C.settle_has HX.out h1
      have HXL : Hid (C.hasd ck (d1, d2) = false → C.nextd ck (d1, d2) = false → C.settleL ck (l.drop k) = ((C.settleL ck (l.drop (k + 1))).1, (d1, d2) :: (C.settleL ck (l.drop (k + 1))).2)) := fun h1 h2 => C.settle_loose HX.out h1 h2
      have HC2 : Hid (C.nextd ck (d1, d2) = true → C.good (C.inc ck d1.toNat) = true) := fun h1 => C.good_inc HC.out hr7 (by have h1 := (C.nextd_iff _ _).1 h1; have h2 := hmx.2.2.2; simp only at h1; omega)
      have hhas : hs = true ↔ d2 ≤ C.at7 ck d1.toNat := by
        rw [← HHS.out, C.hasd_iff]; simp only; omega
      have hnxt : nx = true ↔ d2 = C.at7 ck d1.toNat + 1 := by
        rw [← HNX.out, C.nextd_iff]
      clear HX
      generalize d1.toNat = r at *
      subst hrx
      obtain ⟨y, hy⟩ : ∃ y, C.at7 ck r = y := ⟨_, rfl⟩
      rw [hy] at hga hhas hnxt
      have HY : Hid (C.at7 ck r = y) := hy
      have hr7' : (r : Int) < 7 := by omega
      obtain ⟨W1, hW1⟩ : ∃ W1, W1 = wr.alloc (.cells #[.int .i64 r, .int .i64 d2] 29) := ⟨_, rfl⟩
      have HB1 : Hid (Below wr.heap.size wr W1) := by show Below _ _ _; rw [hW1]; exact below_new _ _
      have HQ1 : Hid (W1.heap[wr.heap.size]? = some (.cells #[.int .i64 r, .int .i64 d2] 29)) := by show _ = _; rw [hW1]; exact heap_alloc_new _ _
      have hne : Nonempty (NewW W1) := ⟨NewW.start W1⟩
      go_wp2_with fail
      rw [← hW1]
      clear hW1 a0 a1
      have cr : ∀ m : NewW W1, m.v.cell? ⟨g, r, none⟩ = some (.int .i64 y) := fun m => by rw [(held8 ((HOW.out.below HB1.out).below m.h).blk (Below.refl _ _) r).1, get_cells8 _ _ hr7, hy]
      have z0 : ∀ m : NewW W1, m.v.cell? ⟨wr.heap.size, 0, none⟩ = some (.int .i64 r) := fun m => (box2 (keep_on m.h HQ1.out)).1
      have z1 : ∀ m : NewW W1, m.v.cell? ⟨wr.heap.size, 1, none⟩ = some (.int .i64 d2) := fun m => (box2 (keep_on m.h HQ1.out)).2
      clear hy
      cases nx with
      | true =>
        obtain rfl : d2 = y + 1 := hnxt.1 rfl
        have hsf : hs = false := by
          cases hs with
          | true => have := hhas.1 rfl; omega
          | false => rfl
        subst hsf
        clear hhas hnxt
        refine wp_region_new (by kernel_rfl) (by kernel_rfl) ?_
        repeat (go_big_quiet_step ((with_reducible rfl)))
        refine wpQuiet_nil ?_
        rintro _ ⟨w2, rfl⟩
        have HB2 : Hid (Below wr.heap.size wr w2.v) := bt HB1.out w2.h
        have HD2 : Hid (RDAt w2.v g ck (.slice (some ⟨gb, 0, none⟩) n cp) l) := HOW.out.below HB2.out
        have cr2 := cr w2
        have fr2 : w2.v.frozen? ⟨g, r, none⟩ = false := (held8 HD2.out.blk (Below.refl _ _) r).2
        have z02 := z0 w2
        have z12 := z1 w2
        clear cr z0 z1 hne y7
        go_wp2_with fail
        go_region
        all_goals
          go_wp2
          go_roundw
          case rel =>
            refine ⟨k + 1, C.inc ck r, lk, by go_num, by omega, by show R = _; rw [HK.out, HXN.out HHS.out HNX.out], HC2.out HNX.out, Nat.le_succ_of_le HLK.out, ?_, HFK.out, ⟨?_, ?_⟩, ?_⟩
            · exact (HOK.out.below HB2.out).same fun b hb => set_other fun e => by have h1 := HFK.out b hb; have h2 := HNG.out; omega
            · rw [← HY.out, ← set_cells8 _ _ hr7]; exact set_block HD2.out.blk
            · exact HD2.out.row.same fun b hv => set_other fun e => by subst e; exact HD2.out.apart hv
            · exact ((HT.out.trans (Turn.of_below HB2.out) fun x hx => Or.inl hx).drew).setCell rfl _
          case measure => simp [intOf]; omega
      | false =>
        have hb : (d2 == y + 1) = false := by
          rw [beq_eq_false_iff_ne]
          intro e
          have := hnxt.2 e
          cases this
        cases hs with
        | true =>
          have hle : d2 ≤ y := hhas.1 rfl
          have hgt : decide (y < d2) = false := by simp; omega
          clear hhas hnxt
          refine wp_region_new (by kernel_rfl) (by kernel_rfl) ?_
          repeat (go_big_quiet_step ((with_reducible rfl)))
          refine wpQuiet_nil ?_
          rintro _ ⟨w2, rfl⟩
          go_wp2_with fail
          refine wp_region_more (n := w2) (by kernel_rfl) (by kernel_rfl) ?_
          repeat (go_big_quiet_step ((with_reducible rfl)))
          refine wpQuiet_nil ?_
          rintro _ ⟨w3, rfl⟩
          have HB3 : Hid (Below wr.heap.size wr w3.v) := bt HB1.out w3.h
          clear cr z0 z1 hne y7
          go_wp2
          go_roundw
          case rel =>
            exact ⟨k + 1, ck, lk, by go_num, by omega, by show R = _; rw [HK.out, HXH.out HHS.out], HC.out, Nat.le_succ_of_le HLK.out, HOK.out.below HB3.out, HFK.out, HOW.out.below HB3.out, HT.out.trans (Turn.of_below HB3.out) fun x hx => Or.inl hx⟩
          case measure => simp [intOf]; omega
        | false =>
          have hgt : decide (y < d2) = true := by
            have : ¬ d2 ≤ y := fun e => by have := hhas.2 e; cases this
            simp; omega
          clear hhas hnxt
          refine wp_region_new (by kernel_rfl) (by kernel_rfl) ?_
          repeat (go_big_quiet_step ((with_reducible rfl)))
          refine wpQuiet_nil ?_
          rintro _ ⟨w2, rfl⟩
          go_wp2_with fail
          refine wp_region_more (n := w2) (by kernel_rfl) (by kernel_rfl) ?_
          repeat (go_big_quiet_step ((with_reducible rfl)))
          refine wpQuiet_nil ?_
          rintro _ ⟨wq, rfl⟩
          have HB3 : Hid (Below wr.heap.size wr wq.v) := bt HB1.out wq.h
          have z02 := z0 wq
          have z12 := z1 wq
          obtain ⟨w3, hw3⟩ : ∃ w3, wq.v = w3 := ⟨_, rfl⟩
          rw [hw3] at HB3 z02 z12 ⊢
          clear hw3 cr z0 z1 hne y7
          go_wp2_with (at_builtin; go_must (refine wpList_append_src u_dots info_dot rfl (by decide) rfl _ _ rfl rfl ((HOK.out.below HB3.out).below (below_new w3 _)) rfl (two_src (heap_alloc_new w3 (.cells #[.int .i64 r, .int .i64 d2] 29))) two_mem (by have := HLK.out; unfold maxLen; omega) (by have := HLK.out; omega) ?_); intro v4 w4 ho4 hg4 hb4)
          have HO4 : Hid (OwnD w4 v4 (lk ++ [((r : Int), d2)])) := by show OwnD _ _ _; unfold OwnD; rw [← rowD_append]; simpa using ho4
          have hB3 := HB3.out.size
          have hTS := HT.out.size
          have HF4 : Hid (Fresh w v4) := fun b hb => by
            rcases hb4 with h | h
            · exact HFK.out b (h.symm.trans hb)
            · rw [h] at hb; cases hb; simp only [World.size_alloc]; omega
          have HT4 : Hid (Turn w w4 (fun b => b = g)) := by
            have t1 := HT.out.trans (Turn.of_below (S := fun b => b = g) HB3.out) fun x hx => Or.inl hx
            have t2 := t1.alloc (.cells #[.int .i64 r, .int .i64 d2] 29)
            exact t2.trans (Turn.of_grown (S := fun b => u2.ownBlock = some b) hg4 fun b hb => hb) fun x hx => Or.inr (HFK.out x hx)
          have HD4 : Hid (RDAt w4 g ck (.slice (some ⟨gb, 0, none⟩) n cp) l) := by
            have h1 := (HOW.out.below HB3.out).below (below_new w3 (.cells #[.int .i64 r, .int .i64 d2] 29))
            refine h1.same fun b hf => hg4.block b (h1.lt hf) fun e => ?_
            have h2 := HFK.out b e.symm
            have h3 := HO.out.lt hf
            omega
          clear ho4 hg4 hb4 hB3 hTS
          go_wp2
          go_roundw
          case rel =>
            refine ⟨k + 1, ck, lk ++ [((r : Int), d2)], by go_num, by omega, ?_, HC.out, by have := HLK.out; show _ ≤ _; simp; omega, HO4.out, HF4.out, HD4.out, HT4.out⟩
            show R = _
            rw [HK.out, HXL.out HHS.out HNX.out]; simp
          case measure => simp [intOf]; omega
    · obtain rfl : k = n := by omega
      have HE : Hid (R = (ck, lk)) := by
        show R = _
        rw [HK.out, List.drop_eq_nil_of_le (by rw [← HN.out]; exact Nat.le_refl _)]
        simp [C.settleL]
      obtain ⟨q2, n2, c2, e2⟩ := HOK.out.slice
      subst e2
      have f7 : wr.frozen? ⟨g, 7, none⟩ = false := (held8 HOW.out.blk (Below.refl _ _) 7).2
      go_wp2
      go_end0
      refine ⟨rfl, ⟨.slice q2 n2 c2, ?_, HFK.out⟩, HT.out.setCell rfl _⟩
      rw [HE.out]
      refine ⟨?_, HOK.out.same fun b hb => set_other fun e => by have h1 := HFK.out b hb; have h2 := HNG.out; omega⟩
      exact set_block HOW.out.blk
end Go.Proofs.Ytglmmhgmdhdleaa

namespace Go.Proofs.Ytglmmhgmdhdleaa
open Go.RowKit Go.Lib
set_option linter.unusedVariables false

/-- What an Add of the document's own leaves. -/
def RAddRet (w : World) (g : Nat) (v : Value) (s' : C.Ds) (w' : World) : Prop := (∃ v', RDAt w' g s'.c v' s'.l ∧ (v' = v ∨ Fresh w v')) ∧ Turn w w' (fun b => b = g)
set_option maxRecDepth 100000 in
set_option maxHeartbeats 4000000 in
theorem radd_no (w : World) (g : Nat) (d1 d2 : Int) (hm : C.may (d1, d2) = false) :
    Calls Try.prog 17 #[.pointer (some ⟨g, 0, none⟩), .agg #[.int .i64 d1, .int .i64 d2]] w fun e w' => e = .returned (.tuple #[.bool false, .int .i64 1]) ∧ Below w.heap.size w w' := by
  have HM : Hid (∀ W, Calls Try.prog 42 #[.agg #[.int .i64 d1, .int .i64 d2]] W fun e w' => e = .returned (.bool false) ∧ Below W.heap.size W w') := fun W => by rw [← hm]; exact rmay_any d1 d2 W
  clear hm
  go_enter Try.func17, Try.ntmps17
  go_wp2_with fail
  refine (HM.out _).mono ?_
  rintro e w1 ⟨rfl, hb⟩
  have HB : Hid (Below w.heap.size w w1) := bt (below_new w _) hb
  clear hb
  go_wp2
  go_ret2
  exact ⟨rfl, HB.out⟩
set_option maxRecDepth 100000 in
set_option maxHeartbeats 4000000 in
theorem radd_there (w : World) (g : Nat) (s : C.Ds) (v : Value) (d1 d2 : Int) (h : RDAt w g s.c v s.l) (hl : s.l.length ≤ 1000000) (hm : C.may (d1, d2) = true) (hn : C.mem s (d1, d2) = true) :
    Calls Try.prog 17 #[.pointer (some ⟨g, 0, none⟩), .agg #[.int .i64 d1, .int .i64 d2]] w fun e w' => e = .returned (.tuple #[.bool false, .int .i64 0]) ∧ Below w.heap.size w w' := by
  have HM : Hid (∀ W, Calls Try.prog 42 #[.agg #[.int .i64 d1, .int .i64 d2]] W fun e w' => e = .returned (.bool true) ∧ Below W.heap.size W w') := fun W => by rw [← hm]; exact rmay_any d1 d2 W
  have HH : Hid (∀ W, Below w.heap.size w W → Calls Try.prog 23 #[.pointer (some ⟨g, 0, none⟩), .agg #[.int .i64 d1, .int .i64 d2]] W fun e w' => e = .returned (.bool true) ∧ Below W.heap.size W w') := fun W hW => rhas_obj W g s.c v s.l d1 d2 true (h.below hW) hl hn
  clear h hm hn
  go_enter Try.func17, Try.ntmps17
  go_wp2_with fail
  refine (HM.out _).mono ?_
  rintro e w1 ⟨rfl, hb⟩
  have q1 := keep_on hb (heap_alloc_new w (.cells #[.int .i64 d1, .int .i64 d2] 29))
  have HB : Hid (Below w.heap.size w w1) := bt (below_new w _) hb
  obtain ⟨z0, z1⟩ := box2 q1
  clear hb q1
  go_wp2_with fail
  refine (HH.out _ HB.out).mono ?_
  rintro e w2 ⟨rfl, hb⟩
  have HB2 : Hid (Below w.heap.size w w2) := bt HB.out hb
  clear hb z0 z1
  go_wp2
  go_ret2
  exact ⟨rfl, HB2.out⟩
theorem cells8_seven (c : V7) (v : Value) : (cells8 c v)[7]? = some v := rfl
/-- Behind insert: the object as it was, the new row beside it. -/
def RIn (w : World) (g : Nat) (c : V7) (v : Value) (l l' : List C.Dt) (v' : Value) (w5 : World) : Prop := Below w.heap.size w w5 ∧ RDAt w5 g c v l ∧ OwnD w5 v' l' ∧ v'.ownBlock ≠ some g ∧ (v' = v ∨ Fresh w v')
theorem rin_of {w w5 : World} {g : Nat} {c : V7} {v v' : Value} {l l' : List C.Dt} (h : RDAt w g c v l) (hb : Below w.heap.size w w5) (h1 : OwnD w5 v' l') (h2 : v' = v ∨ ∀ b, v'.ownBlock = some b → w.heap.size ≤ b) : RIn w g c v l l' v' w5 := by
  refine ⟨hb, h.below hb, h1, fun e => ?_, h2⟩
  rcases h2 with rfl | h2
  · exact h.apart e
  · have h3 := h2 g e
    have h4 := (Array.getElem?_eq_some_iff.1 h.blk).1
    omega
theorem rin_set {w w5 : World} {g : Nat} {c : V7} {v v' : Value} {l l' : List C.Dt} (h : RIn w g c v l l' v' w5) : RDAt (w5.setCell ⟨g, 7, none⟩ v') g c v' l' := by
  obtain ⟨_, h2, h3, h4, _⟩ := h
  exact ⟨set_block h2.blk, h3.same fun b hb => set_other fun e => h4 (by rw [← e]; exact hb)⟩
theorem radd_fin {w w5 w6 : World} {g : Nat} {c c' : V7} {v v' : Value} {l l' r : List C.Dt} (h : RIn w g c v l l' v' w5) (h6 : ∃ u, RDAt w6 g c' u r ∧ Fresh (w5.setCell ⟨g, 7, none⟩ v') u) (h7 : Turn (w5.setCell ⟨g, 7, none⟩ v') w6 (fun b => b = g)) : RAddRet w g v ⟨c', r⟩ w6 := by
  obtain ⟨u, hu, hf⟩ := h6
  have hs := h.1.size
  have t : Turn w (w5.setCell ⟨g, 7, none⟩ v') (fun b => b = g) := (Turn.of_below (S := fun b => b = g) h.1).setCell (b := g) rfl _
  exact ⟨⟨u, hu, Or.inr fun b hb => Nat.le_trans t.size (hf b hb)⟩, t.trans h7 fun x hx => Or.inl hx⟩
set_option maxRecDepth 100000 in
set_option maxHeartbeats 8000000 in
theorem radd_new (w : World) (g : Nat) (s : C.Ds) (v : Value) (d1 d2 : Int) (h : RDAt w g s.c v s.l) (hs : s.Ok) (hl : s.l.length < 1000) (hm : C.may (d1, d2) = true) (hn : C.mem s (d1, d2) = false) :
    Calls Try.prog 17 #[.pointer (some ⟨g, 0, none⟩), .agg #[.int .i64 d1, .int .i64 d2]] w fun e w' => e = .returned (.tuple #[.bool true, .int .i64 0]) ∧ RAddRet w g v (C.addS s (d1, d2)) w' := by
  have hmx := (C.may_iff (d1, d2)).1 hm
  simp only at hmx
  have HM : Hid (∀ W, Calls Try.prog 42 #[.agg #[.int .i64 d1, .int .i64 d2]] W fun e w' => e = .returned (.bool true) ∧ Below W.heap.size W w') := fun W => by rw [← hm]; exact rmay_any d1 d2 W
  have HH : Hid (∀ W, Below w.heap.size w W → Calls Try.prog 23 #[.pointer (some ⟨g, 0, none⟩), .agg #[.int .i64 d1, .int .i64 d2]] W fun e w' => e = .returned (.bool false) ∧ Below W.heap.size W w') := fun W hW => rhas_obj W g s.c v s.l d1 d2 false (h.below hW) (by omega) hn
  have HMAY : Hid (∀ x ∈ C.insL (d1, d2) s.l, C.may x = true) := C.add_may hs hm
  have HIL : Hid ((C.insL (d1, d2) s.l).length ≤ 100000) := by have := (C.ins_len (d1, d2) s.l).2; show _ ≤ _; omega
  have HG : Hid (C.good s.c = true) := hs.good
  obtain ⟨q, cp, hv⟩ := h.row.len
  subst hv
  obtain ⟨n, hnn⟩ : ∃ n, n = s.l.length := ⟨_, rfl⟩
  have HN : Hid (n = s.l.length) := hnn
  have HD : Hid (RDAt w g s.c (.slice q n cp) s.l) := by show RDAt _ _ _ _ _; rw [hnn]; exact h
  rw [← hnn] at hl ⊢
  have hga := C.good_at7 hs.good d1.toNat
  have hr7 : d1.toNat < 7 := by omega
  have hrx : d1 = (d1.toNat : Nat) := by omega
  obtain ⟨S', hS'⟩ : ∃ S', S' = C.addS s (d1, d2) := ⟨_, rfl⟩
  have HS' : Hid (S' = C.addS s (d1, d2)) := hS'
  rw [← hS']
  clear h hm hn hs hnn hS'
  obtain ⟨l', hl'⟩ : ∃ l', l' = C.insL (d1, d2) s.l := ⟨_, rfl⟩
  have HL' : Hid (l' = C.insL (d1, d2) s.l) := hl'
  have HSS : Hid (S' = ⟨(C.settleL s.c l').1, (C.settleL s.c l').2⟩) := by show S' = _; rw [HS'.out, hl']; rfl
  rw [← hl'] at HMAY HIL
  have HINS : Hid (∀ W, Below w.heap.size w W → Calls Try.prog 43 #[.slice q n cp, .agg #[.int .i64 d1, .int .i64 d2]] W fun e w' => (∃ v', e = .returned v' ∧ OwnD w' v' l' ∧ (v' = .slice q n cp ∨ ∀ b, v'.ownBlock = some b → W.heap.size ≤ b)) ∧ Below W.heap.size W w') := fun W hW => by rw [hl']; exact rinsert_any _ s.l d1 d2 W (HD.out.row.below hW) (by have := HN.out; omega)
  clear hl' HS' HL'
  generalize d1.toNat = r at *
  subst hrx
  obtain ⟨y, hy⟩ : ∃ y, C.at7 s.c r = y := ⟨_, rfl⟩
  rw [hy] at hga
  have hr7' : (r : Int) < 7 := by omega
  go_enter Try.func17, Try.ntmps17
  go_wp2_with fail
  refine (HM.out _).mono ?_
  rintro e w1 ⟨rfl, hb⟩
  have q1 := keep_on hb (heap_alloc_new w (.cells #[.int .i64 r, .int .i64 d2] 29))
  have HB : Hid (Below w.heap.size w w1) := bt (below_new w _) hb
  have HQ1 : Hid _ := q1
  obtain ⟨z0, z1⟩ := box2 q1
  clear hb q1
  go_wp2_with fail
  refine (HH.out _ HB.out).mono ?_
  rintro e w2 ⟨rfl, hb⟩
  have HB2 : Hid (Below w.heap.size w w2) := bt HB.out hb
  have HQ2 : Hid (w2.heap[w.heap.size]? = some (.cells #[.int .i64 r, .int .i64 d2] 29)) := keep_on hb HQ1.out
  clear hb z0 z1
  have hne : Nonempty (NewW w2) := ⟨NewW.start w2⟩
  have cr : ∀ m : NewW w2, m.v.cell? ⟨g, r, none⟩ = some (.int .i64 y) := fun m => by rw [(held8 ((HD.out.below HB2.out).below m.h).blk (Below.refl _ _) r).1, get_cells8 _ _ hr7, hy]
  have y7 : ∀ m : NewW w2, m.v.cell? ⟨g, 7, none⟩ = some (.slice q n cp) := fun m => (held8 ((HD.out.below HB2.out).below m.h).blk (Below.refl _ _) 7).1
  have z0 : ∀ m : NewW w2, m.v.cell? ⟨w.heap.size, 0, none⟩ = some (.int .i64 r) := fun m => (box2 (keep_on m.h HQ2.out)).1
  have z1 : ∀ m : NewW w2, m.v.cell? ⟨w.heap.size, 1, none⟩ = some (.int .i64 d2) := fun m => (box2 (keep_on m.h HQ2.out)).2
  have hge : decide (1000 ≤ (n : Int)) = false := by simp; omega
  obtain ⟨qb, hqb⟩ : ∃ qb, (d2 != y + 1) = qb := ⟨_, rfl⟩
  cases qb with
  | true =>
    go_wp2_with fail
    refine wp_region_new (by kernel_rfl) (by kernel_rfl) ?_
    repeat (go_big_quiet_step ((with_reducible rfl)))
    refine wpQuiet_nil ?_
    rintro _ ⟨w3, rfl⟩
    have HB3 : Hid (Below w.heap.size w w3.v) := bt HB2.out w3.h
    have y73 := y7 w3
    have z03 := z0 w3
    have z13 := z1 w3
    obtain ⟨W3, hW3⟩ : ∃ W3, w3.v = W3 := ⟨_, rfl⟩
    rw [hW3] at HB3 y73 z03 z13 ⊢
    clear hW3 w3 cr y7 z0 z1 hne hge hqb
    go_wp2_with fail
    go_region_with ((go_at_call 43; refine (HINS.out W3.drew HB3.out.drew).mono ?_; rintro e w5 ⟨⟨v', rfl, h1, h2⟩, h3⟩; obtain ⟨qq, nn, cc, rfl⟩ := h1.slice; have HR5 : Hid (RIn w g s.c (.slice q n cp) s.l l' (.slice qq nn cc) w5) := rin_of HD.out (bt HB3.out.drew h3) h1 (h2.imp id fun h b hb => Nat.le_trans HB3.out.size (h b hb)); obtain ⟨q7, f7⟩ := held8 HR5.out.2.1.blk (Below.refl _ _) 7; simp only [cells8_seven] at q7; clear h1 h2 h3))
    all_goals
      go_wp2_with fail
      refine (rclose_any _ g s.c (.slice qq nn cc) l' (rin_set HR5.out) HIL.out HG.out HMAY.out).mono ?_
      rintro e w6 ⟨rfl, h6, h7⟩
      have HF : Hid (RAddRet w g (.slice q n cp) S' w6) := by show RAddRet _ _ _ _ _; rw [HSS.out]; exact radd_fin HR5.out h6 h7
      clear h6 h7
      go_wp2
      go_ret2
      exact ⟨rfl, HF.out⟩
  | false =>
    go_wp2_with fail
    refine wp_region_new (by kernel_rfl) (by kernel_rfl) ?_
    repeat (go_big_quiet_step ((with_reducible rfl)))
    refine wpQuiet_nil ?_
    rintro _ ⟨w3, rfl⟩
    have HB3 : Hid (Below w.heap.size w w3.v) := bt HB2.out w3.h
    have y73 := y7 w3
    have z03 := z0 w3
    have z13 := z1 w3
    obtain ⟨W3, hW3⟩ : ∃ W3, w3.v = W3 := ⟨_, rfl⟩
    rw [hW3] at HB3 y73 z03 z13 ⊢
    clear hW3 w3 cr y7 z0 z1 hne hge hqb
    go_wp2_with fail
    go_region_with ((go_at_call 43; refine (HINS.out W3.drew HB3.out.drew).mono ?_; rintro e w5 ⟨⟨v', rfl, h1, h2⟩, h3⟩; obtain ⟨qq, nn, cc, rfl⟩ := h1.slice; have HR5 : Hid (RIn w g s.c (.slice q n cp) s.l l' (.slice qq nn cc) w5) := rin_of HD.out (bt HB3.out.drew h3) h1 (h2.imp id fun h b hb => Nat.le_trans HB3.out.size (h b hb)); obtain ⟨q7, f7⟩ := held8 HR5.out.2.1.blk (Below.refl _ _) 7; simp only [cells8_seven] at q7; clear h1 h2 h3))
    all_goals
      go_wp2_with fail
      refine (rclose_any _ g s.c (.slice qq nn cc) l' (rin_set HR5.out) HIL.out HG.out HMAY.out).mono ?_
      rintro e w6 ⟨rfl, h6, h7⟩
      have HF : Hid (RAddRet w g (.slice q n cp) S' w6) := by show RAddRet _ _ _ _ _; rw [HSS.out]; exact radd_fin HR5.out h6 h7
      clear h6 h7
      go_wp2
      go_ret2
      exact ⟨rfl, HF.out⟩
theorem RAddRet.same {w w' : World} {g : Nat} {v : Value} {s : C.Ds} (h : RDAt w g s.c v s.l) (hb : Below w.heap.size w w') : RAddRet w g v s w' := ⟨⟨v, h.below hb, Or.inl rfl⟩, Turn.of_below hb⟩
/-- An Add of the document's own: it answers as dots' Add does. -/
theorem radd_any (w : World) (g : Nat) (s : C.Ds) (v : Value) (d1 d2 : Int) (h : RDAt w g s.c v s.l) (hs : s.Ok) (hl : s.l.length < 1000) :
    Calls Try.prog 17 #[.pointer (some ⟨g, 0, none⟩), .agg #[.int .i64 d1, .int .i64 d2]] w fun e w' => e = .returned (.tuple #[.bool (C.may (d1, d2) && !C.mem s (d1, d2)), .int .i64 (errM (d1, d2))]) ∧ RAddRet w g v (C.addM s (d1, d2)) w' := by
  unfold errM C.addM
  cases hm : C.may (d1, d2) with
  | false =>
    refine (radd_no w g d1 d2 hm).mono ?_
    rintro e w' ⟨rfl, hb⟩
    exact ⟨by simp, by simpa using RAddRet.same h hb⟩
  | true =>
    cases hn : C.mem s (d1, d2) with
    | true =>
      refine (radd_there w g s v d1 d2 h (by omega) hm hn).mono ?_
      rintro e w' ⟨rfl, hb⟩
      have e1 : C.addS s (d1, d2) = s := C.add_there hs hm hn
      exact ⟨by simp, by simpa [e1] using RAddRet.same h hb⟩
    | false =>
      refine (radd_new w g s v d1 d2 h hs hl hm hn).mono ?_
      rintro e w' ⟨rfl, hr⟩
      exact ⟨by simp, by simpa using hr⟩
end Go.Proofs.Ytglmmhgmdhdleaa
