/-
  Several texts in one: WSort, WPend, WCut.
-/
import Derived.Test.YtnhplbdbgiimkaaGreatDoorZ9
namespace Go.Proofs.YtnhplbdbgiimkaaGreatDoor
open Go.RowKit Go.Lib Go.Maps Go.Sort
open C (upd upd_same upd_other)
set_option linter.unusedVariables false

/-- A row of writes as it lies. -/
def WAt (w : World) (p : Option Addr) (l : List C.Wr) : Prop := 0 < l.length → ∃ b, p = some ⟨b, 0, none⟩ ∧ ∀ i x, l[i]? = some x → ∀ j v, (encW x)[j]? = some v → w.cell? ⟨b, i * 3 + j, none⟩ = some v
theorem WAt.below {w w' : World} {p : Option Addr} {l : List C.Wr} (h : WAt w p l) (hb : Below w.heap.size w w') : WAt w' p l := fun hl => by
  obtain ⟨b, hp, hc⟩ := h hl
  refine ⟨b, hp, fun i x hx j v hv => ?_⟩
  have h1 := hc i x hx j v hv
  rw [hb.cell (p := ⟨b, i * 3 + j, none⟩) (World.block_lt_of_cell? _ _ h1)]; exact h1
theorem rowW_get : ∀ (l : List C.Wr) (i : Nat) (x : C.Wr) (j : Nat), l[i]? = some x → j < 3 → (rowW l)[i * 3 + j]? = (encW x)[j]?
  | [], i, x, j, h, _ => by cases h
  | y :: r, 0, x, j, h, hj => by
    have e : y = x := by simpa using h
    subst e
    have : rowW (y :: r) = encW y ++ rowW r := rfl
    rw [this, List.getElem?_append_left (by simp only [encW, List.length_cons, List.length_nil]; omega)]
    congr 1; omega
  | y :: r, i + 1, x, j, h, hj => by
    have h' : r[i]? = some x := by simpa using h
    have : rowW (y :: r) = encW y ++ rowW r := rfl
    rw [this, List.getElem?_append_right (by simp only [encW, List.length_cons, List.length_nil]; omega)]
    rw [← rowW_get r i x j h' hj]
    congr 1
    simp only [encW, List.length_cons, List.length_nil]; omega
theorem own_holds [Inhabited C.Wr] {w : World} {g n cap : Nat} {l : List C.Wr} (h : OwnW w (.slice (some ⟨g, 0, none⟩) n cap) l) : HoldsK encW 3 w g 0 l.toArray ∧ g < w.heap.size ∧ n = l.length := by
  rcases h.2 with ⟨h1, _⟩ | ⟨g', cap', cur, hv, _, hg, _, _, _, ht⟩
  · cases h1
  · cases hv
    refine ⟨fun t ht' => ?_, (Array.getElem?_eq_some_iff.1 hg).1, rfl⟩
    simp only [size_flatK, List.size_toArray] at ht'
    have hd : t / 3 < l.length := by rw [Nat.div_lt_iff_lt_mul (by decide)]; exact ht'
    have hm : t % 3 < 3 := Nat.mod_lt _ (by decide)
    have hx : l[t / 3]? = some l[t / 3] := List.getElem?_eq_getElem hd
    have e1 := rowW_get l (t / 3) _ (t % 3) hx hm
    have e2 : t / 3 * 3 + t % 3 = t := by omega
    rw [e2] at e1
    refine ⟨?_, blk_free hg _⟩
    rw [Nat.zero_add, blk_cell hg t, get_flatK _ _ _ _ (by simpa using ht')]
    have e3 := congrArg (fun q => q[t]?) ht
    simp only [List.getElem?_take] at e3
    rw [if_pos ht'] at e3
    rw [← Array.getElem?_toList, e3, e1]
    have e4 : l.toArray[t / 3]! = l[t / 3] := by simp [hd]
    rw [e4]
    have : t % 3 < (encW l[t / 3]).length := hm
    rw [List.getElem?_eq_getElem this]
    simp [this]
theorem holds_at [Inhabited C.Wr] {w : World} {g : Nat} {l : List C.Wr} (h : HoldsK encW 3 w g 0 l.toArray) : WAt w (some ⟨g, 0, none⟩) l := fun _ => by
  refine ⟨g, rfl, fun i x hx j v hv => ?_⟩
  have hi : i < l.length := (List.getElem?_eq_some_iff.1 hx).1
  have hj : j < (encW x).length := (List.getElem?_eq_some_iff.1 hv).1
  have := (h.cell (i := i) (c := j) (by simpa using hi) hj).1
  rw [Nat.zero_add] at this
  rw [this]
  have e1 : l.toArray[i]! = x := by
    rw [List.getElem?_eq_getElem hi] at hx
    simp only [Option.some.injEq] at hx
    simp [hi, hx]
  rw [e1]
  rw [List.getElem?_eq_getElem hj] at hv
  simp only [Option.some.injEq] at hv
  simp [hj, hv]
def cmpW (x y : C.Wr) : Int := Lib.compareInt (x.num : Nat) (y.num : Nat)
theorem ltW (x y : C.Wr) : ltOf cmpW x y = decide (x.num < y.num) := by
  unfold ltOf cmpW Lib.compareInt
  by_cases h1 : x.num < y.num
  · rw [if_pos (by omega)]; simp [h1]
  · rw [if_neg (by omega)]
    by_cases h2 : y.num < x.num
    · rw [if_pos (by omega)]; simp [h1]
    · rw [if_neg (by omega)]; simp [h1]
theorem swoW : SWO (ltOf cmpW) where
  irrefl x := by rw [ltW]; simp
  trans x y z h1 h2 := by rw [ltW] at *; simp at *; omega
  ntrans x y z h1 h2 := by rw [ltW] at *; simp at *; omega
set_option maxHeartbeats 1000000 in
theorem less_any (x y : C.Wr) (W : World) : Calls Tryz.prog 63 #[.agg #[.int .i64 (x.num : Nat), .int .i64 (x.file : Nat), .int .i64 (x.bytes.length : Nat)], .agg #[.int .i64 (y.num : Nat), .int .i64 (y.file : Nat), .int .i64 (y.bytes.length : Nat)]] W fun e w' => e = .returned (.int .i64 (cmpW x y)) ∧ ∃ q os', w' = grow (W.drewN q) os' := by
  have hcon := fun W' => AnyG.cmp_Compare_int Tryz.cmpI (x.num : Nat) (y.num : Nat) W'
  change ∀ W', Calls Tryz.prog 52 _ _ _ at hcon
  unfold cmpW
  generalize Lib.compareInt (x.num : Nat) (y.num : Nat) = r at hcon ⊢
  have HC : Hid _ := hcon
  clear hcon
  go_enter Tryz.func63, Tryz.ntmps63
  go_wp2_with fail
  refine Calls.mono (HC.out _) ?_
  rintro e w1 ⟨rfl, hw⟩
  subst w1
  go_wp2
  go_ret
  exact ⟨rfl, 0, _, by rw [alloc_eq_grow, alloc_eq_grow, grow_grow]; rfl⟩
theorem lays_any [Inhabited C.Wr] (blk off size : Nat) (w : World) : CmpLays Tryz.prog 63 #[] encW 3 cmpW blk off size w := fun _ _ _ _ x y => less_any x y _
theorem encW_one (x : C.Wr) : ∀ v ∈ encW x, v.oneCell' = true := fun v hv => by
  simp only [encW, List.mem_cons, List.not_mem_nil, or_false] at hv
  rcases hv with rfl | rfl | rfl <;> rfl
/-- Sorted by number, and a permutation of what rises: what rises. -/
theorem sorted_is [Inhabited C.Wr] {l s : List C.Wr} (hp : l.Perm s) (hs : s.Pairwise fun a b => a.num < b.num) {d' : Array C.Wr} (h1 : PermIn 0 l.toArray.size l.toArray d') (h2 : SortedIn (ltOf cmpW) 0 l.toArray.size d') : d'.toList = s := by
  obtain ⟨hz, _, hp'⟩ := h1
  have e1 : (d'.extract 0 l.toArray.size) = d' := by rw [← hz]; simp
  have e2 : (l.toArray.extract 0 l.toArray.size) = l.toArray := by simp
  rw [e1, e2] at hp'
  have hpp : d'.toList.Perm s := hp'.trans hp
  refine List.Perm.eq_of_pairwise (le := fun a b => a.num ≤ b.num) (fun a b ha hb h1 h2 => ?_) ?_ (hs.imp fun h => Nat.le_of_lt h) hpp
  · have ha' : a ∈ s := hpp.mem_iff.1 ha
    have hinj : ∀ (s : List C.Wr), (s.Pairwise fun a b => a.num < b.num) → ∀ a ∈ s, ∀ b ∈ s, a.num = b.num → a = b := by
      intro s hs
      induction s with
      | nil => intro a ha; cases ha
      | cons x r ih =>
        obtain ⟨k1, k2⟩ := List.pairwise_cons.1 hs
        intro a ha b hb e
        rcases List.mem_cons.1 ha with ea | ha2
        · rcases List.mem_cons.1 hb with eb | hb2
          · rw [ea, eb]
          · have := k1 b hb2; rw [ea] at e; omega
        · rcases List.mem_cons.1 hb with eb | hb2
          · have := k1 a ha2; rw [eb] at e; omega
          · exact ih k2 a ha2 b hb2 e
    exact hinj s hs a ha' b hb (by omega)
  · rw [List.pairwise_iff_getElem]
    intro i j hi hj hij
    have hi' : i < d'.size := by simpa using hi
    have hj' : j < d'.size := by simpa using hj
    have := h2 i j (Nat.zero_le _) hij (by rw [← hz]; exact hj')
    rw [ltW] at this
    simp only [decide_eq_false_iff_not, Nat.not_lt] at this
    rw [getElem!_pos d' i hi', getElem!_pos d' j hj'] at this
    simpa using this
theorem sort_none (p : Option Addr) (cap : Nat) (w : World) : Calls Tryz.prog 62 #[.slice p 0 cap, .func (.func 63) #[] #[]] w fun e w' => e = .returned (.tuple #[]) ∧ w' = w :=
  AnyF.slices_SortFunc_none Tryz.sortW p cap _ w
theorem sort_some (g cap : Nat) (l s : List C.Wr) (w : World) (h : OwnW w (.slice (some ⟨g, 0, none⟩) l.length cap) l) (hp : l.Perm s) (hs : s.Pairwise fun a b => a.num < b.num) (hl : l.length ≤ 1000000) :
    Calls Tryz.prog 62 #[.slice (some ⟨g, 0, none⟩) l.length cap, .func (.func 63) #[] #[]] w fun e w' => e = .returned (.tuple #[]) ∧ WAt w' (some ⟨g, 0, none⟩) s ∧ w.grownBy w' (some g) := by
  haveI : Inhabited C.Wr := ⟨⟨0, 0, [], false⟩⟩
  obtain ⟨hH, hg, _⟩ := own_holds h
  have hc := AnyQ.slices_SortFunc Tryz.sortW 3 Tryz.isAgg81 Tryz.sizeOf81 encW (fun _ => rfl) encW_one cmpW swoW 63 #[] g 0 cap l.toArray w (enters_of Tryz.func63 (by kernel_rfl) rfl) (lays_any g 0 _ w) hH hg (by simp; omega)
  refine Calls.mono hc ?_
  rintro e w' ⟨rfl, d', n, os, h1, h2, rfl⟩
  have hd := sorted_is hp hs h1 h2
  have hsz : d'.size = l.toArray.size := h1.1
  refine ⟨rfl, ?_, ?_⟩
  · have := holdsK_sortWorldK encW 3 w g 0 n l.toArray d' os hg hH hsz
    rw [show d' = s.toArray by rw [← hd]] at this ⊢
    exact holds_at this
  · refine ⟨rfl, rfl, rfl, by simp [sortWorldK, putRowK, putRow, mapBlock, Sort.ahead], fun k hk hne => ?_⟩
    have hgk : g ≠ k := fun e => hne (by rw [e])
    unfold sortWorldK putRowK
    rw [heap_grow_old _ _ (by simpa [putRow, mapBlock, Sort.ahead] using hk)]
    simp [putRow, mapBlock, Sort.ahead, Array.getElem?_modify, hgk]
end Go.Proofs.YtnhplbdbgiimkaaGreatDoor

namespace Go.Proofs.YtnhplbdbgiimkaaGreatDoor
open Go.RowKit Go.Lib Go.Maps
open C (upd upd_same upd_other)
set_option linter.unusedVariables false

theorem Lay.at_inv {L : Lay} {x : Int} {c : Nat} (h : L.at x = some c) : ∃ k : Nat, x = (k : Int) ∧ L.is k = true ∧ c = L.c k := by
  unfold Lay.at at h
  split at h
  · rename_i h1
    refine ⟨x.toNat, by omega, h1.2, ?_⟩
    cases h; rfl
  · cases h
theorem row_nil {w : World} {e size n : Nat} {v : Value} {xs : List Value} (h : w.ownsRow 0 e size v n xs) : (∃ p c, v = .slice p n c ∧ (p = none → n = 0)) := by
  rcases h.2 with ⟨rfl, h0⟩ | ⟨g, cap, cur, rfl, _⟩
  · exact ⟨none, 0, by rw [h0], fun _ => h0⟩
  · exact ⟨_, cap, rfl, (fun e => by cases e)⟩
set_option maxRecDepth 100000 in
set_option maxHeartbeats 4000000 in
theorem pending_any (w : World) (L : Lay) (n : Nat) (hd : Head) (sa : Nat → Nat) (da : Nat → List UInt8) (ws : List C.Wr) (M : DMem w L n hd sa da (C.pof ws)) (hfile : ∀ k, L.is k = true → k < 1000) (hhas : ∀ x ∈ ws, L.is x.file = true) (hnum : ws.Pairwise fun a b => a.num < b.num) (hlen : ws.length ≤ 1000000) :
    Calls Tryz.prog 41 #[.pointer (some ⟨L.g, 0, none⟩)] w fun e w' => (∃ p c, e = .returned (.slice p (C.pend ws).length c) ∧ WAt w' p (C.pend ws) ∧ ∀ a, p = some a → w.heap.size ≤ a.block) ∧ Below w.heap.size w w' := by
  have c2 := blk_cell M.blk 2
  simp only [Head.cells, List.getElem?_toArray, List.getElem?_cons_succ, List.getElem?_cons_zero] at c2
  have HM : Hid (DMem w L n hd sa da (C.pof ws)) := M
  have HMP : Hid (IMap w L.mb n L.at) := M.map
  have HP0 : Hid ((C.rowOn (fun k => L.is k) (C.pof ws) 1000).Perm (C.pend ws)) := C.pend_rows L.is 1000 ws (fun x hx => ⟨hfile _ (hhas x hx), hhas x hx⟩)
  have HPN : Hid ((C.pend ws).Pairwise fun a b => a.num < b.num) := hnum.filter _
  have hpl : (C.pend ws).length ≤ 1000000 := Nat.le_trans (List.length_filter_le _ _) hlen
  have hmb : L.mb < w.heap.size := M.map.lt
  have HF : Hid _ := hfile
  clear M hhas hnum hlen hfile
  obtain ⟨g, hg⟩ : ∃ g, g = L.g := ⟨_, rfl⟩
  obtain ⟨mb, hm⟩ : ∃ mb, mb = L.mb := ⟨_, rfl⟩
  rw [← hg, ← hm] at c2
  rw [← hg]
  rw [← hm] at HMP hmb
  have HG : Hid _ := hg
  have HB : Hid _ := hm
  clear hg hm
  go_enter Tryz.func41, Tryz.ntmps41
  go_wp2_with (at_range; go_must (refine wpList_range_imap rfl _ _ _ rfl u_map HMP.out rfl ?_); intro w0 cnt0 hrg0 hg0 hs0)
  go_frame
  have HRG0 : Hid _ := hrg0
  have HB0 : Hid (Below w.heap.size w w0) := ⟨hg0.os, hg0.tape, hg0.output, hg0.size, fun k hk => hg0.block k hk (by simp)⟩
  clear hrg0 hg0 hs0
  go_loopw [3] (fun v wr => ∃ (left : Int → Bool) (cnt : Nat) (acc : List C.Wr) (p : Option Addr) (m c : Nat), v = .slice p m c ∧ OwnW wr (.slice p m c) acc ∧ (∀ b, (Value.slice p m c).ownBlock = some b → w.heap.size < b) ∧ IRange wr mb w.heap.size n L.at left cnt ∧ (acc ++ C.rowOn (fun k => left (k : Int)) (C.pof ws) 1000).Perm (C.pend ws) ∧ Below w.heap.size w wr ∧ w.heap.size < wr.heap.size) (fun _ wr => wr.rangeLeft mb w.heap.size)
  case atStart =>
    refine ⟨_, _, [], none, 0, 0, rfl, OwnW.nil _, (fun b hb => by cases hb), HRG0.out, ?_, HB0.out, IRange.lt HRG0.out⟩
    have : C.rowOn (fun k => (L.at ((k : Nat) : Int)).isSome) (C.pof ws) 1000 = C.rowOn (fun k => L.is k) (C.pof ws) 1000 := C.rowOn_congr fun k _ => by
      have : (L.at (k : Int)).isSome = L.is k := by
        cases h : L.is k with
        | true => rw [Lay.at_some (by omega) (by simpa using h)]; rfl
        | false => rw [Lay.at_none (by simpa using h)]; rfl
      rw [this]
    rw [List.nil_append, this]; exact HP0.out
  case round =>
    obtain ⟨left, cnt, acc, p, m, c, rfl, ho, hnew, hrg, hp, hb, hsz⟩ := hrel
    have HO : Hid (OwnW wr (.slice p m c) acc) := ho
    have HN : Hid (∀ b, (Value.slice p m c).ownBlock = some b → w.heap.size < b) := hnew
    have HR : Hid (IRange wr mb w.heap.size n L.at left cnt) := hrg
    have HPE : Hid ((acc ++ C.rowOn (fun k => left (k : Int)) (C.pof ws) 1000).Perm (C.pend ws)) := hp
    have HBW : Hid (Below w.heap.size w wr) := hb
    have HSZ : Hid (w.heap.size < wr.heap.size) := hsz
    clear ho hnew hrg hp hb hsz
    go_wp2_with (at_next; go_must (refine wpList_next_imap rfl _ rfl HR.out rfl ?_ ?_))
    · intro hl
      have hacc : acc.Perm (C.pend ws) := by
        have := HPE.out
        rw [C.rowOn_none (fun k _ => hl k), List.append_nil] at this
        exact this
      obtain ⟨p', c', hv', hpn⟩ := row_nil HO.out
      cases hv'
      have hal : acc.length = (C.pend ws).length := hacc.length_eq
      cases p with
      | none =>
        have h0 := hpn rfl
        have HA : Hid (acc.length = (C.pend ws).length) := hal
        have HS : Hid _ := sort_none none c wr
        clear hpn hal hacc hl
        rw [h0] at HA ⊢
        go_wp2_with fail
        refine Calls.mono HS.out ?_
        rintro e w1 ⟨rfl, hw⟩
        subst w1
        go_wp2
        go_ret
        exact ⟨⟨none, c, by rw [← HA.out]; rfl, (fun h => absurd h (by rw [← HA.out]; omega)), (fun a e => by cases e)⟩, HBW.out⟩
      | some ad =>
        obtain ⟨b, rfl⟩ : ∃ b, ad = ⟨b, 0, none⟩ := by
          rcases (HO.out : OwnW wr _ acc).2 with ⟨h1, _⟩ | ⟨g', cap', cur, h1, _⟩
          · cases h1
          · cases h1; exact ⟨_, rfl⟩
        have HS : Hid _ := sort_some b c acc (C.pend ws) wr HO.out hacc HPN.out (by omega)
        have hbn := HN.out b rfl
        have HA : Hid (acc.length = (C.pend ws).length) := hal
        clear hpn hal hacc hl
        go_wp2_with fail
        refine Calls.mono HS.out ?_
        rintro e w1 ⟨rfl, hat, hg1⟩
        go_wp2
        go_ret
        exact ⟨⟨_, c, by rw [← HA.out]; rfl, hat, (fun a e => by cases e; exact Nat.le_of_lt hbn)⟩, (HBW.out : Below _ _ _).grown hg1 (HBW.out : Below _ _ _).size (fun k e => by cases e; omega)⟩
    · intro x cc w2 cnt2 hwx hlx hmx hrg2 hlt hg2 hs2 hen
      obtain ⟨k, rfl, hk, hcc⟩ := Lay.at_inv hmx
      have hB2 : Below w.heap.size w w2 := (HBW.out : Below _ _ _).grown hg2 (HBW.out : Below _ _ _).size (fun j e => by cases e; exact Nat.le_refl _)
      have hcont := (HM.out : DMem _ _ _ _ _ _ _).cont k hk
      have hwr := (HM.out : DMem _ _ _ _ _ _ _).wr k hk
      have hcw : w2.heap[cc]? = some (.cells #[L.d k, .int .i64 (sa k : Nat), L.w k] 83) := by
        rw [hcc, hB2.block _ (Array.getElem?_eq_some_iff.1 hcont).1]; exact hcont
      have a2 := blk_cell hcw 2
      simp only [List.getElem?_toArray, List.getElem?_cons_succ, List.getElem?_cons_zero] at a2
      obtain ⟨pw, cw, hvw⟩ := OwnW.shape hwr
      rw [hvw] at a2 hwr
      have HSRC : Hid (SrcAt w2 3 (.slice pw (C.pof ws k).length cw) (C.pof ws k).length (rowW (C.pof ws k))) := row_src (row_same hwr fun b hb => hB2.block b (row_lt hwr hb))
      have HO2 : Hid (w2.ownsRow 0 81 3 (.slice p m c) acc.length (rowW acc)) := row_same HO.out fun b hb => hg2.block b (row_lt HO.out hb) (fun e => by have := HN.out b hb; have := Option.some.inj e; omega)
      have hpo := C.rowOn_out (p := fun j => left (j : Int)) (f := C.pof ws) (j := k) (n := 1000) (HF.out k hk) hlx
      have hp2 : ((acc ++ C.pof ws k) ++ C.rowOn (fun j => left (j : Int) && !(j == k)) (C.pof ws) 1000).Perm (C.pend ws) := by
        rw [List.append_assoc]
        exact (hpo.symm.append_left acc).trans HPE.out
      have hl2 := hp2.length_eq
      simp only [List.length_append] at hl2
      have HN1 : Hid (acc.length + (C.pof ws k).length ≤ maxLen) := by show _ ≤ _; unfold maxLen; omega
      have HN2 : Hid ((acc.length + (C.pof ws k).length) * 24 ≤ 140737488355328) := by show _ ≤ _; omega
      obtain ⟨nw, hnw⟩ : ∃ nw, nw = (C.pof ws k).length := ⟨_, rfl⟩
      rw [← hnw] at a2 HSRC HN1 HN2
      have HNW : Hid _ := hnw
      have HP2 : Hid _ := hp2
      have HR2 : Hid _ := hrg2
      have HG2 : Hid (w2.heap.size = wr.heap.size) := hs2
      have HB2 : Hid _ := hB2
      have HLT : Hid _ := hlt
      clear hp2 hrg2 hs2 hB2 hlt hg2 hl2 hpo hvw hwr hcw hcont hcc hmx hlx hwx hnw
      go_wp2_with (at_builtin; go_must (refine wpList_append_src Tryz.underlying78 info_wr rfl (by decide) rfl _ _ rfl rfl HO2.out rfl HSRC.out (rowW_one _) HN1.out HN2.out ?_); intro v3 w3 hr3 hg3 hl3; obtain ⟨p3, c3, rfl, _⟩ := row_nil hr3)
      have hgt : ∀ b, (Value.slice p m c).ownBlock = some b → w.heap.size < b := HN.out
      have HR3 : Hid (IRange w3 mb w.heap.size n L.at (fun j => left j && !(j == (k : Int))) cnt2) := IRange.same HR2.out (hg3.block _ (by have := HSZ.out; have := HG2.out; omega) (fun e => by have := hgt _ e.symm; omega)) (hg3.block _ (by have := HSZ.out; have := HG2.out; omega) (fun e => by have := hgt _ e.symm; omega))
      go_roundw
      case rel =>
        refine ⟨_, cnt2, acc ++ C.pof ws k, p3, _, c3, rfl, ownW_of_row (HNW.out ▸ hr3), ?_, HR3.out, ?_, ?_, ?_⟩
        · intro b hb
          rcases hl3 with h | h
          · exact hgt b (h ▸ hb)
          · rw [h] at hb; have := Option.some.inj hb; have := HSZ.out; have := HG2.out; omega
        · have e : (fun j : Nat => left (j : Int) && !((j : Int) == (k : Int))) = (fun j : Nat => left (j : Int) && !(j == k)) := by
            funext j
            have : ((j : Int) == (k : Int)) = (j == k) := by
              by_cases h : j = k
              · subst h; simp
              · have h' : ¬ (j : Int) = (k : Int) := by omega
                rw [beq_eq_false_iff_ne.2 h', beq_eq_false_iff_ne.2 h]
            rw [this]
          have h := HP2.out
          rw [← e] at h
          exact h
        · exact (HB2.out : Below _ _ _).grown hg3 (HB2.out : Below _ _ _).size (fun b e => by have := hgt b e; omega)
        · have := HSZ.out; have := HG2.out; have := hg3.size; omega
      case measure =>
        rw [IRange.left_eq HR3.out, IRange.left_eq HR.out]
        exact HLT.out
end Go.Proofs.YtnhplbdbgiimkaaGreatDoor

namespace Go.Proofs.YtnhplbdbgiimkaaGreatDoor
open Go.RowKit Go.Lib Go.Maps
open C (upd upd_same upd_other)
set_option linter.unusedVariables false

theorem clone_n (p : Option Addr) (n c : Nat) (l : List UInt8) (w : World) (hn : n = l.length) (hx : Part.ok w ⟨p, l, c⟩) (hl : l.length ≤ 100000000) :
    Calls Tryz.prog 37 #[.slice p n c] w fun e w' => (∃ v, e = .returned v ∧ Own w' w.heap.size v l) ∧ Below w.heap.size w w' := by
  subst hn; exact clone_any p l c w hx hl
theorem Part.ok.take {w : World} {p : Option Addr} {l : List UInt8} {c : Nat} (h : Part.ok w ⟨p, l, c⟩) (k : Nat) : Part.ok w ⟨p, l.take k, c⟩ := by
  refine ⟨Nat.le_trans (List.length_take_le' _ _) h.1, fun hl => ?_⟩
  have hl' : 0 < (l.take k).length := hl
  rw [List.length_take] at hl'
  obtain ⟨b, o, hp, hc⟩ := h.2 (show 0 < l.length by omega)
  refine ⟨b, o, hp, fun i hi => ?_⟩
  have hi' : i < (l.take k).length := hi
  rw [List.length_take] at hi'
  rw [hc i (show i < l.length by omega)]
  simp [List.getD, show i < k by omega]
theorem Own.cap {w : World} {p : Option Addr} {n c : Nat} {l : List UInt8} (h : Own w 0 (.slice p n c) l) : n = l.length ∧ n ≤ c ∧ c ≤ maxLen ∧ (0 < n → ∃ b, p = some ⟨b, 0, none⟩) := by
  rcases h.2 with ⟨h1, h2⟩ | ⟨g, cap, cur, h1, _, _, h3, h4, _⟩
  · cases h1; exact ⟨h2.symm, Nat.le_refl _, Nat.zero_le _, (fun h => absurd h (Nat.lt_irrefl 0))⟩
  · cases h1; exact ⟨rfl, h3, h4, fun _ => ⟨g, rfl⟩⟩
set_option maxRecDepth 100000 in
set_option maxHeartbeats 4000000 in
theorem cut_any (w : World) (cb : Nat) (p : Option Addr) (n c sa : Nat) (wv : Value) (l : List UInt8) (hcb : w.heap[cb]? = some (.cells #[.slice p n c, .int .i64 (sa : Nat), wv] 83)) (ho : Own w 0 (.slice p n c) l) (hl : l.length ≤ 1048576) (hsa : sa ≤ 1048576) :
    Calls Tryz.prog 42 #[.pointer (some ⟨cb, 0, none⟩)] w fun e w' => e = .returned (.tuple #[]) ∧ ∃ p' n' c', w'.heap[cb]? = some (.cells #[.slice p' n' c', .int .i64 (sa : Nat), .slice none 0 0] 83) ∧ Own w' 0 (.slice p' n' c') (l.take sa) ∧ ((Value.slice p' n' c').ownBlock = (Value.slice p n c).ownBlock ∨ ∀ b, (Value.slice p' n' c').ownBlock = some b → w.heap.size ≤ b) ∧ w.grownBy w' (some cb) := by
  obtain ⟨hn, hnc, hcm, hpa⟩ := Own.cap ho
  have c0 := blk_cell hcb 0
  have c1 := blk_cell hcb 1
  have c2 := blk_cell hcb 2
  have f0 := blk_free hcb 0
  have f2 := blk_free hcb 2
  simp only [List.getElem?_toArray, List.getElem?_cons_succ, List.getElem?_cons_zero] at c0 c1 c2
  have hdb : ∀ b, (Value.slice p n c).ownBlock = some b → b ≠ cb := fun b hb => by
    obtain ⟨cur, hc⟩ := row_type ho hb
    exact cells_ne hc hcb (by decide)
  have HO : Hid (Own w 0 (.slice p n c) l) := ho
  have HCB : Hid _ := hcb
  have HDB : Hid _ := hdb
  have HN : Hid _ := hn
  have hcm' : c ≤ 9223372036854775807 := Nat.le_trans hcm (by decide)
  have hnl : n ≤ 1048576 := by omega
  have hb1 := set_block (o := 2) (v := .slice none 0 0) hcb
  have HB1 : Hid _ := hb1
  clear ho hcb hdb hn hb1 hcm
  by_cases hlt : sa < n
  · obtain ⟨b, rfl⟩ := hpa (by omega)
    clear hpa
    have HT : Hid (sa = (l.take sa).length) := by show _ = _; rw [List.length_take]; have := HN.out; omega
    have HPT : Hid (∀ w', w'.heap[b]? = w.heap[b]? → Part.ok w' ⟨some ⟨b, 0, none⟩, l.take sa, c⟩) := fun w' hw => by
      have h1 : Own w' 0 (.slice (some ⟨b, 0, none⟩) n c) l := Own.same HO.out (fun b' e => by cases e; exact hw)
      exact Part.ok.take (Own.okAt h1 HN.out) sa
    have hbc : b ≠ cb := HDB.out b rfl
    have hi1 : (sa : Int) ≤ c := by omega
    have hi2 : (sa : Int) < (n : Int) := by omega
    have HBC : Hid _ := hbc
    clear hbc
    go_enter Tryz.func42, Tryz.ntmps42
    go_wp2
    go_quiet (fail)
    go_wp2
    go_region_with (go_at_call 37; refine (clone_n _ sa c (l.take sa) _ HT.out (HPT.out _ (by exact set_other HBC.out)) (by rw [← HT.out]; omega)).mono ?_; rintro e w2 ⟨⟨v, rfl, ho2⟩, hb2⟩; obtain ⟨p2, n2, c2', rfl, _⟩ := Own.is ho2; have hcb2 := (hb2.block cb (by have := (Array.getElem?_eq_some_iff.1 HB1.out).1; exact this)).trans HB1.out; have d0 := blk_cell hcb2 0; have g0 := blk_free hcb2 0; simp at d0)
    all_goals
      go_wp2
      go_end0
      refine ⟨rfl, p2, n2, c2', ?_, ?_, ?_, ?_⟩
      · rw [set_block hcb2]; simp
      · refine Own.same (Own.lower ho2 (Nat.zero_le _)) (fun b' e => set_other (fun e' => ?_))
        have := (World.ownsRow.lt ho2 b' e).1
        have h2 := (Array.getElem?_eq_some_iff.1 HB1.out).1
        subst e'
        exact absurd this (Nat.not_le_of_lt h2)
      · right
        intro b' e
        have := (World.ownsRow.lt ho2 b' e).1
        simpa [World.setCell] using this
      · have t1 := set_grown w cb 2 (.slice none 0 0)
        refine World.grownBy.trans (World.grownBy.trans t1 ?_) (set_grown _ _ _ _)
        exact ⟨hb2.os, hb2.tape, hb2.output, hb2.size, fun k hk _ => hb2.block k hk⟩
  · have HT : Hid (l.take sa = l) := by show _ = _; rw [List.take_of_length_le]; have := HN.out; omega
    have hi2 : (n : Int) ≤ (sa : Int) := by omega
    have hi3 : decide ((sa : Int) < (n : Int)) = false := by simpa using hi2
    clear hpa
    go_enter Tryz.func42, Tryz.ntmps42
    go_wp2
    go_quiet (fail)
    go_wp2
    go_end0
    refine ⟨rfl, p, n, c, ?_, ?_, Or.inl rfl, ?_⟩
    · have := HB1.out
      simp at this
      exact this
    · rw [HT.out]
      exact Own.same HO.out fun b hb => set_other (HDB.out b hb)
    · exact ⟨rfl, rfl, rfl, by simp [World.setCell, World.drewN], fun k hk hne => set_other (fun e => hne (by rw [e]))⟩
end Go.Proofs.YtnhplbdbgiimkaaGreatDoor
