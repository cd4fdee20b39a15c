/-
  Several texts in one: WNew4, WNew5, WLog.
-/
import Derived.Test.YtnhplbdbgiimkaaGreatDoorZ18
namespace Go.Proofs.YtnhplbdbgiimkaaGreatDoor
open Go.RowKit Go.Lib Go.Maps Go.Sort
set_option linter.unusedVariables false

theorem toQ {w : World} {base : Nat} : ∀ l : List Pm, RecsM w base l → ∃ q : List Pq, q.map Pq.m = l
  | [], _ => ⟨[], rfl⟩
  | x :: l, h => by
    obtain ⟨q, hq⟩ := toQ l fun y hy => h y (List.mem_cons_of_mem _ hy)
    obtain ⟨p, c, hv, _⟩ := (h x (List.mem_cons_self ..)).len
    obtain ⟨xc, rv⟩ := x
    simp only at hv
    subst hv
    exact ⟨⟨xc, p, c⟩ :: q, by rw [List.map_cons, hq]; rfl⟩
theorem encQ_len (x : Pq) : (encQ x).length = 6 := rfl
theorem own_holdsQ [Inhabited Pq] {w : World} {base g n cap : Nat} {l : List Pq} (h : OwnM w base (.slice (some ⟨g, 0, none⟩) n cap) (l.map Pq.m)) : HoldsK encQ 6 w g 0 l.toArray ∧ g < w.heap.size ∧ n = l.length := by
  rcases h.2 with ⟨h1, _⟩ | ⟨g', cap', cur, hv, _, hg, _, _, _, ht⟩
  · cases h1
  · have hgg : g' = g := by cases hv; rfl
    have hnn : n = (l.map Pq.m).length := by cases hv; rfl
    subst hgg
    refine ⟨fun t ht' => ?_, (Array.getElem?_eq_some_iff.1 hg).1, by rw [hnn, List.length_map]⟩
    simp only [size_flatK, List.size_toArray] at ht'
    have hd : t / 6 < l.length := by rw [Nat.div_lt_iff_lt_mul (by decide)]; exact ht'
    have hm : t % 6 < 6 := Nat.mod_lt _ (by decide)
    have hx : (l.map Pq.m)[t / 6]? = some (l[t / 6]).m := by rw [List.getElem?_map, List.getElem?_eq_getElem hd]; rfl
    have e1 := rowP_get (l.map Pq.m) (t / 6) _ (t % 6) hx hm
    have e2 : t / 6 * 6 + t % 6 = t := by omega
    rw [e2] at e1
    refine ⟨?_, blk_free hg _⟩
    rw [Nat.zero_add, blk_cell hg t, get_flatK _ _ _ _ (by simpa using ht')]
    have e3 := congrArg (fun q => q[t]?) ht
    simp only [List.getElem?_take] at e3
    rw [if_pos (by rw [List.length_map]; exact ht')] at e3
    rw [← Array.getElem?_toList, e3, e1]
    have e4 : l.toArray[t / 6]! = l[t / 6] := by simp [hd]
    rw [e4]
    have : t % 6 < (encQ l[t / 6]).length := hm
    show (encQ l[t / 6])[t % 6]? = _
    rw [List.getElem?_eq_getElem this]
    simp [this]
theorem holds_atQ [Inhabited Pq] {w : World} {g : Nat} {l : List Pq} (h : HoldsK encQ 6 w g 0 l.toArray) : MAt w (some ⟨g, 0, none⟩) (l.map Pq.m) := fun _ => by
  refine ⟨g, rfl, fun i y hy j v hv => ?_⟩
  rw [List.getElem?_map] at hy
  obtain ⟨x, hx, rfl⟩ := Option.map_eq_some_iff.1 hy
  have hi : i < l.length := (List.getElem?_eq_some_iff.1 hx).1
  have hj : j < (encQ x).length := (List.getElem?_eq_some_iff.1 hv).1
  have := (h.cell (i := i) (c := j) (by simpa using hi) hj).1
  rw [Nat.zero_add] at this
  rw [this]
  have e1 : l.toArray[i]! = x := by
    rw [List.getElem?_eq_getElem hi] at hx
    simp only [Option.some.injEq] at hx
    simp [hi, hx]
  rw [e1]
  have hv' : (encQ x)[j]? = some v := hv
  rw [List.getElem?_eq_getElem hj] at hv'
  simp only [Option.some.injEq] at hv'
  simp [hj, hv']
theorem cmp_int (a b : Nat) : (Lib.compareInt (a : Nat) (b : Nat) < 0 ↔ a < b) ∧ (Lib.compareInt (a : Nat) (b : Nat) = 0 ↔ a = b) := by
  unfold Lib.compareInt
  by_cases h1 : a < b
  · rw [if_pos (by omega)]; constructor <;> constructor <;> intro h <;> omega
  · rw [if_neg (by omega)]
    by_cases h2 : b < a
    · rw [if_pos (by omega)]; constructor <;> constructor <;> intro h <;> omega
    · rw [if_neg (by omega)]; constructor <;> constructor <;> intro h <;> omega
theorem ltQ (x y : Pq) : ltOf cmpQ x y = decide (x.c.first < y.c.first ∨ x.c.first = y.c.first ∧ y.c.recs.length < x.c.recs.length) := by
  have h1 := cmp_int x.c.first y.c.first
  have h2 := cmp_int y.c.recs.length x.c.recs.length
  unfold ltOf cmpQ
  by_cases h : Lib.compareInt (x.c.first : Nat) (y.c.first : Nat) = 0
  · rw [if_pos h]
    have e := h1.2.1 h
    rw [decide_eq_decide, h2.1]
    constructor
    · intro k; exact Or.inr ⟨e, k⟩
    · rintro (k | ⟨_, k⟩)
      · omega
      · exact k
  · rw [if_neg h]
    rw [decide_eq_decide, h1.1]
    constructor
    · intro k; exact Or.inl k
    · rintro (k | ⟨k, _⟩)
      · exact k
      · exact absurd (h1.2.2 k) h
theorem swoQ : SWO (ltOf cmpQ) where
  irrefl x := by rw [ltQ]; simp
  trans x y z h1 h2 := by rw [ltQ] at *; simp at *; omega
  ntrans x y z h1 h2 := by rw [ltQ] at *; simp at *; omega
theorem lays_anyQ [Inhabited Pq] (blk off size : Nat) (w : World) : CmpLays Tryz.prog 50 #[] encQ 6 cmpQ blk off size w := fun _ _ _ _ x y => n2_any x y _
theorem encQ_one (x : Pq) : ∀ v ∈ encQ x, v.oneCell' = true := fun v hv => by
  simp only [encQ, encP, Pq.m, List.mem_cons, List.not_mem_nil, or_false] at hv
  rcases hv with rfl | rfl | rfl | rfl | rfl | rfl <;> rfl
/-- Sorted, and a permutation of what rises: what rises. -/
theorem sorted_isQ [Inhabited Pq] {l s : List Pq} (hp : l.Perm s) (hs : s.Pairwise fun a b => a.c.first < b.c.first) {d' : Array Pq} (h1 : PermIn 0 l.toArray.size l.toArray d') (h2 : SortedIn (ltOf cmpQ) 0 l.toArray.size d') : d'.toList = s := by
  obtain ⟨hz, _, hp'⟩ := h1
  have e1 : (d'.extract 0 l.toArray.size) = d' := by rw [← hz]; simp
  have e2 : (l.toArray.extract 0 l.toArray.size) = l.toArray := by simp
  rw [e1, e2] at hp'
  have hpp : d'.toList.Perm s := hp'.trans hp
  refine List.Perm.eq_of_pairwise (le := fun a b => a.c.first ≤ b.c.first) (fun a b ha hb h1 h2 => ?_) ?_ (hs.imp fun h => Nat.le_of_lt h) hpp
  · have ha' : a ∈ s := hpp.mem_iff.1 ha
    have hinj : ∀ (s : List Pq), (s.Pairwise fun a b => a.c.first < b.c.first) → ∀ a ∈ s, ∀ b ∈ s, a.c.first = b.c.first → a = b := by
      intro s hs
      induction s with
      | nil => intro a ha; cases ha
      | cons x r ih =>
        obtain ⟨k1, k2⟩ := List.pairwise_cons.1 hs
        intro a ha b hb e
        rcases List.mem_cons.1 ha with ea | ha2
        · rcases List.mem_cons.1 hb with eb | hb2
          · rw [ea, eb]
          · have := k1 b hb2; rw [ea] at e; omega
        · rcases List.mem_cons.1 hb with eb | hb2
          · have := k1 a ha2; rw [eb] at e; omega
          · exact ih k2 a ha2 b hb2 e
    exact hinj s hs a ha' b hb (by omega)
  · rw [List.pairwise_iff_getElem]
    intro i j hi hj hij
    have hi' : i < d'.size := by simpa using hi
    have hj' : j < d'.size := by simpa using hj
    have := h2 i j (Nat.zero_le _) hij (by rw [← hz]; exact hj')
    rw [ltQ] at this
    simp only [decide_eq_false_iff_not, not_or] at this
    rw [getElem!_pos d' i hi', getElem!_pos d' j hj'] at this
    simp only [Array.getElem_toList]
    omega
theorem sort_noneQ (p : Option Addr) (cap : Nat) (w : World) : Calls Tryz.prog 49 #[.slice p 0 cap, .func (.func 50) #[] #[]] w fun e w' => e = .returned (.tuple #[]) ∧ w' = w :=
  AnyF.slices_SortFunc_none Tryz.sortP p cap _ w
theorem sort_someQ (g cap base : Nat) (l s : List Pq) (w : World) (h : OwnM w base (.slice (some ⟨g, 0, none⟩) l.length cap) (l.map Pq.m)) (hp : l.Perm s) (hs : s.Pairwise fun a b => a.c.first < b.c.first) (hl : l.length ≤ 100000) :
    Calls Tryz.prog 49 #[.slice (some ⟨g, 0, none⟩) l.length cap, .func (.func 50) #[] #[]] w fun e w' => e = .returned (.tuple #[]) ∧ MAt w' (some ⟨g, 0, none⟩) (s.map Pq.m) ∧ w.grownBy w' (some g) := by
  haveI : Inhabited Pq := ⟨⟨⟨0, 0, 0, [], []⟩, none, 0⟩⟩
  obtain ⟨hH, hg, _⟩ := own_holdsQ h
  have hc := AnyQ.slices_SortFunc Tryz.sortP 6 Tryz.isAgg66 Tryz.sizeOf66 encQ (fun _ => rfl) encQ_one cmpQ swoQ 50 #[] g 0 cap l.toArray w (enters_of Tryz.func50 (by kernel_rfl) rfl) (lays_anyQ g 0 _ w) hH hg (by simp; omega)
  refine Calls.mono hc ?_
  rintro e w' ⟨rfl, d', n, os, h1, h2, rfl⟩
  have hd := sorted_isQ hp hs h1 h2
  have hsz : d'.size = l.toArray.size := h1.1
  refine ⟨rfl, ?_, ?_⟩
  · have := holdsK_sortWorldK encQ 6 w g 0 n l.toArray d' os hg hH hsz
    rw [show d' = s.toArray by rw [← hd]] at this ⊢
    exact holds_atQ this
  · refine ⟨rfl, rfl, rfl, by simp [sortWorldK, putRowK, putRow, mapBlock, Sort.ahead], fun k hk hne => ?_⟩
    have hgk : g ≠ k := fun e => hne (by rw [e])
    unfold sortWorldK putRowK
    rw [heap_grow_old _ _ (by simpa [putRow, mapBlock, Sort.ahead] using hk)]
    simp [putRow, mapBlock, Sort.ahead, Array.getElem?_modify, hgk]
end Go.Proofs.YtnhplbdbgiimkaaGreatDoor

namespace Go.Proofs.YtnhplbdbgiimkaaGreatDoor
open Go.RowKit Go.Lib Go.Maps Go.Sort
set_option linter.unusedVariables false

theorem perm_lift {α β : Type} {f : α → β} {m R : List β} (h : m.Perm R) : ∀ l : List α, l.map f = m → ∃ s, l.Perm s ∧ s.map f = R := by
  induction h with
  | nil => intro l hl; exact ⟨l, List.Perm.refl _, hl⟩
  | cons x h ih =>
    intro l hl
    cases l with
    | nil => simp at hl
    | cons a l =>
      simp only [List.map_cons, List.cons.injEq] at hl
      obtain ⟨s, h1, h2⟩ := ih l hl.2
      exact ⟨a :: s, h1.cons a, by rw [List.map_cons, hl.1, h2]⟩
  | swap x y t =>
    intro l hl
    cases l with
    | nil => simp at hl
    | cons a l =>
      cases l with
      | nil => simp at hl
      | cons b l =>
        simp only [List.map_cons, List.cons.injEq] at hl
        exact ⟨b :: a :: l, List.Perm.swap b a l, by simp [hl.1, hl.2.1, hl.2.2]⟩
  | trans h1 h2 ih1 ih2 =>
    intro l hl
    obtain ⟨s, k1, k2⟩ := ih1 l hl
    obtain ⟨s', k3, k4⟩ := ih2 s k2
    exact ⟨s', k1.trans k3, k4⟩
theorem C.pchain_at : ∀ (R : List C.Pc) (n j : Nat) (p : C.Pc), C.PChain n R → R[j]? = some p → p.first = n + ((R.take j).flatMap C.Pc.recs).length
  | [], _, _, _, _, h => by simp at h
  | x :: R, n, 0, p, hc, h => by
    obtain rfl : x = p := by simpa using h
    simp [hc.1]
  | x :: R, n, j + 1, p, hc, h => by
    have := C.pchain_at R (n + x.recs.length) j p hc.2 (by simpa using h)
    rw [this]
    simp only [List.take_succ_cons, List.flatMap_cons, List.length_append]
    omega
set_option maxRecDepth 100000 in
set_option maxHeartbeats 8000000 in
theorem newest_any (w0 w : World) (p : Option Addr) (cap : Nat) (q : List Pq) (R : List C.Pc) (a : Nat) (hb : Below w0.heap.size w0 w) (ho : OwnM w w0.heap.size (.slice p q.length cap) (q.map Pq.m)) (hr : RecsM w w0.heap.size (q.map Pq.m)) (hp : (q.map Pq.c).Perm R) (hch : C.PChain (C.st a) R) (hh : ∀ x ∈ R, C.has x = true) (ha : ∀ x ∈ R, x.age = a) (ha0 : R = [] → a = 0) (hl : q.length ≤ 1000) (hrec : C.st a + (R.flatMap C.Pc.recs).length ≤ 4294967296) :
    Calls Tryz.prog 27 #[.slice p q.length cap] w fun e w' => (∃ v l, e = .returned (.tuple #[v, .int .i64 0]) ∧ OwnM w' w0.heap.size v l ∧ RecsM w' w0.heap.size l ∧ l.map Pm.c = R) ∧ Below w0.heap.size w0 w' := by
  obtain ⟨s, hps, hsR⟩ := perm_lift hp q rfl
  have HAQ : Hid (∀ x ∈ q.map Pq.m, x.c.age = a) := fun x hx => by
    obtain ⟨y, hy, rfl⟩ := List.mem_map.1 hx
    exact ha _ (hp.mem_iff.1 (List.mem_map_of_mem hy))
  have HO : Hid (OwnM w w0.heap.size (.slice p q.length cap) (q.map Pq.m)) := ho
  have HM : Hid (MAt w p (q.map Pq.m)) := ho.at
  have HB : Hid (Below w0.heap.size w0 w) := hb
  have HR : Hid (RecsM w w0.heap.size (q.map Pq.m)) := hr
  obtain ⟨n, hn⟩ : ∃ n, n = q.length := ⟨_, rfl⟩
  have HN : Hid (n = q.length) := hn
  have HPS : Hid (q.Perm s) := hps
  have HSR : Hid (s.map Pq.c = R) := hsR
  have HNS : Hid (n = s.length) := by show _ = _; rw [hn]; exact hps.length_eq
  have HA0 : Hid (n = 0 → a = 0) := fun h => ha0 (by have h2 := hp.length_eq; rw [List.length_map, ← hn, h] at h2; exact List.eq_nil_of_length_eq_zero h2.symm)
  have HLT : Hid (s.Pairwise fun x y => x.c.first < y.c.first) := by
    have h1 := C.PChain.lt R _ hch hh
    rw [← hsR] at h1
    exact (List.pairwise_map (R := fun x y : C.Pc => x.first < y.first)).1 h1
  have HCH : Hid (C.PChain (C.st a) R) := hch
  have HRC : Hid (C.st a + (R.flatMap C.Pc.recs).length ≤ 4294967296) := hrec
  have haN : a ≤ 4294967296 ∨ True := Or.inr trivial
  rw [← hn] at hl ho
  rw [← hn] at HO
  rw [← hn]
  clear ho hb hr hp hch hh ha ha0 hn hps hsR hrec haN
  obtain ⟨ga, hga⟩ : ∃ ga, ga = w.heap.size := ⟨_, rfl⟩
  obtain ⟨W1, hW1⟩ : ∃ W1, W1 = w.alloc (.cells #[.int .i64 0] 3) := ⟨_, rfl⟩
  have HB1 : Hid (Below w.heap.size w W1) := by show Below _ _ _; rw [hW1]; exact below_new _ _
  have HX1 : Hid (W1.heap[ga]? = some (.cells #[.int .i64 ((0 : Nat) : Int)] 3)) := by show _ = _; rw [hW1, hga]; exact heap_alloc_new _ _
  have HGA : Hid (w.heap.size ≤ ga) := Nat.le_of_eq hga.symm
  go_enter Tryz.func27, Tryz.ntmps27
  go_wp2_with fail
  rw [← hW1]
  rw [← hga]
  clear hW1 hga
  go_loopw [13] (fun s13 wr => ∃ (k m : Nat), s13 = .int .i64 k ∧ k ≤ n ∧ (k = 0 → m = 0) ∧ (0 < k → m = a) ∧ Hid (Below w.heap.size w wr) ∧ Hid (wr.heap[ga]? = some (.cells #[.int .i64 (m : Int)] 3))) (fun s13 _ => n - (intOf s13).toNat)
  case atStart => exact ⟨0, 0, rfl, Nat.zero_le _, fun _ => rfl, fun h => absurd h (by omega), HB1.out, HX1.out⟩
  case round =>
    clear HB1 HX1
    obtain ⟨k, m, rfl, hk, hm0, hma, HBr, HX⟩ := hrel
    by_cases hlt : k < n
    · obtain ⟨x, hx⟩ : ∃ x, (q.map Pq.m)[k]? = some x := ⟨_, List.getElem?_eq_getElem (by rw [List.length_map]; have := HN.out; omega)⟩
      have hagex := HAQ.out x (List.mem_of_getElem? hx)
      obtain ⟨g, hpg, hc⟩ := HM.out (by rw [List.length_map]; have := HN.out; omega)
      subst hpg
      have hkz : (k : Int) < (n : Int) := by omega
      have hw : ∀ j u, (encP x)[j]? = some u → wr.cell? ⟨g, k * 6 + j, none⟩ = some u := fun j u hu => (HBr.out.cell (p := ⟨g, k * 6 + j, none⟩) (World.block_lt_of_cell? _ _ (hc k x hx j u hu))).trans (hc k x hx j u hu)
      have z0 := hw 0 _ rfl
      have z1 := hw 1 _ rfl
      have z2 := hw 2 _ rfl
      have z3 := hw 3 _ rfl
      have z4 := hw 4 _ rfl
      have z5 := hw 5 _ rfl
      simp only [Nat.add_zero] at z0
      rw [hagex] at z1
      have hq := HX.out
      have y0 : ∀ ob, (wr.alloc ob).cell? ⟨ga, 0, none⟩ = some (.int .i64 (m : Int)) := fun ob => (blk_cell (keep_w (below_new wr ob) hq) 0).trans rfl
      have f0 : ∀ ob, (wr.alloc ob).frozen? ⟨ga, 0, none⟩ = false := fun ob => blk_free (keep_w (below_new wr ob) hq) 0
      have y1 := blk_cell (heap_alloc_new wr (.cells #[.int .i64 (x.c.file : Nat), .int .i64 (a : Nat), .int .i64 (x.c.first : Nat), x.rv, .int .i64 (x.c.fin : Nat), .bool x.c.torn] 66)) 1
      simp only [List.getElem?_toArray, List.getElem?_cons_succ, List.getElem?_cons_zero] at y1
      have hone : x.rv.oneCell' = true := by
        obtain ⟨y, _, rfl⟩ := List.mem_map.1 (List.mem_of_getElem? hx)
        rfl
      have HE : Hid (∀ P : Obj, Below w.heap.size w ((wr.alloc P).setCell ⟨ga, 0, none⟩ (.int .i64 (a : Int))) ∧ ((wr.alloc P).setCell ⟨ga, 0, none⟩ (.int .i64 (a : Int))).heap[ga]? = some (.cells #[.int .i64 (a : Int)] 3)) := fun P => ⟨Below.setCell (bt HBr.out (below_new _ _)) HGA.out _, by
        have h1 := keep_w (below_new wr P) hq
        simp [World.setCell, Array.getElem?_modify, h1]⟩
      have hae : (m : Int) < (a : Int) ∨ (m : Int) = (a : Int) := by
        rcases Nat.eq_zero_or_pos k with h0 | h0
        · have := hm0 h0; omega
        · have := hma h0; omega
      obtain ⟨xc, xv⟩ := x
      obtain ⟨y, _, hy⟩ := List.mem_map.1 (List.mem_of_getElem? hx)
      have hxv : xv = .slice y.p y.c.recs.length y.k := by have := congrArg Pm.rv hy; exact this.symm
      simp only at *
      subst hxv
      clear hw hc hx hagex hq hone hy
      have hmx : max (m : Int) (a : Int) = (a : Int) := by omega
      clear hae
      go_wp2
      go_roundw
      case rel => exact ⟨k + 1, a, by go_num, by omega, fun h => absurd h (by omega), fun _ => rfl, (HE.out _).1, (HE.out _).2⟩
      case measure => simp [intOf]; omega
    · obtain rfl : k = n := by omega
      have hme : m = a := by
        rcases Nat.eq_zero_or_pos k with h0 | h0
        · rw [hm0 h0, HA0.out h0]
        · exact hma h0
      subst hme
      have hbx := HX.out
      have HXA : Hid (wr.heap[ga]? = some (.cells #[.int .i64 (m : Int)] 3)) := hbx
      have HDL : Hid (Calls Tryz.prog 47 #[.slice p k cap, .func (.func 48) #[] #[.pointer (some ⟨ga, 0, none⟩)]] wr fun e w' => e = .returned (.slice p k cap) ∧ Below wr.heap.size wr w') := by
        have h1 := del_any p (q.map Pq.m) cap ga m wr (HM.out.below HBr.out) (by rw [List.length_map]; have := HN.out; omega) ((blk_cell hbx 0).trans rfl) HAQ.out
        rw [List.length_map, ← HN.out] at h1
        exact h1
      have HBW : Hid (Below w0.heap.size w0 wr) := bt HB.out HBr.out
      have HOr : Hid (OwnM wr w0.heap.size (.slice p k cap) (q.map Pq.m)) := HO.out.below HBr.out
      have HRr : Hid (RecsM wr w0.heap.size (q.map Pq.m)) := HR.out.below HBr.out
      have HGW : Hid (w.heap.size ≤ ga ∧ ga < wr.heap.size) := ⟨HGA.out, (Array.getElem?_eq_some_iff.1 hbx).1⟩
      have HOW : Hid (∀ b, (Value.slice p k cap).ownBlock = some b → b < w.heap.size ∧ w0.heap.size ≤ b) := fun b hb => ⟨row_lt HO.out hb, OwnM.ge HO.out b hb⟩
      clear hbx HX HBr HO HR HM HAQ HGA
      go_wp2_with fail
      refine HDL.out.mono ?_
      rintro e w5 ⟨rfl, hb5⟩
      have HB5 : Hid (Below w0.heap.size w0 w5) := bt HBW.out hb5
      have HO5 : Hid (OwnM w5 w0.heap.size (.slice p k cap) (q.map Pq.m)) := HOr.out.below hb5
      have HR5 : Hid (RecsM w5 w0.heap.size (q.map Pq.m)) := HRr.out.below hb5
      have HX5 : Hid (w5.heap[ga]? = some (.cells #[.int .i64 (m : Int)] 3)) := keep_w hb5 HXA.out
      clear hb5 HDL HBW HOr HRr HXA
      have HSO : Hid (Calls Tryz.prog 49 #[.slice p k cap, .func (.func 50) #[] #[]] w5 fun e w' => e = .returned (.tuple #[]) ∧ MAt w' p (s.map Pq.m) ∧ w5.grownBy w' (Value.slice p k cap).ownBlock) := by
        rcases HO5.out.2 with ⟨hv, h0⟩ | ⟨g, cap', cur, hv, _⟩
        · have hp0 : p = none := by cases hv; rfl
          have hk0 : k = 0 := by cases hv; rfl
          subst hp0
          refine Calls.mono (by rw [hk0]; exact sort_noneQ none cap w5) ?_
          rintro e w' ⟨rfl, rfl⟩
          refine ⟨rfl, fun hl => ?_, ⟨rfl, rfl, rfl, Nat.le_refl _, fun _ _ _ => rfl⟩⟩
          rw [List.length_map, ← HNS.out] at hl
          omega
        · have hp0 : p = some ⟨g, 0, none⟩ := by cases hv; rfl
          subst hp0
          have h1 := sort_someQ g cap w0.heap.size q s w5 (by rw [← HN.out]; exact HO5.out) HPS.out HLT.out (by have := HN.out; omega)
          rw [← HN.out] at h1
          exact h1
      go_wp2_with fail
      refine HSO.out.mono ?_
      rintro e w6 ⟨rfl, hm6, hg6⟩
      have HB6 : Hid (Below w0.heap.size w0 w6) := Below.grown HB5.out hg6 HB5.out.size (fun b hb => (HOW.out b hb).2)
      have HM6 : Hid (MAt w6 p (s.map Pq.m)) := hm6
      have HX6 : Hid (w6.heap[ga]? = some (.cells #[.int .i64 (m : Int)] 3)) := by
        show _ = _
        rw [hg6.block ga (Array.getElem?_eq_some_iff.1 HX5.out).1 fun e => by have h1 := (HOW.out ga e.symm).1; have h2 := HGW.out.1; omega]
        exact HX5.out
      have HR6 : Hid (RecsM w6 w0.heap.size (s.map Pq.m)) := fun x hx => by
        obtain ⟨y, hy, rfl⟩ := List.mem_map.1 hx
        exact RecsOwn.grownM (HR5.out _ (List.mem_map_of_mem (HPS.out.mem_iff.2 hy))) HO5.out hg6
      clear hm6 hg6 HSO HB5 HO5 HR5 HX5
      have y0 : w6.cell? ⟨ga, 0, none⟩ = some (.int .i64 (m : Int)) := (blk_cell HX6.out 0).trans rfl
      have HFS : Hid (∀ j y, s[j]? = some y → y.c.first = C.st m + ((s.take j).flatMap fun z => z.c.recs).length) := fun j y hy => by
        have h1 := C.pchain_at R (C.st m) j y.c HCH.out (by rw [← HSR.out, List.getElem?_map, hy]; rfl)
        rw [h1, ← HSR.out, ← List.map_take, List.flatMap_map]
      have HSM : Hid (C.st m + (s.flatMap fun z => z.c.recs).length ≤ 4294967296) := by
        have h1 := HRC.out
        rw [← HSR.out, List.flatMap_map] at h1
        exact h1
      obtain ⟨z, hz⟩ : ∃ z, ((m : Int) == 0) = z := ⟨_, rfl⟩
      have HST : Hid (C.st m = if z = true then 1 else 0) := by
        show _ = _
        rw [← hz]
        unfold C.st
        by_cases h0 : m = 0
        · rw [if_pos h0, if_pos (by simp [h0])]
        · rw [if_neg h0, if_neg (by simp; omega)]
      clear HCH HRC
      cases z
      all_goals
        have hst : C.st m = _ := HST.out
        simp only [if_true, if_false, Bool.false_eq_true] at hst
        have HS2 : Hid (C.st m = _) := hst
        clear hst HST
        go_wp2_with fail
        clear hz y0
        go_loopw [7, 8, 31] (fun s7 s8 s31 wr => ∃ (j : Nat), s31 = .int .i64 j ∧ j ≤ k ∧ s7 = .int .i64 ((C.st m + ((s.take j).flatMap fun z => z.c.recs).length : Nat) : Int) ∧ Hid (OwnM wr w6.heap.size s8 ((s.take j).map Pq.m)) ∧ Hid (Below w6.heap.size w6 wr)) (fun _ _ s31 _ => k - (intOf s31).toNat)
        case atStart => exact ⟨0, rfl, Nat.zero_le _, by rw [HS2.out]; rfl, OwnM.nil _ _, Below.refl _ _⟩
        case round =>
          obtain ⟨j, rfl, hj, rfl, HOW2, HBr⟩ := hrel
          by_cases hlt2 : j < k
          · obtain ⟨y, hy⟩ : ∃ y, s[j]? = some y := ⟨_, List.getElem?_eq_getElem (by have := HNS.out; omega)⟩
            have hjz : (j : Int) < (k : Int) := by omega
            obtain ⟨g, hpg, hc⟩ := HM6.out (by rw [List.length_map]; have := HNS.out; omega)
            subst hpg
            have hxy : (s.map Pq.m)[j]? = some y.m := by rw [List.getElem?_map, hy]; rfl
            have hw : ∀ i u, (encP y.m)[i]? = some u → wr.cell? ⟨g, j * 6 + i, none⟩ = some u := fun i u hu => (HBr.out.cell (p := ⟨g, j * 6 + i, none⟩) (World.block_lt_of_cell? _ _ (hc j _ hxy i u hu))).trans (hc j _ hxy i u hu)
            have z0 := hw 0 _ rfl
            have z1 := hw 1 _ rfl
            have z2 := hw 2 _ rfl
            have z3 := hw 3 _ rfl
            have z4 := hw 4 _ rfl
            have z5 := hw 5 _ rfl
            simp only [Nat.add_zero] at z0
            have hfy := HFS.out j y hy
            have HTK : Hid ((s.take (j + 1)).map Pq.m = (s.take j).map Pq.m ++ [y.m] ∧ ((s.take (j + 1)).flatMap fun z => z.c.recs).length = ((s.take j).flatMap fun z => z.c.recs).length + y.c.recs.length) := by
              rw [List.take_add_one, hy]
              constructor
              · simp
              · simp
            have HTL : Hid (C.st m + ((s.take j).flatMap fun z => z.c.recs).length + y.c.recs.length ≤ 4294967296) := by
              have h1 := HSM.out
              have h2 := HTK.out.2
              have h3 : ((s.take (j + 1)).flatMap fun z => z.c.recs).length ≤ (s.flatMap fun z => z.c.recs).length := by
                have h4 := List.take_append_drop (j + 1) s
                have h5 : (s.flatMap fun z => z.c.recs) = ((s.take (j + 1)).flatMap fun z => z.c.recs) ++ ((s.drop (j + 1)).flatMap fun z => z.c.recs) := by rw [← List.flatMap_append, h4]
                rw [h5, List.length_append]; omega
              show _ ≤ _
              omega
            obtain ⟨nx, hnx⟩ : ∃ nx, nx = C.st m + ((s.take j).flatMap fun z => z.c.recs).length := ⟨_, rfl⟩
            rw [← hnx] at hfy ⊢
            have HNX : Hid (nx = C.st m + ((s.take j).flatMap fun z => z.c.recs).length) := hnx
            have hnl : nx + y.c.recs.length ≤ 4294967296 := by rw [hnx]; exact HTL.out
            subst hfy
            obtain ⟨vp, vc, hv, hvc, -⟩ := OwnM.len HOW2.out
            subst hv
            obtain ⟨P, hP⟩ : ∃ P, P = (Obj.cells (encP y.m).toArray 66) := ⟨_, rfl⟩
            have HPA : Hid (OwnM ((wr.alloc P).alloc P) w6.heap.size (.slice vp ((s.take j).map Pq.m).length vc) ((s.take j).map Pq.m)) := (HOW2.out.below (below_new _ _)).below (below_new _ _)
            have HY : Hid _ := encP_cells (w := wr.alloc P) (B := wr.heap.size + 1) y.m P (by simp) hP
            have HPN : Hid (((s.take j).map Pq.m).length ≤ 100000) := by
              show _ ≤ _
              rw [List.length_map, List.length_take]; have := HNS.out; omega
            have HBS : Hid (w6.heap.size ≤ ((wr.alloc P).alloc P).heap.size) := by
              show _ ≤ _
              have := HBr.out.size
              simp; omega
            have HWB : Hid (Below w6.heap.size w6 ((wr.alloc P).alloc P)) := bt (bt HBr.out (below_new _ _)) (below_new _ _)
            have HRW : Hid (∀ b, (Value.slice vp ((s.take j).map Pq.m).length vc).ownBlock = some b → w6.heap.size ≤ b ∧ b < wr.heap.size) := fun b hb => ⟨OwnM.ge HOW2.out b hb, row_lt HOW2.out hb⟩
            have HQ3 : Hid (∀ w4, ((wr.alloc P).alloc P).grownBy w4 (Value.slice vp ((s.take j).map Pq.m).length vc).ownBlock → w4.cell? ⟨wr.heap.size, 3, none⟩ = some y.m.rv) := fun w4 hg4 => by
              have h1 : ((wr.alloc P).alloc P).heap[wr.heap.size]? = some P := keep_w (below_new (wr.alloc P) P) (heap_alloc_new wr P)
              have h2 : w4.heap[wr.heap.size]? = some P := by
                rw [hg4.block _ (Array.getElem?_eq_some_iff.1 h1).1 fun e => by have := (HRW.out _ e.symm).2; omega]
                exact h1
              rw [hP] at h2
              exact (blk_cell h2 3).trans rfl
            have hyb : ∀ i, (wr.alloc P).cell? ⟨wr.heap.size, i, none⟩ = (encP y.m)[i]? := fun i => by
              have h1 := heap_alloc_new wr P
              have h2 : (wr.alloc P).heap[wr.heap.size]? = some (.cells (encP y.m).toArray 66) := by rw [h1, hP]
              rw [blk_cell h2 i]; simp
            have y0 := hyb 0
            have y1 := hyb 1
            have y2 := hyb 2
            have y3 := hyb 3
            have y4 := hyb 4
            have y5 := hyb 5
            have hv1 : y.m.rv.oneCell' = true := rfl
            subst hP
            simp only [encP, Pq.m, List.getElem?_cons_succ, List.getElem?_cons_zero] at y0 y1 y2 y3 y4 y5 z0 z1 z2 z3 z4 z5 HPA HY HBS HWB HQ3
            clear hyb hw hc hxy hy hnx hvc hv1
            have hvc' : vc ≤ 9223372036854775807 ∨ True := Or.inr trivial
            go_wp2_with (at_builtin; go_must ((refine wpList_append_pm rfl _ _ rfl w6.heap.size _ ((s.take j).map Pq.m) rfl HPA.out y.m (wr.heap.size + 1) rfl HY.out rfl HPN.out HBS.out ?_; intro v4 w4 ho4 hg4; have q3 := HQ3.out w4 hg4; have HO4 : Hid (OwnM w4 w6.heap.size v4 ((s.take j).map Pq.m ++ [y.m])) := ho4; have HB4 : Hid (Below w6.heap.size w6 w4) := HWB.out.grown hg4 HWB.out.size (fun b hb => (HRW.out b hb).1); clear ho4 hg4)))
            go_roundw
            case rel => exact ⟨j + 1, by go_num, by omega, by rw [HTK.out.2, ← Nat.add_assoc, ← HNX.out]; simp, by show OwnM _ _ _ _; rw [HTK.out.1]; exact HO4.out, HB4.out⟩
            case measure => simp [intOf]; omega
          · obtain rfl : j = k := by omega
            have htk : s.take j = s := List.take_of_length_le (by have := HNS.out; omega)
            rw [htk] at HOW2
            clear htk
            go_wp2
            refine bodyPost_ret (v := .tuple #[u8, .int .i64 0]) (by simp [results, Tryz.results27, go_sem, *]) rfl ?_
            refine ⟨⟨u8, s.map Pq.m, rfl, row_lower HOW2.out HB6.out.size, fun x hx => (HR6.out x hx).below HBr.out, ?_⟩, bt HB6.out HBr.out⟩
            rw [← HSR.out, List.map_map]; rfl
end Go.Proofs.YtnhplbdbgiimkaaGreatDoor

namespace Go.Proofs.YtnhplbdbgiimkaaGreatDoor
open Go.RowKit Go.Lib
set_option linter.unusedVariables false

structure LgC where
  d : Nat
  lives : Nat
  full : Bool
  part : Nat
  age : Nat
  base : Value
  recs : Value
  tf : Nat
  tc : Nat
  te : Nat
  tt : Bool
  dirty : Value
def LgC.cells (c : LgC) : List Value := [.pointer (some ⟨c.d, 0, none⟩), .int .i64 (c.lives : Nat), .bool c.full, .int .i64 (c.part : Nat), .int .i64 (c.age : Nat), c.base, c.recs, .int .i64 (c.tf : Nat), .int .i64 (c.tc : Nat), .int .i64 (c.te : Nat), .bool c.tt, c.dirty]
/-- A log at block g. -/
def LgAt (w : World) (g : Nat) (c : LgC) : Prop := w.heap[g]? = some (.cells c.cells.toArray 64)
theorem LgAt.cell {w : World} {g : Nat} {c : LgC} (h : LgAt w g c) (i : Nat) : w.cell? ⟨g, i, none⟩ = c.cells[i]? := by
  have h1 := blk_cell h i
  rw [h1]; simp
theorem LgAt.below {w w' : World} {g : Nat} {c : LgC} (h : LgAt w g c) (hb : Below w.heap.size w w') : LgAt w' g c := keep_w hb h
theorem LgAt.fz {w : World} {g : Nat} {c : LgC} (h : LgAt w g c) (i : Nat) : w.frozen? ⟨g, i, none⟩ = false := blk_free h i
def doneB (c : LgC) (s : C.St) : Bool := c.full || (s.off || decide (s.lives ≠ c.lives))
theorem C.fs_up (s : C.St) : (C.fs s).Pairwise (· < ·) := List.Pairwise.filter _ List.pairwise_lt_range
theorem C.free_out : ∀ (l : List Nat) (f : Nat), l.Pairwise (· < ·) → (∀ i, i < f → l[i]? = some i) → l[f]? ≠ some f → ¬ f ∈ l := fun l f hu hf hn hm => by
  obtain ⟨j, hj⟩ := List.getElem?_of_mem hm
  have hjl := (List.getElem?_eq_some_iff.1 hj).1
  rcases Nat.lt_trichotomy j f with h | h | h
  · have := hf j h
    rw [hj] at this
    cases this
    omega
  · subst h; exact hn hj
  · have hfl : f < l.length := by omega
    have h1 := List.pairwise_iff_getElem.1 hu f j hfl hjl h
    have h2 : l[j] = f := (List.getElem?_eq_some_iff.1 hj).2
    have h3 : f ≤ l[f] := by
      rcases Nat.eq_zero_or_pos f with h0 | h0
      · omega
      · have h4 := hf (f - 1) (by omega)
        have h5 := List.pairwise_iff_getElem.1 hu (f - 1) f (by omega) hfl (by omega)
        have h6 : l[f - 1] = f - 1 := (List.getElem?_eq_some_iff.1 h4).2
        omega
    omega
set_option maxRecDepth 100000 in
set_option maxHeartbeats 4000000 in
theorem free_any (w : World) (g : Nat) (c : LgC) (S : Nat → Prop) (s : C.St) (h : LgAt w g c) (hd : Disk w c.d S s) (hm : s.made ≤ 1000000) (hoff : s.off = false) :
    Calls Tryz.prog 38 #[.pointer (some ⟨g, 0, none⟩)] w fun e w' => (∃ f : Nat, e = .returned (.tuple #[.int .i64 (f : Nat), .int .i64 (1000 - ((C.fs s).length : Int))]) ∧ ¬ f ∈ C.fs s ∧ f ≤ (C.fs s).length) ∧ Below w.heap.size w w' := by
  have HF : Hid _ := files_any w c.d S s hd hm
  rw [files_fs hoff] at HF
  have c0 := h.cell 0
  simp only [LgC.cells, List.getElem?_cons_zero] at c0
  have HUP : Hid ((C.fs s).Pairwise (· < ·)) := C.fs_up s
  have HFL : Hid ((C.fs s).length ≤ 1000) := by
    show _ ≤ _
    exact Nat.le_trans (List.length_filter_le _ _) (by simp)
  have HFM : Hid (∀ k ∈ C.fs s, k < 1000) := fun k hk => (C.fs_mem hk).1
  generalize C.fs s = F at HF HUP HFL HFM ⊢
  generalize c.d = d at *
  clear h hd hm hoff
  obtain ⟨fl, hfl⟩ : ∃ fl, fl = F.length := ⟨_, rfl⟩
  have HFN : Hid (fl = F.length) := hfl
  rw [← hfl]
  clear hfl
  go_enter Tryz.func38, Tryz.ntmps38
  go_wp2_with fail
  refine Calls.mono HF.out ?_
  rintro e w1 ⟨⟨p, n, k, rfl, hn, hz, -⟩, hb1⟩
  rw [List.length_map] at hn
  have HZ : Hid (ZAt w1 p (F.map fun k : Nat => (k : Int))) := hz
  have HB1 : Hid (Below w.heap.size w w1) := hb1
  have HN : Hid (n = F.length) := hn
  have hn1000 : n ≤ 1000 := by rw [hn]; exact HFL.out
  obtain rfl : n = fl := by rw [hn]; exact HFN.out.symm
  clear hz hb1 hn HF c0
  go_wp2_with fail
  go_loopw [2] (fun s2 wr => ∃ (j : Nat), s2 = .int .i64 j ∧ j ≤ n ∧ wr = w1 ∧ Hid (∀ i, i < j → F[i]? = some i)) (fun s2 _ => n - (intOf s2).toNat)
  case atStart => exact ⟨0, rfl, Nat.zero_le _, rfl, fun i hi => absurd hi (Nat.not_lt_zero _)⟩
  case round =>
    obtain ⟨j, rfl, hj, rfl, HK⟩ := hrel
    by_cases hlt : j < n
    · obtain ⟨f, hf⟩ : ∃ f, F[j]? = some f := ⟨_, List.getElem?_eq_getElem (by have := HN.out; omega)⟩
      obtain ⟨b, o, hp, hc⟩ := HZ.out (by rw [List.length_map]; have := HN.out; omega)
      subst hp
      have hjz : (j : Int) < (n : Int) := by omega
      have y0 := hc j (by rw [List.length_map]; have := HN.out; omega)
      have hgd : (List.map (fun k : Nat => (k : Int)) F).getD j 0 = (f : Int) := by simp [List.getD, hf]
      rw [hgd] at y0
      have HFJ : Hid (F[j]? = some f) := hf
      clear hc hgd hf
      by_cases hfj : f = j
      · subst hfj
        go_wp2
        go_roundw
        case rel =>
          refine ⟨f + 1, by go_num, by omega, by first | rfl | trivial, fun i hi => ?_⟩
          by_cases e : i = f
          · subst e; exact HFJ.out
          · exact HK.out i (by omega)
        case measure => simp [intOf]; omega
      · have hne : ((f : Int) == (j : Int)) = false := by rw [beq_eq_false_iff_ne]; omega
        go_wp2
        refine bodyPost_ret (v := .tuple #[.int .i64 (j : Nat), .int .i64 (1000 - (n : Int))]) (by simp [results, Tryz.results38, go_sem, *]) rfl ?_
        exact ⟨⟨j, rfl, C.free_out F j HUP.out HK.out (by rw [HFJ.out]; intro e; cases e; exact hfj rfl), hj⟩, HB1.out⟩
    · obtain rfl : j = n := by omega
      go_wp2
      refine bodyPost_ret (v := .tuple #[.int .i64 (j : Nat), .int .i64 (1000 - (j : Int))]) (by simp [results, Tryz.results38, go_sem, *]) rfl ?_
      exact ⟨⟨j, rfl, C.free_out F j HUP.out HK.out (by rw [List.getElem?_eq_none (by have := HN.out; omega)]; intro e; cases e), hj⟩, HB1.out⟩
set_option maxRecDepth 100000 in
set_option maxHeartbeats 4000000 in
theorem done_any (w : World) (g : Nat) (c : LgC) (S : Nat → Prop) (s : C.St) (h : LgAt w g c) (hd : Disk w c.d S s) :
    Calls Tryz.prog 18 #[.pointer (some ⟨g, 0, none⟩)] w fun e w' => e = .returned (.bool (doneB c s)) ∧ Below w.heap.size w w' := by
  obtain ⟨zp, hzp⟩ : ∃ zp, (!s.off) = zp := ⟨_, rfl⟩
  obtain ⟨lv, hlv⟩ : ∃ lv, s.lives = lv := ⟨_, rfl⟩
  obtain ⟨r, hr⟩ : ∃ r, doneB c s = r := ⟨_, rfl⟩
  have HR : Hid (r = (c.full || (!zp || decide (lv ≠ c.lives)))) := by
    show _ = _
    rw [← hr, ← hzp, ← hlv]
    unfold doneB
    rw [Bool.not_not]
  have HP : Hid (∀ n : NewW w, Calls Tryz.prog 25 #[.pointer (some ⟨c.d, 0, none⟩)] n.v fun e w' => e = .returned (.bool zp) ∧ Below n.v.heap.size n.v w') := fun n => (power_any n.v c.d S s (hd.below n.h)).mono fun e w' ⟨he, hw⟩ => ⟨by rw [he, hzp], by rw [hw]; exact Below.refl _ _⟩
  have HL : Hid (∀ n : NewW w, Calls Tryz.prog 28 #[.pointer (some ⟨c.d, 0, none⟩)] n.v fun e w' => e = .returned (.int .i64 (lv : Nat)) ∧ Below n.v.heap.size n.v w') := fun n => (lives_any n.v c.d S s (hd.below n.h)).mono fun e w' ⟨he, hw⟩ => ⟨by rw [he, hlv], by rw [hw]; exact Below.refl _ _⟩
  have c0 : ∀ n : NewW w, n.v.cell? ⟨g, 0, none⟩ = some (.pointer (some ⟨c.d, 0, none⟩)) := fun n => ((h.below n.h).cell 0).trans rfl
  have c1 : ∀ n : NewW w, n.v.cell? ⟨g, 1, none⟩ = some (.int .i64 (c.lives : Nat)) := fun n => ((h.below n.h).cell 1).trans rfl
  have c2 : ∀ n : NewW w, n.v.cell? ⟨g, 2, none⟩ = some (.bool c.full) := fun n => ((h.below n.h).cell 2).trans rfl
  have hne : Nonempty (NewW w) := ⟨NewW.start w⟩
  rw [hr]
  clear hr hzp hlv h hd
  obtain ⟨d, lives, full, part, age, base, recs, tf, tc, te, tt, dirty⟩ := c
  simp only at *
  cases full <;> cases zp
  all_goals
    by_cases hll : lv = lives
    · have hl1 : ((lv : Int) != (lives : Int)) = false := by simp [hll]
      go_enter Tryz.func18, Tryz.ntmps18
      go_wp2_with fail
      refine wp_region_new (by kernel_rfl) (by kernel_rfl) ?_
      repeat (go_big_quiet_step ((first | (with_reducible exact new_of (HP.out _)) | (with_reducible exact new_of (HL.out _)))))
      refine wpQuiet_nil ?_
      rintro _ ⟨w2, rfl⟩
      clear c0 c1 c2 hne
      go_wp2
      go_ret
      refine ⟨?_, w2.h⟩
      have e := HR.out
      simp [hll] at e
      rw [e]
      try rfl
    · have hl1 : ((lv : Int) != (lives : Int)) = true := by rw [bne_iff_ne]; omega
      go_enter Tryz.func18, Tryz.ntmps18
      go_wp2_with fail
      refine wp_region_new (by kernel_rfl) (by kernel_rfl) ?_
      repeat (go_big_quiet_step ((first | (with_reducible exact new_of (HP.out _)) | (with_reducible exact new_of (HL.out _)))))
      refine wpQuiet_nil ?_
      rintro _ ⟨w2, rfl⟩
      clear c0 c1 c2 hne
      go_wp2
      go_ret
      refine ⟨?_, w2.h⟩
      have e := HR.out
      simp [hll] at e
      rw [e]
      try rfl
end Go.Proofs.YtnhplbdbgiimkaaGreatDoor
