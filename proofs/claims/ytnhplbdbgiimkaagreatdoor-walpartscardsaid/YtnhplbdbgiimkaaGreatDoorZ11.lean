/-
  Several texts in one: WCrash, WCrash2, WLaw.
-/
import Derived.Test.YtnhplbdbgiimkaaGreatDoorZ10
namespace Go.Proofs.YtnhplbdbgiimkaaGreatDoor
open Go.RowKit Go.Lib Go.Maps
open C (upd upd_same upd_other)
set_option linter.unusedVariables false

/-- The world under a letter, with what is known of it. -/
theorem wp_world {P : Program} {s : Code} {Q : Exit → Act → World → Prop} {a : Act} {w : World} (R : World → Prop) (h : R w) (k : ∀ w', R w' → s.wp P Q a w') : s.wp P Q a w := k w h
/-- In Crash's first loop: k writes are looked at. -/
def Cr1 (w : World) (L : Lay) (S : Nat → Prop) (s : C.St) (keep torn : Int) (p : Option Addr) (k : Nat) (wr : World) : Prop :=
  DMem wr L s.made ⟨s.room, C.used s.ws, s.made, false, s.lives⟩ (fun j => C.saf s.ws j + C.addS keep torn 0 ((C.pend s.ws).take k) j) (C.dat s.ws) (C.pof s.ws) ∧ WAt wr p (C.pend s.ws) ∧ Turn w wr S
theorem cr1_alloc {w wr : World} {L : Lay} {S : Nat → Prop} {s : C.St} {keep torn : Int} {p : Option Addr} {k : Nat} (h : Cr1 w L S s keep torn p k wr) (o : Obj) : Cr1 w L S s keep torn p k (wr.alloc o) ∧ (wr.alloc o).heap[wr.heap.size]? = some o ∧ w.heap.size ≤ wr.heap.size :=
  ⟨⟨h.1.same fun b hb => Below.heap_alloc _ _ _ (h.1.foot_lt hb), h.2.1.below (below_new _ _), h.2.2.alloc _⟩, heap_alloc_new _ _, h.2.2.size⟩
theorem Lay.file_self (L : Lay) (k : Nat) : L.file k (L.d k) (L.w k) = L := by
  have h1 : upd L.d k (L.d k) = L.d := by funext j; by_cases e : j = k; · subst e; exact upd_same _ _ _
                                          · exact upd_other _ _ e
  have h2 : upd L.w k (L.w k) = L.w := by funext j; by_cases e : j = k; · subst e; exact upd_same _ _ _
                                          · exact upd_other _ _ e
  unfold Lay.file; rw [h1, h2]
theorem cr1_step {w wr : World} {L : Lay} {S : Nat → Prop} {s : C.St} {keep torn : Int} {b k : Nat} {x : C.Wr} (h : Cr1 w L S s keep torn (some ⟨b, 0, none⟩) k wr) (hx : (C.pend s.ws)[k]? = some x) (his : L.is x.file = true) (hF : ∀ b, L.foot b → S b) (hS : ∀ b, S b → b < w.heap.size) (hb : w.heap.size ≤ b) {q d : Nat}
    (hq : q = C.saf s.ws x.file + C.addS keep torn 0 ((C.pend s.ws).take k) x.file) (hd : d = C.stay keep torn k x.bytes.length) {n : Nat} : Cr1 w L S s keep torn (some ⟨b, 0, none⟩) (k + 1) ((wr.setCell ⟨L.c x.file, 1, none⟩ (.int .i64 ((q : Int) + (d : Int)))).drewN n) := by
  obtain ⟨M, hat, ht⟩ := h
  have hf : L.foot (L.c x.file) := Or.inr (Or.inr ⟨_, his, Or.inl rfl⟩)
  have hcl := hS _ (hF _ hf)
  refine ⟨?_, ?_, ?_⟩
  · have M' := M.file his (L.d x.file) (L.w x.file) (q + d) (C.dat s.ws x.file) (C.pof s.ws x.file) (w' := (wr.setCell ⟨L.c x.file, 1, none⟩ (.int .i64 ((q : Int) + (d : Int)))).drewN n) (fun b _ hne _ _ => set_other hne)
      (by
        have := set_block (o := 1) (v := .int .i64 ((q : Int) + (d : Int))) (M.cont _ his)
        simp at this
        exact this)
      (Own.same (M.dat _ his) fun b hb => set_other (M.d_c his his hb)) (row_same (M.wr _ his) fun b hb => set_other (M.w_c his his hb)) (Or.inl rfl) (Or.inl rfl)
    rw [Lay.file_self] at M'
    refine M'.congr (fun j _ => ?_) (fun j _ => ?_) (fun j _ => ?_)
    · show upd (fun j => _) x.file (q + d) j = _
      rw [C.addS_snoc keep torn hx]
      by_cases e : j = x.file
      · subst e; rw [upd_same, if_pos rfl, hq, hd]; omega
      · rw [upd_other _ _ e, if_neg (Ne.symm e)]; omega
    · by_cases e : j = x.file
      · subst e; rw [upd_same]
      · rw [upd_other _ _ e]
    · by_cases e : j = x.file
      · subst e; rw [upd_same]
      · rw [upd_other _ _ e]
  · intro hl
    obtain ⟨b', hp, hc⟩ := hat hl
    cases hp
    refine ⟨b, rfl, fun i y hy j v hv => ?_⟩
    rw [← hc i y hy j v hv]
    exact World.cell?_of_block (a := ⟨b, i * 3 + j, none⟩) (set_other (fun e => by have e' : b = L.c x.file := e; omega))
  · exact Turn.trans ht ⟨rfl, rfl, rfl, by simp [World.setCell, World.drewN], fun b hb hn => set_other (fun e => hn (by subst e; exact hF _ hf))⟩ (fun x hx => Or.inl hx)
theorem IRange.iter {w : World} {b r n : Nat} {m : Int → Option Nat} {left : Int → Bool} {cnt : Nat} (h : IRange w b r n m left cnt) : ∃ a s q c, w.heap[r]? = some (.mapIter a s q c) := by
  obtain ⟨D, Lf, ⟨es, clock, since, seen, c0, hb, _, _, _, hr, _⟩, _⟩ := h
  exact ⟨_, _, _, _, hr⟩
theorem DMem.no_iter {w : World} {L : Lay} {n : Nat} {h : Head} {sa : Nat → Nat} {da : Nat → List UInt8} {pn : Nat → List C.Wr} (M : DMem w L n h sa da pn) {r : Nat} {a : Option Nat} {s : Nat} {q : Array Nat} {c : Nat} (hr : w.heap[r]? = some (.mapIter a s q c)) : ¬ L.foot r := fun hf => by
  rcases hf with rfl | rfl | ⟨k, hk, rfl | hb | hb⟩
  · rw [M.blk] at hr; cases hr
  · obtain ⟨es, cl, h2⟩ := M.map.isMap; rw [h2] at hr; cases hr
  · rw [M.cont k hk] at hr; cases hr
  · obtain ⟨cur, h2⟩ := row_type (M.dat k hk) hb; rw [h2] at hr; cases hr
  · obtain ⟨cur, h2⟩ := row_type (M.wr k hk) hb; rw [h2] at hr; cases hr
/-- What is behind Crash's first loop. -/
def Cr2 (w : World) (L : Lay) (S : Nat → Prop) (s : C.St) (sa : Nat → Nat) (u : Nat) (wr : World) : Prop :=
  DMem wr L s.made ⟨s.room, u, s.made, false, s.lives⟩ sa (C.dat s.ws) (C.pof s.ws) ∧ Turn w wr S
theorem cr2_of {w wr : World} {L : Lay} {S : Nat → Prop} {s : C.St} {keep torn : Int} {p : Option Addr} {k : Nat} (h : Cr1 w L S s keep torn p k wr) (hk : (C.pend s.ws).length ≤ k ∨ keep < k) : Cr2 w L S s (fun j => C.saf s.ws j + C.addS keep torn 0 (C.pend s.ws) j) (C.used s.ws) wr :=
  ⟨h.1.congr (fun j _ => by rw [C.addS_end keep torn hk]) (fun _ _ => rfl) (fun _ _ => rfl), h.2.2⟩
theorem cr2_zero {w wr : World} {L : Lay} {S : Nat → Prop} {s : C.St} {sa : Nat → Nat} {u : Nat} (h : Cr2 w L S s sa u wr) (hF : ∀ b, L.foot b → S b) : Cr2 w L S s sa 0 (wr.setCell ⟨L.g, 1, none⟩ (.int .i64 0)) :=
  ⟨h.1.head _ (by rw [set_block h.1.blk]; simp [Head.cells]) (fun b _ hne => set_other hne), h.2.setCell (hF _ (Or.inl rfl)) _⟩
/-- In Crash's second loop. -/
def daL (s : C.St) (sa : Nat → Nat) (left : Int → Bool) (j : Nat) : List UInt8 := if left (j : Int) = true then C.dat s.ws j else (C.dat s.ws j).take (sa j)
def pnL (s : C.St) (left : Int → Bool) (j : Nat) : List C.Wr := if left (j : Int) = true then C.pof s.ws j else []
def usL (s : C.St) (is : Nat → Bool) (sa : Nat → Nat) (left : Int → Bool) : Nat := C.sumOn (fun j => is j && !left (j : Int)) (fun j => ((C.dat s.ws j).take (sa j)).length) 1000
theorem sumOn_le {p q : Nat → Bool} {f g : Nat → Nat} : ∀ {n : Nat}, (∀ k, k < n → (if p k then f k else 0) ≤ if q k then g k else 0) → C.sumOn p f n ≤ C.sumOn q g n
  | 0, _ => Nat.le_refl _
  | n + 1, h => by
    rw [C.sumOn_succ, C.sumOn_succ]
    have h1 := sumOn_le (n := n) (fun k hk => h k (by omega))
    have h2 := h n (by omega)
    omega
theorem usL_le {s : C.St} {is : Nat → Bool} (his : is = s.is) (hok : s.Ok) (sa : Nat → Nat) (left : Int → Bool) : usL s is sa left ≤ C.used s.ws := by
  rw [C.used_sum s.is 1000 s.ws (fun x hx => ⟨hok.files _ (hok.has x hx), hok.has x hx⟩)]
  refine sumOn_le fun k _ => ?_
  rw [his]
  have := List.length_take_le' (sa k) (C.dat s.ws k)
  cases s.is k <;> cases left (k : Int) <;> simp
  omega
theorem sum_step (is : Nat → Bool) (left : Int → Bool) (f : Nat → Nat) (n k : Nat) (hk9 : k < n) (hk : is k = true) (hl : left (k : Int) = true) : C.sumOn (fun j => is j && !(left (j : Int) && !((j : Int) == (k : Int)))) f n = C.sumOn (fun j => is j && !left (j : Int)) f n + f k := by
  rw [C.sumOn_out (j := k) hk9 (by simp [hk]), Nat.add_comm]
  congr 1
  refine C.sumOn_congr fun j _ => ?_
  by_cases e : j = k
  · subst e; simp [hl]
  · have e1 : ((j : Int) == (k : Int)) = false := beq_eq_false_iff_ne.2 (by omega)
    have e2 : (j == k) = false := beq_eq_false_iff_ne.2 e
    simp only [e1, e2, Bool.not_false, Bool.and_true]
def Cr3 (w : World) (L : Lay) (S : Nat → Prop) (s : C.St) (sa : Nat → Nat) (r : Nat) (left left' : Int → Bool) (cnt : Nat) (wr : World) : Prop :=
  ∃ L', L'.g = L.g ∧ L'.mb = L.mb ∧ L'.is = L.is ∧ L'.c = L.c ∧ DMem wr L' s.made ⟨s.room, usL s L.is sa left, s.made, false, s.lives⟩ sa (daL s sa left) (pnL s left) ∧ IRange wr L.mb r s.made L.at left' cnt ∧ (∀ b, L'.foot b → S b ∨ w.heap.size ≤ b) ∧ Turn w wr S ∧ w.heap.size ≤ r
theorem at_isSome {L : Lay} (k : Nat) : (L.at (k : Int)).isSome = L.is k := by
  cases h : L.is k with
  | true => rw [Lay.at_some (by omega) (by simpa using h)]; rfl
  | false => rw [Lay.at_none (by simpa using h)]; rfl
theorem cr3_start {w wr w0 : World} {L : Lay} {S : Nat → Prop} {s : C.St} {sa : Nat → Nat} (h : Cr2 w L S s sa 0 wr) (hF : ∀ b, L.foot b → S b) {cnt : Nat} (hr : IRange w0 L.mb wr.heap.size s.made L.at (fun k => (L.at k).isSome) cnt) (hg : wr.grownBy w0 none) : Cr3 w L S s sa wr.heap.size (fun k => (L.at k).isSome) (fun k => (L.at k).isSome) cnt w0 := by
  refine ⟨L, rfl, rfl, rfl, rfl, ?_, hr, fun b hb => Or.inl (hF b hb), ?_, h.2.size⟩
  · have M := h.1.same (w' := w0) (fun b hb => hg.block b (h.1.foot_lt hb) (by simp))
    have hu : usL s L.is sa (fun k => (L.at k).isSome) = 0 := by
      refine C.sumOn_none _ _ _ fun k _ hk => ?_
      simp only [at_isSome] at hk
      cases h' : L.is k <;> rw [h'] at hk <;> cases hk
    rw [hu]
    refine M.congr (fun _ _ => rfl) (fun k hk => ?_) (fun k hk => ?_)
    · unfold daL; rw [if_pos ((at_isSome (L := L) k).trans hk)]
    · unfold pnL; rw [if_pos ((at_isSome (L := L) k).trans hk)]
  · exact h.2.trans (Turn.of_grown (S := fun _ => False) hg (fun b e => by cases e)) (fun _ h => h.elim)
theorem cr3_next {w wr w2 : World} {L : Lay} {S : Nat → Prop} {s : C.St} {sa : Nat → Nat} {r : Nat} {left left' : Int → Bool} {cnt cnt2 : Nat} (h : Cr3 w L S s sa r left left cnt wr) (hg : wr.grownBy w2 (some r)) (hr : IRange w2 L.mb r s.made L.at left' cnt2) : Cr3 w L S s sa r left left' cnt2 w2 := by
  obtain ⟨L', h1, h2, h3, h4, M, hr0, hF, ht, hrr⟩ := h
  obtain ⟨a, q, z, y, hi⟩ := hr0.iter
  refine ⟨L', h1, h2, h3, h4, M.same fun b hb => hg.block b (M.foot_lt hb) (fun e => ?_), hr, hF, ?_, hrr⟩
  · cases e; exact M.no_iter hi hb
  · exact ht.trans (Turn.of_grown (S := fun b => b = r) hg (fun b e => by cases e; rfl)) (fun x hx => Or.inr (by subst hx; exact hrr))
theorem cr3_file {w w2 : World} {L : Lay} {S : Nat → Prop} {s : C.St} {sa : Nat → Nat} {r k cnt : Nat} {left : Int → Bool} (h : Cr3 w L S s sa r left (fun j => left j && !(j == (k : Int))) cnt w2) (hk : L.is k = true) (hk9 : k < 1000) (hl : left (k : Int) = true) :
    ∃ p n c wv, w2.heap[L.c k]? = some (.cells #[.slice p n c, .int .i64 (sa k : Nat), wv] 83) ∧ Own w2 0 (.slice p n c) (C.dat s.ws k) ∧
      ∀ w3 p' n' c', w3.heap[L.c k]? = some (.cells #[.slice p' n' c', .int .i64 (sa k : Nat), .slice none 0 0] 83) → Own w3 0 (.slice p' n' c') ((C.dat s.ws k).take (sa k)) → ((Value.slice p' n' c').ownBlock = (Value.slice p n c).ownBlock ∨ ∀ b, (Value.slice p' n' c').ownBlock = some b → w2.heap.size ≤ b) → w2.grownBy w3 (some (L.c k)) →
        w3.heap[L.g]? = some (.cells #[.int .i64 (s.room : Nat), .int .i64 (usL s L.is sa left : Nat), .map (some L.mb), .int .i64 (s.made : Nat), .bool false, .int .i64 (s.lives : Nat)] 55) ∧ L.g ≠ L.c k ∧
        ∀ q, Cr3 w L S s sa r (fun j => left j && !(j == (k : Int))) (fun j => left j && !(j == (k : Int))) cnt ((w3.setCell ⟨L.g, 1, none⟩ (.int .i64 ((usL s L.is sa left : Nat) + (n' : Nat)))).drewN q) := by
  obtain ⟨L', h1, h2, h3, h4, M, hr, hF, ht, hrr⟩ := h
  generalize hU : usL s L.is sa left = U at M ⊢
  have hk' : L'.is k = true := by rw [h3]; exact hk
  have ho := M.dat k hk'
  have hda : daL s sa left k = C.dat s.ws k := if_pos hl
  rw [hda] at ho
  obtain ⟨p, c, hv, _⟩ := Own.part ho
  have hc := M.cont k hk'
  rw [h4, hv] at hc
  refine ⟨p, _, c, _, hc, hv ▸ ho, fun w3 p' n' c' k1 k2 k3 k4 => ?_⟩
  have hcc : L'.c k = L.c k := by rw [h4]
  have l2 : (Value.slice none 0 0).ownBlock = (L'.w k).ownBlock ∨ ∀ b, (Value.slice none 0 0).ownBlock = some b → w2.heap.size ≤ b := Or.inr (fun b e => by cases e)
  have l1 : (Value.slice p' n' c').ownBlock = (L'.d k).ownBlock ∨ ∀ b, (Value.slice p' n' c').ownBlock = some b → w2.heap.size ≤ b := by rw [hv]; exact k3
  have M3 := M.file hk' (.slice p' n' c') (.slice none 0 0) (sa k) ((C.dat s.ws k).take (sa k)) [] (w' := w3) (fun b hb hne _ _ => k4.block b (M.foot_lt hb) (fun e => hne (by rw [hcc]; exact Option.some.inj e))) (by rw [hcc]; exact k1) k2 (OwnW.nil _) l1 l2
  have hgb := M3.blk
  have hgc := M.g_c hk'
  rw [h1, hcc] at hgc
  have hgb' : w3.heap[L.g]? = some (.cells #[.int .i64 (s.room : Nat), .int .i64 (U : Nat), .map (some L.mb), .int .i64 (s.made : Nat), .bool false, .int .i64 (s.lives : Nat)] 55) := by
    have : (L'.file k (.slice p' n' c') (.slice none 0 0)).g = L.g := h1
    rw [this] at hgb
    have : (L'.file k (.slice p' n' c') (.slice none 0 0)).mb = L.mb := h2
    rw [this] at hgb
    exact hgb
  refine ⟨hgb', hgc, fun q => ⟨L'.file k (.slice p' n' c') (.slice none 0 0), h1, h2, h3, h4, ?_, ?_, ?_, ?_, hrr⟩⟩
  · have hn' : n' = ((C.dat s.ws k).take (sa k)).length := (Own.cap k2).1
    have hu : usL s L.is sa (fun j => left j && !(j == (k : Int))) = U + n' := by
      rw [← hU, hn']
      exact sum_step L.is left _ 1000 k hk9 hk hl
    have M4 := M3.head ⟨s.room, U + n', s.made, false, s.lives⟩ (w' := (w3.setCell ⟨L.g, 1, none⟩ (.int .i64 ((U : Nat) + (n' : Nat)))).drewN q) (by
      have e1 : (L'.file k (.slice p' n' c') (.slice none 0 0)).g = L.g := h1
      have e2 : (L'.file k (.slice p' n' c') (.slice none 0 0)).mb = L.mb := h2
      rw [e1, e2]
      have := set_block (o := 1) (v := .int .i64 ((U : Nat) + (n' : Nat) : Int)) hgb'
      simp [Head.cells] at this ⊢
      exact this) (fun b _ hne => by
      have e1 : (L'.file k (.slice p' n' c') (.slice none 0 0)).g = L.g := h1
      rw [e1] at hne
      exact set_other hne)
    rw [hu]
    refine M4.congr (fun j _ => ?_) (fun j _ => ?_) (fun j _ => ?_)
    · by_cases e : j = k
      · subst e; rw [upd_same]
      · rw [upd_other _ _ e]
    · by_cases e : j = k
      · subst e; rw [upd_same]; unfold daL; rw [if_neg (by simp)]
      · rw [upd_other _ _ e]
        have e1 : ((j : Int) == (k : Int)) = false := beq_eq_false_iff_ne.2 (by omega)
        unfold daL; simp only [e1, Bool.not_false, Bool.and_true]
    · by_cases e : j = k
      · subst e; rw [upd_same]; unfold pnL; rw [if_neg (by simp)]
      · rw [upd_other _ _ e]
        have e1 : ((j : Int) == (k : Int)) = false := beq_eq_false_iff_ne.2 (by omega)
        unfold pnL; simp only [e1, Bool.not_false, Bool.and_true]
  · obtain ⟨a, z, y, x, hi⟩ := hr.iter
    have hrn := M.no_iter hi
    have n1 : r ≠ L.g := fun e => hrn (by rw [e, ← h1]; exact Or.inl rfl)
    have n2 : r ≠ L.c k := fun e => hrn (by rw [e, ← hcc]; exact Or.inr (Or.inr ⟨k, hk', Or.inl rfl⟩))
    have n3 : L.mb ≠ L.g := by rw [← h1, ← h2]; exact M.g_mb.symm
    have n4 : L.mb ≠ L.c k := by rw [← hcc, ← h2]; exact (M.c_mb hk').symm
    exact hr.same ((set_other n3).trans (k4.block _ hr.imap.lt (fun e => n4 (Option.some.inj e)))) ((set_other n1).trans (k4.block _ hr.lt (fun e => n2 (Option.some.inj e))))
  · intro b hb
    rcases Lay.file_foot hk' l1 l2 b hb with h | h
    · exact hF b h
    · exact Or.inr (Nat.le_trans ht.size h)
  · have t1 : Turn w2 ((w3.setCell ⟨L.g, 1, none⟩ (.int .i64 ((U : Nat) + (n' : Nat)))).drewN q) (fun b => L'.foot b) := by
      have t2 : Turn w2 (w3.setCell ⟨L.g, 1, none⟩ (.int .i64 ((U : Nat) + (n' : Nat)))) (fun b => L'.foot b) := (Turn.of_grown k4 (fun b e => by cases e; rw [← hcc]; exact Or.inr (Or.inr ⟨k, hk', Or.inl rfl⟩))).setCell (by rw [← h1]; exact Or.inl rfl) _
      exact ⟨t2.os, t2.tape, t2.output, t2.size, t2.block⟩
    exact ht.trans t1 hF
theorem cr3_end {w wr : World} {L : Lay} {S : Nat → Prop} {s : C.St} {keep torn : Int} {r cnt : Nat} {left : Int → Bool} (his : L.is = s.is) (hS : ∀ b, S b → b < w.heap.size) (hok : s.Ok) (h : Cr3 w L S s (fun j => C.saf s.ws j + C.addS keep torn 0 (C.pend s.ws) j) r left left cnt wr) (hl : ∀ k, left k = false) :
    Disk wr L.g (Ext w wr S) (C.crashS s keep torn) ∧ Turn w wr S := by
  obtain ⟨L', h1, h2, h3, h4, M, hr, hF, ht, hrr⟩ := h
  refine ⟨⟨L', h1, h3.trans his, ?_, ?_, ?_, C.crashS_ok hok keep torn⟩, ht⟩
  · have hu : usL s L.is (fun j => C.saf s.ws j + C.addS keep torn 0 (C.pend s.ws) j) left = C.used (C.crashL keep torn 0 s.ws) := by
      rw [C.used_sum s.is 1000 (C.crashL keep torn 0 s.ws) (fun x hx => by obtain ⟨y, hy, _, e⟩ := C.crash_mem hx; rw [← e]; exact ⟨hok.files _ (hok.has y hy), hok.has y hy⟩)]
      unfold usL
      refine C.sumOn_congr fun j _ => ?_
      rw [his, hl]
      simp only [Bool.not_false, Bool.and_true]
      rw [C.crash_dat keep torn j 0 s.ws hok.ahead]
    rw [hu] at M
    refine M.congr (fun j _ => ?_) (fun j _ => ?_) (fun j _ => ?_)
    · show _ = C.saf (C.crashL keep torn 0 s.ws) j
      rw [(C.saf_all _ (C.crash_safe keep torn s.ws 0) j).1, C.crash_len]
    · unfold daL; rw [hl, if_neg (by simp)]
      show _ = C.dat (C.crashL keep torn 0 s.ws) j
      rw [C.crash_dat keep torn j 0 s.ws hok.ahead]
    · unfold pnL; rw [hl, if_neg (by simp)]
      exact (C.saf_all _ (C.crash_safe keep torn s.ws 0) j).2.symm
  · intro b hb
    rcases hF b hb with h | h
    · exact Or.inl h
    · exact Or.inr ⟨h, M.foot_lt hb⟩
  · intro b hb
    rcases hb with h | h
    · exact Nat.lt_of_lt_of_le (hS b h) ht.size
    · exact h.2
end Go.Proofs.YtnhplbdbgiimkaaGreatDoor

namespace Go.Proofs.YtnhplbdbgiimkaaGreatDoor
open Go.RowKit Go.Lib Go.Maps
open C (upd upd_same upd_other)
set_option linter.unusedVariables false

set_option maxRecDepth 100000 in
set_option maxHeartbeats 8000000 in
theorem crash_any (w : World) (g : Nat) (S : Nat → Prop) (s : C.St) (keep torn : Int) (h : Disk w g S s) (hm : s.made ≤ 1000000) (hk1 : -9223372036854775808 ≤ keep) (hk2 : keep ≤ 9223372036854775807) (ht1 : -9223372036854775808 ≤ torn) (ht2 : torn ≤ 9223372036854775807) :
    Calls Tryz.prog 16 #[.pointer (some ⟨g, 0, none⟩), .int .i64 keep, .int .i64 torn] w fun e w' => e = .returned (.tuple #[]) ∧ Disk w' g (Ext w w' S) (C.crashS s keep torn) ∧ Turn w w' S := by
  obtain ⟨L, hg, his, M, hF, hS, hok⟩ := h
  have hlen := C.ws_le hok
  have hgb := M.blk
  have c4 := blk_cell hgb 4
  have f4 := blk_free hgb 4
  simp only [Head.cells, headOf, List.getElem?_toArray, List.getElem?_cons_succ, List.getElem?_cons_zero] at c4
  have M1 : DMem (w.setCell ⟨L.g, 4, none⟩ (.bool false)) L s.made ⟨s.room, C.used s.ws, s.made, false, s.lives⟩ (C.saf s.ws) (C.dat s.ws) (C.pof s.ws) := M.head _ (by rw [set_block hgb]; simp [Head.cells, headOf]) (fun b _ hne => set_other hne)
  have T1 : Turn w (w.setCell ⟨L.g, 4, none⟩ (.bool false)) S := (Turn.refl w S).setCell (hF _ (Or.inl rfl)) _
  have HP : Hid _ := pending_any _ L _ _ _ _ s.ws M1 (fun k hk => hok.files k (his ▸ hk)) (fun x hx => by rw [his]; exact hok.has x hx) hok.nums (by omega)
  have HM1 : Hid _ := M1
  have HT1 : Hid _ := T1
  have HF : Hid _ := hF
  have HS : Hid _ := hS
  have HIS : Hid _ := his
  rw [hg] at c4 f4 HP
  rw [hg] at HM1 HT1
  have HG : Hid _ := hg
  have hpl := C.pend_le hok
  clear M M1 T1 hF hS hgb his hg hlen
  go_enter Tryz.func16, Tryz.ntmps16
  go_wp2_with fail
  refine Calls.mono HP.out ?_
  rintro e w2 ⟨⟨p, c, rfl, hat, hpb⟩, hb2⟩
  have HI : Hid (Cr1 w L S s keep torn p 0 w2) := by
    refine ⟨?_, hat, ?_⟩
    · have := (HM1.out : DMem _ _ _ _ _ _ _).same (w' := w2) (fun b hb => hb2.block b (DMem.foot_lt HM1.out hb))
      exact this.congr (fun k _ => by simp [C.addS]) (fun _ _ => rfl) (fun _ _ => rfl)
    · exact Turn.trans HT1.out (Turn.of_below (S := fun _ => False) hb2) (fun _ h => h.elim)
  have HPB : Hid (∀ a, p = some a → w.heap.size ≤ a.block) := fun a e => by have := hpb a e; simpa [World.setCell] using this
  clear hat hb2 hpb HP HM1 HT1
  obtain ⟨m, hmm⟩ : ∃ m, m = (C.pend s.ws).length := ⟨_, rfl⟩
  rw [← hmm] at hpl ⊢
  have HMM : Hid _ := hmm
  clear hmm
  go_wp2
  go_loopw [17] (fun i wr => ∃ k : Nat, k ≤ m ∧ i = .int .i64 (k : Nat) ∧ Cr1 w L S s keep torn p k wr) (fun i _ => m - (intOf i).toNat)
  case atStart => exact ⟨0, Nat.zero_le _, rfl, HI.out⟩
  case round =>
    obtain ⟨k, hk, rfl, hcr⟩ := hrel
    by_cases hx : k < m ∧ ¬ keep < k
    · obtain ⟨hlt, hkk⟩ := hx
      obtain ⟨x, hx⟩ : ∃ x, (C.pend s.ws)[k]? = some x := ⟨(C.pend s.ws)[k]'(by have := HMM.out; omega), by simp⟩
      obtain ⟨b, rfl, hc⟩ := hcr.2.1 (by have := HMM.out; omega)
      have x0 := hc k x hx 0 _ rfl
      have x1 := hc k x hx 1 _ rfl
      have x2 := hc k x hx 2 _ rfl
      simp only [Nat.add_zero] at x0
      have HCR : Hid _ := hcr
      have HX : Hid _ := hx
      clear hcr hc hx
      go_upto_region 4 with fail
      have hcl := cr1_alloc HCR.out (.cells #[.int .i64 (x.num : Nat), .int .i64 (x.file : Nat), .int .i64 (x.bytes.length : Nat)] 81)
      refine wp_world (fun wl => Cr1 w L S s keep torn (some ⟨b, 0, none⟩) k wl ∧ wl.heap[wr.heap.size]? = some (.cells #[.int .i64 (x.num : Nat), .int .i64 (x.file : Nat), .int .i64 (x.bytes.length : Nat)] 81) ∧ w.heap.size ≤ wr.heap.size) ⟨hcl.1, hcl.2.1, hcl.2.2⟩ ?_
      rintro wl ⟨hcr, hlb, hge⟩
      clear hcl x0 x1 x2 HCR
      obtain ⟨lb, hlbe⟩ : ∃ lb, lb = wr.heap.size := ⟨_, rfl⟩
      rw [← hlbe] at hlb hge ⊢
      clear hlbe
      have x1 := blk_cell hlb 1
      have x2 := blk_cell hlb 2
      simp only [List.getElem?_toArray, List.getElem?_cons_succ, List.getElem?_cons_zero] at x1 x2
      have hxm := C.pend_mem (List.mem_of_getElem? HX.out)
      have hxl : x.bytes.length ≤ 1048576 := by have := C.bytes_le hxm.1; have := hok.used; have := hok.room; omega
      have hxf : L.is x.file = true := by rw [HIS.out]; exact hok.has x hxm.1
      have hxf9 : x.file < 1000 := hok.files _ (hok.has x hxm.1)
      have hgb := hcr.1.blk
      rw [HG.out] at hgb
      have c2 := blk_cell hgb 2
      simp only [Head.cells, List.getElem?_toArray, List.getElem?_cons_succ, List.getElem?_cons_zero] at c2
      have hlk := fun w' (e : w'.heap[L.mb]? = wl.heap[L.mb]?) => IMap.look (hcr.1.map.same e) u_map (z_ptr w') (x.file : Int) (wf_small (by omega) (by omega))
      rw [Lay.at_some (by omega) (by simpa using hxf)] at hlk
      simp only [ptrV, Int.toNat_natCast] at hlk
      have hlk1 := hlk wl.drew rfl
      have hcf := hcr.1.cont _ hxf
      obtain ⟨q, hq⟩ : ∃ q, q = C.saf s.ws x.file + C.addS keep torn 0 ((C.pend s.ws).take k) x.file := ⟨_, rfl⟩
      have hql : q ≤ 1048576 := by have := C.safe_le keep torn s.ws k x.file; have := hok.used; have := hok.room; omega
      rw [← hq] at hcf
      obtain ⟨cf, hcfe⟩ : ∃ cf, cf = L.c x.file := ⟨_, rfl⟩
      rw [← hcfe] at hcf hlk1
      have y1 := blk_cell hcf 1
      have yf1 := blk_free hcf 1
      simp only [List.getElem?_toArray, List.getElem?_cons_succ, List.getElem?_cons_zero] at y1
      obtain ⟨d, hd⟩ : ∃ d, d = C.stay keep torn k x.bytes.length := ⟨_, rfl⟩
      have hdl : d ≤ 1048576 := by have := C.stay_le keep torn k x.bytes.length; omega
      have HSTEP : Hid (∀ n, Cr1 w L S s keep torn (some ⟨b, 0, none⟩) (k + 1) ((wl.setCell ⟨cf, 1, none⟩ (.int .i64 ((q : Int) + (d : Int)))).drewN n)) := fun n => by
        rw [hcfe]; exact cr1_step hcr HX.out hxf HF.out HS.out (HPB.out _ rfl) hq hd
      have HD : Hid _ := hd
      clear hlk hcf hq hcfe hgb hcr hxm hxf hlb hd
      by_cases hke : (k : Int) = keep
      · have e1 : min (max torn 0) (x.bytes.length : Int) = (d : Int) := by
          rw [HD.out]; unfold C.stay; rw [if_neg (by omega), if_pos hke]; omega
        have HE1 : Hid _ := e1
        clear e1
        go_upto_region 8 with fail
        rw [HE1.out]
        go_region
        all_goals
          go_wp2
          go_roundw
          case rel => exact ⟨k + 1, by omega, by go_num, HSTEP.out 1⟩
          case measure => simp [intOf]; omega
      · have e1 : (x.bytes.length : Int) = (d : Int) := by
          rw [HD.out]; unfold C.stay; rw [if_pos (by omega)]
        have HE1 : Hid _ := e1
        clear e1
        go_upto_region 8 with fail
        rw [HE1.out]
        go_region
        all_goals
          go_wp2
          go_roundw
          case rel => exact ⟨k + 1, by omega, by go_num, HSTEP.out 1⟩
          case measure => simp [intOf]; omega
    · have hend : Cr2 w L S s (fun j => C.saf s.ws j + C.addS keep torn 0 (C.pend s.ws) j) (C.used s.ws) wr := cr2_of hcr (by have := HMM.out; omega)
      by_cases hlt : k < m
      case' pos =>
        have hkk : keep < k := by omega
        clear hx
        obtain ⟨x, hx⟩ : ∃ x, (C.pend s.ws)[k]? = some x := ⟨(C.pend s.ws)[k]'(by have := HMM.out; omega), by simp⟩
        obtain ⟨b, rfl, hc⟩ := hcr.2.1 (by have := HMM.out; omega)
        have x0 := hc k x hx 0 _ rfl
        have x1 := hc k x hx 1 _ rfl
        have x2 := hc k x hx 2 _ rfl
        simp only [Nat.add_zero] at x0
        have HE : Hid _ := hend
        clear hcr hc hx hend
        go_upto_region 10 with fail
        refine wp_world (Cr2 w L S s (fun j => C.saf s.ws j + C.addS keep torn 0 (C.pend s.ws) j) (C.used s.ws)) ⟨(HE.out : Cr2 _ _ _ _ _ _ _).1.same fun b hb => Below.heap_alloc _ _ _ (DMem.foot_lt (HE.out : Cr2 _ _ _ _ _ _ _).1 hb), (HE.out : Cr2 _ _ _ _ _ _ _).2.alloc _⟩ ?_
        clear HE x0 x1 x2 hkk hlt
      case' neg =>
        have HE : Hid _ := hend
        clear hcr hend hx
        go_upto_region 10 with fail
        refine wp_world (Cr2 w L S s (fun j => C.saf s.ws j + C.addS keep torn 0 (C.pend s.ws) j) (C.used s.ws)) HE.out ?_
        clear HE hlt
      all_goals
        intro we hend
        have hgb := hend.1.blk
        rw [HG.out] at hgb
        have z1 := blk_cell hgb 1
        have zf1 := blk_free hgb 1
        simp only [Head.cells, List.getElem?_toArray, List.getElem?_cons_succ, List.getElem?_cons_zero] at z1
        have HZ : Hid (Cr2 w L S s (fun j => C.saf s.ws j + C.addS keep torn 0 (C.pend s.ws) j) 0 (we.setCell ⟨g, 1, none⟩ (.int .i64 0))) := by
          have := cr2_zero hend HF.out
          rw [HG.out] at this
          exact this
        clear hend hgb
        go_upto_region 11 with fail
        refine wp_world (Cr2 w L S s (fun j => C.saf s.ws j + C.addS keep torn 0 (C.pend s.ws) j) 0) HZ.out ?_
        clear HZ z1 zf1
        intro wf hz
        have HEND : Hid (∀ r left cnt wr, Cr3 w L S s (fun j => C.saf s.ws j + C.addS keep torn 0 (C.pend s.ws) j) r left left cnt wr → (∀ k, left k = false) → Disk wr L.g (Ext w wr S) (C.crashS s keep torn) ∧ Turn w wr S) := fun r left cnt wr h1 h2 => cr3_end HIS.out HS.out hok h1 h2
        have HSA : Hid (∀ j, (fun j => C.saf s.ws j + C.addS keep torn 0 (C.pend s.ws) j) j ≤ 1048576) := fun j => by
          have := C.safe_le keep torn s.ws (C.pend s.ws).length j
          rw [List.take_length] at this
          have := hok.used; have := hok.room
          show C.saf s.ws j + C.addS keep torn 0 (C.pend s.ws) j ≤ 1048576
          omega
        generalize (fun j => C.saf s.ws j + C.addS keep torn 0 (C.pend s.ws) j) = sa at hz HEND HSA
        have hgb := hz.1.blk
        rw [HG.out] at hgb
        have y2 := blk_cell hgb 2
        simp only [Head.cells, List.getElem?_toArray, List.getElem?_cons_succ, List.getElem?_cons_zero] at y2
        have HMP : Hid (IMap wf L.mb s.made L.at) := hz.1.map
        have HZ : Hid _ := hz
        obtain ⟨mb, hmb⟩ : ∃ mb, mb = L.mb := ⟨_, rfl⟩
        rw [← hmb] at y2 HMP
        have HMB : Hid _ := hmb
        clear hgb hz hmb
        go_wp2_with (at_range; go_must (refine wpList_range_imap rfl _ _ _ rfl u_map HMP.out rfl ?_); intro w0 cnt0 hrg0 hg0 hs0)
        go_frame
        have HC0 : Hid (Cr3 w L S s sa wf.heap.size (fun k => (L.at k).isSome) (fun k => (L.at k).isSome) cnt0 w0) := cr3_start HZ.out HF.out (HMB.out ▸ hrg0) hg0
        clear hrg0 hg0 hs0 y2 HMP HZ
        generalize wf.heap.size = rr at HC0 ⊢
        go_loopw [10] (fun s10 wr => ∃ left cnt, Cr3 w L S s sa rr left left cnt wr) (fun _ wr => wr.rangeLeft mb rr)
        case atStart => exact ⟨_, _, HC0.out⟩
        case round =>
          clear HC0
          obtain ⟨left, cnt, h3⟩ := hrel
          have HR : Hid (IRange wr mb rr s.made L.at left cnt) := by rw [HMB.out]; obtain ⟨_, _, _, _, _, _, h, _⟩ := h3; exact h
          have H3 : Hid _ := h3
          clear h3
          go_wp2_with (at_next; go_must (refine wpList_next_imap rfl _ rfl HR.out rfl ?_ ?_))
          · intro hl
            have he := HEND.out _ _ _ _ H3.out hl
            rw [HG.out] at he
            have HE : Hid _ := he
            clear he hl
            go_wp2
            go_end0
            exact ⟨rfl, HE.out.1, HE.out.2⟩
          · intro xx cc w2 cnt2 hwx hlx hmx hrg2 hlt2 hg2 hs2 hen
            obtain ⟨k2, rfl, hk2, hcc⟩ := Lay.at_inv hmx
            have hk9 : k2 < 1000 := hok.files _ (by rw [← HIS.out]; exact hk2)
            obtain ⟨p1, n1, c1, wv, hcw, how, hfin⟩ := cr3_file (cr3_next H3.out hg2 (HMB.out ▸ hrg2)) hk2 hk9 hlx
            have hdl : (C.dat s.ws k2).length ≤ 1048576 := by have := C.dat_le s.ws k2; have := hok.used; have := hok.room; omega
            rw [← hcc] at hcw hfin
            have HCUT : Hid _ := cut_any w2 cc p1 n1 c1 (sa k2) wv (C.dat s.ws k2) hcw how hdl (HSA.out k2)
            have HFIN : Hid _ := hfin
            have HLT : Hid _ := hlt2
            clear hfin hcw how hdl hk9 hcc hk2 hmx hlx hwx hrg2 hg2 hs2 hlt2
            go_wp2_with fail
            refine Calls.mono HCUT.out ?_
            rintro e w3 ⟨rfl, p3, n3, c3, q1, q2, q3, q4⟩
            obtain ⟨hg3, hne3, hend3⟩ := HFIN.out w3 p3 n3 c3 q1 q2 q3 q4
            have hn3 : n3 ≤ 1048576 := by
              have h1 := (Own.cap q2).1
              have h2 := List.length_take_le (sa k2) (C.dat s.ws k2)
              have h3 := HSA.out k2
              omega
            have hu3 : usL s L.is sa left ≤ 1048576 := by
              have h1 := usL_le HIS.out hok sa left
              have h2 := hok.used
              have h3 := hok.room
              omega
            rw [HG.out] at hg3 hne3 hend3
            generalize usL s L.is sa left = U at hg3 hend3 hu3
            have z1 := blk_cell hg3 1
            have zf1 := blk_free hg3 1
            have y0 := blk_cell q1 0
            simp only [List.getElem?_toArray, List.getElem?_cons_succ, List.getElem?_cons_zero] at z1 y0
            have HEN : Hid (∀ q, Cr3 w L S s sa rr (fun j => left j && !(j == (k2 : Int))) (fun j => left j && !(j == (k2 : Int))) cnt2 ((w3.setCell ⟨g, 1, none⟩ (.int .i64 ((U : Nat) + (n3 : Nat)))).drewN q)) := hend3
            clear hend3 hg3 q1 q2 q3 q4 hen hne3
            go_wp2
            go_region
            all_goals
              go_wp2
              go_roundw
              case rel => exact ⟨_, _, HEN.out 1⟩
              case measure =>
                have h1 : IRange ((w3.setCell ⟨g, 1, none⟩ (.int .i64 ((U : Nat) + (n3 : Nat)))).drewN 1) L.mb rr s.made L.at (fun j => left j && !(j == (k2 : Int))) cnt2 := by obtain ⟨_, _, _, _, _, _, h, _⟩ := HEN.out 1; exact h
                rw [← HMB.out] at h1
                have e1 := IRange.left_eq h1
                have e2 := IRange.left_eq HR.out
                have e3 := HLT.out
                rw [e2]
                exact Nat.lt_of_le_of_lt (Nat.le_of_eq e1) e3
end Go.Proofs.YtnhplbdbgiimkaaGreatDoor

namespace Go.Proofs.YtnhplbdbgiimkaaGreatDoor
open Go.RowKit Go.Lib Go.Maps
open C (upd upd_same upd_other)
set_option linter.unusedVariables false

/-- A disk at g, all of it made since w0. -/
def DK (w0 w : World) (g : Nat) (s : C.St) : Prop := ∃ S, Disk w g S s ∧ (∀ b, S b → w0.heap.size ≤ b) ∧ Below w0.heap.size w0 w
theorem DK.ok {w0 w : World} {g : Nat} {s : C.St} (h : DK w0 w g s) : s.Ok := by obtain ⟨S, h, _⟩ := h; exact h.ok
theorem DK.bel {w0 w : World} {g : Nat} {s : C.St} (h : DK w0 w g s) : Below w0.heap.size w0 w := by obtain ⟨S, _, _, h⟩ := h; exact h
theorem DK.below {w0 w w' : World} {g : Nat} {s : C.St} (h : DK w0 w g s) (hb : Below w.heap.size w w') : DK w0 w' g s := by
  obtain ⟨S, h1, h2, h3⟩ := h
  exact ⟨S, h1.below hb, h2, bt h3 hb⟩
theorem DK.alloc {w0 w : World} {g : Nat} {s : C.St} (h : DK w0 w g s) (o : Obj) : DK w0 (w.alloc o) g s := h.below (below_new _ _)
theorem DK.drewN {w0 w : World} {g : Nat} {s : C.St} (h : DK w0 w g s) (n : Nat) : DK w0 (w.drewN n) g s := h.below ⟨rfl, rfl, rfl, Nat.le_refl _, fun _ _ => rfl⟩
theorem dk_turn {w0 w w' : World} {g : Nat} {s' : C.St} {S : Nat → Prop} (h2 : ∀ b, S b → w0.heap.size ≤ b) (h3 : Below w0.heap.size w0 w) (hd : Disk w' g (Ext w w' S) s') (ht : Turn w w' S) : DK w0 w' g s' :=
  ⟨_, hd, fun b hb => by
    rcases hb with h | h
    · exact h2 b h
    · exact Nat.le_trans h3.size h.1, h3.trans (ht.below h3.size h2)⟩
theorem dk_new (room : Nat) (w0 w : World) (hb : Below w0.heap.size w0 w) (h : 64 ≤ room ∧ room ≤ 1048576) :
    Calls Tryz.prog 10 #[.int .i64 (room : Nat)] w fun e w' => ∃ g, e = .returned (.tuple #[.pointer (some ⟨g, 0, none⟩), .int .i64 0]) ∧ DK w0 w' g (C.newS room) ∧ Below w.heap.size w w' :=
  (new_any room w h).mono fun e w' ⟨⟨g, he, S, h1, h2⟩, h3⟩ => ⟨g, he, ⟨S, h1, fun b hb' => Nat.le_trans hb.size (h2 b hb'), bt hb h3⟩, h3⟩
theorem dk_append (w0 w : World) (g : Nat) (s : C.St) (f : Nat) (p : Option Addr) (n : Nat) (l : List UInt8) (cap : Nat) (h : DK w0 w g s) (hn : n = l.length) (hx : Part.ok w ⟨p, l, cap⟩) (hr : refE s f = 0) (hu : C.used s.ws + l.length ≤ s.room) (hm : s.made ≤ 1000000) :
    Calls Tryz.prog 39 #[.pointer (some ⟨g, 0, none⟩), .int .i64 (f : Nat), .slice p n cap] w fun e w' => e = .returned (.int .i64 0) ∧ DK w0 w' g (C.appS s f l) := by
  subst hn
  obtain ⟨S, h1, h2, h3⟩ := h
  exact (append_ok w g S s f p l cap h1 hx hr hu hm).mono fun e w' ⟨he, hd, ht⟩ => ⟨he, dk_turn h2 h3 hd ht⟩
theorem dk_crash (w0 w : World) (g : Nat) (s : C.St) (keep torn : Int) (h : DK w0 w g s) (hm : s.made ≤ 1000000) (hk1 : -9223372036854775808 ≤ keep) (hk2 : keep ≤ 9223372036854775807) (ht1 : -9223372036854775808 ≤ torn) (ht2 : torn ≤ 9223372036854775807) :
    Calls Tryz.prog 16 #[.pointer (some ⟨g, 0, none⟩), .int .i64 keep, .int .i64 torn] w fun e w' => e = .returned (.tuple #[]) ∧ DK w0 w' g (C.crashS s keep torn) := by
  obtain ⟨S, h1, h2, h3⟩ := h
  exact (crash_any w g S s keep torn h1 hm hk1 hk2 ht1 ht2).mono fun e w' ⟨he, hd, ht⟩ => ⟨he, dk_turn h2 h3 hd ht⟩
theorem dk_on (w0 w : World) (g : Nat) (s : C.St) (h : DK w0 w g s) (hl : s.lives ≤ 1000000) :
    Calls Tryz.prog 17 #[.pointer (some ⟨g, 0, none⟩)] w fun e w' => e = .returned (.tuple #[]) ∧ DK w0 w' g (C.onS s) := by
  obtain ⟨S, h1, h2, h3⟩ := h
  exact (on_any w g S s h1 hl).mono fun e w' ⟨he, hd, ht⟩ => ⟨he, S, hd, h2, h3.trans (ht.below h3.size h2)⟩
theorem dk_read (w0 w : World) (g : Nat) (s : C.St) (f : Int) (er : Int) (l : List UInt8) (h : DK w0 w g s) (he : readE s f = er) (hl : readB s f = l) :
    Calls Tryz.prog 23 #[.pointer (some ⟨g, 0, none⟩), .int .i64 f] w fun e w' => (∃ p n c, e = .returned (.tuple #[.slice p n c, .int .i64 er]) ∧ Is w' p n c l) ∧ DK w0 w' g s ∧ Below w.heap.size w w' := by
  subst he hl
  have hd := h
  obtain ⟨S, h1, h2, h3⟩ := h
  refine (read_any w g S s f h1).mono ?_
  rintro e w' ⟨⟨v, rfl, ho⟩, hb⟩
  obtain ⟨p, n, c, rfl, hi⟩ := Own.is ho
  exact ⟨⟨p, n, c, rfl, hi⟩, hd.below hb, hb⟩
theorem dk_lives (w0 w : World) (g : Nat) (s : C.St) (n : Nat) (h : DK w0 w g s) (hn : s.lives = n) :
    Calls Tryz.prog 28 #[.pointer (some ⟨g, 0, none⟩)] w fun e w' => e = .returned (.int .i64 (n : Nat)) ∧ w' = w := by
  subst hn; obtain ⟨S, h1, _⟩ := h; exact lives_any w g S s h1
theorem dk_power (w0 w : World) (g : Nat) (s : C.St) (p : Bool) (h : DK w0 w g s) (hp : (!s.off) = p) :
    Calls Tryz.prog 25 #[.pointer (some ⟨g, 0, none⟩)] w fun e w' => e = .returned (.bool p) ∧ w' = w := by
  subst hp; obtain ⟨S, h1, _⟩ := h; exact power_any w g S s h1
/-- A store into a block that is none of the disk's, and made since w0. -/
theorem dk_store {w0 w : World} {g : Nat} {s : C.St} {S : Nat → Prop} (hd : Disk w g S s) (h2 : ∀ b, S b → w0.heap.size ≤ b) (h3 : Below w0.heap.size w0 w) {b o : Nat} (hb : ¬ S b) (hge : w0.heap.size ≤ b) (v : Value) : DK w0 (w.setCell ⟨b, o, none⟩ v) g s :=
  ⟨S, hd.turn (T := fun x => x = b) (Turn.setCell (S := fun x => x = b) (Turn.refl w _) rfl v) (fun x hx e => hb (by rw [← e]; exact hx)), h2, h3.setCell hge v⟩
/-- .. with the row that was read. -/
theorem dk_read_own (w0 w : World) (g : Nat) (s : C.St) (f : Int) (er : Int) (l : List UInt8) (h : DK w0 w g s) (he : readE s f = er) (hl : readB s f = l) :
    Calls Tryz.prog 23 #[.pointer (some ⟨g, 0, none⟩), .int .i64 f] w fun e w' => ∃ v S, e = .returned (.tuple #[v, .int .i64 er]) ∧ Own w' w.heap.size v l ∧ Disk w' g S s ∧ (∀ b, S b → w0.heap.size ≤ b ∧ b < w.heap.size) ∧ Below w0.heap.size w0 w' ∧ w0.heap.size ≤ w.heap.size := by
  subst he hl
  obtain ⟨S, h1, h2, h3⟩ := h
  refine (read_any w g S s f h1).mono ?_
  rintro e w' ⟨⟨v, rfl, ho⟩, hb⟩
  exact ⟨v, S, rfl, ho, h1.below hb, fun b hb' => ⟨h2 b hb', h1.lt hb'⟩, bt h3 hb, h3.size⟩
theorem lit_ok (w : World) (l : List UInt8) (c : Nat) (m : Nat × Nat) (hl : l.length ≤ maxLen) : Part.ok (w.alloc (.cells (l.map fun b => Value.int .u8 (b.toNat : Nat)).toArray 5 m)) ⟨some ⟨w.heap.size, 0, none⟩, l, c⟩ := ⟨hl, bat_new w l _ _⟩
end Go.Proofs.YtnhplbdbgiimkaaGreatDoor
