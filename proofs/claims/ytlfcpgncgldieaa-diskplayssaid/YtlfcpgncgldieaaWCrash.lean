/-
  disk.Disk.Crash.
-/
import Derived.Test.YtlfcpgncgldieaaWCut
namespace Go.Proofs.Ytlfcpgncgldieaa
open Go.RowKit Go.Lib Go.Maps
open C (upd upd_same upd_other)
set_option linter.unusedVariables false

/-- The world under a letter, with what is known of it. -/
theorem wp_world {P : Program} {s : Code} {Q : Exit → Act → World → Prop} {a : Act} {w : World} (R : World → Prop) (h : R w) (k : ∀ w', R w' → s.wp P Q a w') : s.wp P Q a w := k w h
/-- In Crash's first loop: k writes are looked at. -/
def Cr1 (w : World) (L : Lay) (S : Nat → Prop) (s : C.St) (keep torn : Int) (p : Option Addr) (k : Nat) (wr : World) : Prop :=
  DMem wr L s.made ⟨s.room, C.used s.ws, s.made, false, s.lives⟩ (fun j => C.saf s.ws j + C.addS keep torn 0 ((C.pend s.ws).take k) j) (C.dat s.ws) (C.pof s.ws) ∧ WAt wr p (C.pend s.ws) ∧ Turn w wr S
theorem cr1_alloc {w wr : World} {L : Lay} {S : Nat → Prop} {s : C.St} {keep torn : Int} {p : Option Addr} {k : Nat} (h : Cr1 w L S s keep torn p k wr) (o : Obj) : Cr1 w L S s keep torn p k (wr.alloc o) ∧ (wr.alloc o).heap[wr.heap.size]? = some o ∧ w.heap.size ≤ wr.heap.size :=
  ⟨⟨h.1.same fun b hb => Below.heap_alloc _ _ _ (h.1.foot_lt hb), h.2.1.below (below_new _ _), h.2.2.alloc _⟩, heap_alloc_new _ _, h.2.2.size⟩
theorem Lay.file_self (L : Lay) (k : Nat) : L.file k (L.d k) (L.w k) = L := by
  have h1 : upd L.d k (L.d k) = L.d := by funext j; by_cases e : j = k; · subst e; exact upd_same _ _ _
                                          · exact upd_other _ _ e
  have h2 : upd L.w k (L.w k) = L.w := by funext j; by_cases e : j = k; · subst e; exact upd_same _ _ _
                                          · exact upd_other _ _ e
  unfold Lay.file; rw [h1, h2]
theorem cr1_step {w wr : World} {L : Lay} {S : Nat → Prop} {s : C.St} {keep torn : Int} {b k : Nat} {x : C.Wr} (h : Cr1 w L S s keep torn (some ⟨b, 0, none⟩) k wr) (hx : (C.pend s.ws)[k]? = some x) (his : L.is x.file = true) (hF : ∀ b, L.foot b → S b) (hS : ∀ b, S b → b < w.heap.size) (hb : w.heap.size ≤ b) {q d : Nat}
    (hq : q = C.saf s.ws x.file + C.addS keep torn 0 ((C.pend s.ws).take k) x.file) (hd : d = C.stay keep torn k x.bytes.length) {n : Nat} : Cr1 w L S s keep torn (some ⟨b, 0, none⟩) (k + 1) ((wr.setCell ⟨L.c x.file, 1, none⟩ (.int .i64 ((q : Int) + (d : Int)))).drewN n) := by
  obtain ⟨M, hat, ht⟩ := h
  have hf : L.foot (L.c x.file) := Or.inr (Or.inr ⟨_, his, Or.inl rfl⟩)
  have hcl := hS _ (hF _ hf)
  refine ⟨?_, ?_, ?_⟩
  · have M' := M.file his (L.d x.file) (L.w x.file) (q + d) (C.dat s.ws x.file) (C.pof s.ws x.file) (w' := (wr.setCell ⟨L.c x.file, 1, none⟩ (.int .i64 ((q : Int) + (d : Int)))).drewN n) (fun b _ hne _ _ => set_other hne)
      (by
        have := set_block (o := 1) (v := .int .i64 ((q : Int) + (d : Int))) (M.cont _ his)
        simp at this
        exact this)
      (Own.same (M.dat _ his) fun b hb => set_other (M.d_c his his hb)) (row_same (M.wr _ his) fun b hb => set_other (M.w_c his his hb)) (Or.inl rfl) (Or.inl rfl)
    rw [Lay.file_self] at M'
    refine M'.congr (fun j _ => ?_) (fun j _ => ?_) (fun j _ => ?_)
    · show upd (fun j => _) x.file (q + d) j = _
      rw [C.addS_snoc keep torn hx]
      by_cases e : j = x.file
      · subst e; rw [upd_same, if_pos rfl, hq, hd]; omega
      · rw [upd_other _ _ e, if_neg (Ne.symm e)]; omega
    · by_cases e : j = x.file
      · subst e; rw [upd_same]
      · rw [upd_other _ _ e]
    · by_cases e : j = x.file
      · subst e; rw [upd_same]
      · rw [upd_other _ _ e]
  · intro hl
    obtain ⟨b', hp, hc⟩ := hat hl
    cases hp
    refine ⟨b, rfl, fun i y hy j v hv => ?_⟩
    rw [← hc i y hy j v hv]
    exact World.cell?_of_block (a := ⟨b, i * 3 + j, none⟩) (set_other (fun e => by have e' : b = L.c x.file := e; omega))
  · exact Turn.trans ht ⟨rfl, rfl, rfl, by simp [World.setCell, World.drewN], fun b hb hn => set_other (fun e => hn (by subst e; exact hF _ hf))⟩ (fun x hx => Or.inl hx)
theorem IRange.iter {w : World} {b r n : Nat} {m : Int → Option Nat} {left : Int → Bool} {cnt : Nat} (h : IRange w b r n m left cnt) : ∃ a s q c, w.heap[r]? = some (.mapIter a s q c) := by
  obtain ⟨D, Lf, ⟨es, clock, since, seen, c0, hb, _, _, _, hr, _⟩, _⟩ := h
  exact ⟨_, _, _, _, hr⟩
theorem DMem.no_iter {w : World} {L : Lay} {n : Nat} {h : Head} {sa : Nat → Nat} {da : Nat → List UInt8} {pn : Nat → List C.Wr} (M : DMem w L n h sa da pn) {r : Nat} {a : Option Nat} {s : Nat} {q : Array Nat} {c : Nat} (hr : w.heap[r]? = some (.mapIter a s q c)) : ¬ L.foot r := fun hf => by
  rcases hf with rfl | rfl | ⟨k, hk, rfl | hb | hb⟩
  · rw [M.blk] at hr; cases hr
  · obtain ⟨es, cl, h2⟩ := M.map.isMap; rw [h2] at hr; cases hr
  · rw [M.cont k hk] at hr; cases hr
  · obtain ⟨cur, h2⟩ := row_type (M.dat k hk) hb; rw [h2] at hr; cases hr
  · obtain ⟨cur, h2⟩ := row_type (M.wr k hk) hb; rw [h2] at hr; cases hr
/-- What is behind Crash's first loop. -/
def Cr2 (w : World) (L : Lay) (S : Nat → Prop) (s : C.St) (sa : Nat → Nat) (u : Nat) (wr : World) : Prop :=
  DMem wr L s.made ⟨s.room, u, s.made, false, s.lives⟩ sa (C.dat s.ws) (C.pof s.ws) ∧ Turn w wr S
theorem cr2_of {w wr : World} {L : Lay} {S : Nat → Prop} {s : C.St} {keep torn : Int} {p : Option Addr} {k : Nat} (h : Cr1 w L S s keep torn p k wr) (hk : (C.pend s.ws).length ≤ k ∨ keep < k) : Cr2 w L S s (fun j => C.saf s.ws j + C.addS keep torn 0 (C.pend s.ws) j) (C.used s.ws) wr :=
  ⟨h.1.congr (fun j _ => by rw [C.addS_end keep torn hk]) (fun _ _ => rfl) (fun _ _ => rfl), h.2.2⟩
theorem cr2_zero {w wr : World} {L : Lay} {S : Nat → Prop} {s : C.St} {sa : Nat → Nat} {u : Nat} (h : Cr2 w L S s sa u wr) (hF : ∀ b, L.foot b → S b) : Cr2 w L S s sa 0 (wr.setCell ⟨L.g, 1, none⟩ (.int .i64 0)) :=
  ⟨h.1.head _ (by rw [set_block h.1.blk]; simp [Head.cells]) (fun b _ hne => set_other hne), h.2.setCell (hF _ (Or.inl rfl)) _⟩
/-- In Crash's second loop. -/
def daL (s : C.St) (sa : Nat → Nat) (left : Int → Bool) (j : Nat) : List UInt8 := if left (j : Int) = true then C.dat s.ws j else (C.dat s.ws j).take (sa j)
def pnL (s : C.St) (left : Int → Bool) (j : Nat) : List C.Wr := if left (j : Int) = true then C.pof s.ws j else []
def usL (s : C.St) (is : Nat → Bool) (sa : Nat → Nat) (left : Int → Bool) : Nat := C.sumOn (fun j => is j && !left (j : Int)) (fun j => ((C.dat s.ws j).take (sa j)).length) 1000
theorem sumOn_le {p q : Nat → Bool} {f g : Nat → Nat} : ∀ {n : Nat}, (∀ k, k < n → (if p k then f k else 0) ≤ if q k then g k else 0) → C.sumOn p f n ≤ C.sumOn q g n
  | 0, _ => Nat.le_refl _
  | n + 1, h => by
    rw [C.sumOn_succ, C.sumOn_succ]
    have h1 := sumOn_le (n := n) (fun k hk => h k (by omega))
    have h2 := h n (by omega)
    omega
theorem usL_le {s : C.St} {is : Nat → Bool} (his : is = s.is) (hok : s.Ok) (sa : Nat → Nat) (left : Int → Bool) : usL s is sa left ≤ C.used s.ws := by
  rw [C.used_sum s.is 1000 s.ws (fun x hx => ⟨hok.files _ (hok.has x hx), hok.has x hx⟩)]
  refine sumOn_le fun k _ => ?_
  rw [his]
  have := List.length_take_le' (sa k) (C.dat s.ws k)
  cases s.is k <;> cases left (k : Int) <;> simp
  omega
theorem sum_step (is : Nat → Bool) (left : Int → Bool) (f : Nat → Nat) (n k : Nat) (hk9 : k < n) (hk : is k = true) (hl : left (k : Int) = true) : C.sumOn (fun j => is j && !(left (j : Int) && !((j : Int) == (k : Int)))) f n = C.sumOn (fun j => is j && !left (j : Int)) f n + f k := by
  rw [C.sumOn_out (j := k) hk9 (by simp [hk]), Nat.add_comm]
  congr 1
  refine C.sumOn_congr fun j _ => ?_
  by_cases e : j = k
  · subst e; simp [hl]
  · have e1 : ((j : Int) == (k : Int)) = false := beq_eq_false_iff_ne.2 (by omega)
    have e2 : (j == k) = false := beq_eq_false_iff_ne.2 e
    simp only [e1, e2, Bool.not_false, Bool.and_true]
def Cr3 (w : World) (L : Lay) (S : Nat → Prop) (s : C.St) (sa : Nat → Nat) (r : Nat) (left left' : Int → Bool) (cnt : Nat) (wr : World) : Prop :=
  ∃ L', L'.g = L.g ∧ L'.mb = L.mb ∧ L'.is = L.is ∧ L'.c = L.c ∧ DMem wr L' s.made ⟨s.room, usL s L.is sa left, s.made, false, s.lives⟩ sa (daL s sa left) (pnL s left) ∧ IRange wr L.mb r s.made L.at left' cnt ∧ (∀ b, L'.foot b → S b ∨ w.heap.size ≤ b) ∧ Turn w wr S ∧ w.heap.size ≤ r
theorem at_isSome {L : Lay} (k : Nat) : (L.at (k : Int)).isSome = L.is k := by
  cases h : L.is k with
  | true => rw [Lay.at_some (by omega) (by simpa using h)]; rfl
  | false => rw [Lay.at_none (by simpa using h)]; rfl
theorem cr3_start {w wr w0 : World} {L : Lay} {S : Nat → Prop} {s : C.St} {sa : Nat → Nat} (h : Cr2 w L S s sa 0 wr) (hF : ∀ b, L.foot b → S b) {cnt : Nat} (hr : IRange w0 L.mb wr.heap.size s.made L.at (fun k => (L.at k).isSome) cnt) (hg : wr.grownBy w0 none) : Cr3 w L S s sa wr.heap.size (fun k => (L.at k).isSome) (fun k => (L.at k).isSome) cnt w0 := by
  refine ⟨L, rfl, rfl, rfl, rfl, ?_, hr, fun b hb => Or.inl (hF b hb), ?_, h.2.size⟩
  · have M := h.1.same (w' := w0) (fun b hb => hg.block b (h.1.foot_lt hb) (by simp))
    have hu : usL s L.is sa (fun k => (L.at k).isSome) = 0 := by
      refine C.sumOn_none _ _ _ fun k _ hk => ?_
      simp only [at_isSome] at hk
      cases h' : L.is k <;> rw [h'] at hk <;> cases hk
    rw [hu]
    refine M.congr (fun _ _ => rfl) (fun k hk => ?_) (fun k hk => ?_)
    · unfold daL; rw [if_pos ((at_isSome (L := L) k).trans hk)]
    · unfold pnL; rw [if_pos ((at_isSome (L := L) k).trans hk)]
  · exact h.2.trans (Turn.of_grown (S := fun _ => False) hg (fun b e => by cases e)) (fun _ h => h.elim)
theorem cr3_next {w wr w2 : World} {L : Lay} {S : Nat → Prop} {s : C.St} {sa : Nat → Nat} {r : Nat} {left left' : Int → Bool} {cnt cnt2 : Nat} (h : Cr3 w L S s sa r left left cnt wr) (hg : wr.grownBy w2 (some r)) (hr : IRange w2 L.mb r s.made L.at left' cnt2) : Cr3 w L S s sa r left left' cnt2 w2 := by
  obtain ⟨L', h1, h2, h3, h4, M, hr0, hF, ht, hrr⟩ := h
  obtain ⟨a, q, z, y, hi⟩ := hr0.iter
  refine ⟨L', h1, h2, h3, h4, M.same fun b hb => hg.block b (M.foot_lt hb) (fun e => ?_), hr, hF, ?_, hrr⟩
  · cases e; exact M.no_iter hi hb
  · exact ht.trans (Turn.of_grown (S := fun b => b = r) hg (fun b e => by cases e; rfl)) (fun x hx => Or.inr (by subst hx; exact hrr))
theorem cr3_file {w w2 : World} {L : Lay} {S : Nat → Prop} {s : C.St} {sa : Nat → Nat} {r k cnt : Nat} {left : Int → Bool} (h : Cr3 w L S s sa r left (fun j => left j && !(j == (k : Int))) cnt w2) (hk : L.is k = true) (hk9 : k < 1000) (hl : left (k : Int) = true) :
    ∃ p n c wv, w2.heap[L.c k]? = some (.cells #[.slice p n c, .int .i64 (sa k : Nat), wv] 58) ∧ Own w2 0 (.slice p n c) (C.dat s.ws k) ∧
      ∀ w3 p' n' c', w3.heap[L.c k]? = some (.cells #[.slice p' n' c', .int .i64 (sa k : Nat), .slice none 0 0] 58) → Own w3 0 (.slice p' n' c') ((C.dat s.ws k).take (sa k)) → ((Value.slice p' n' c').ownBlock = (Value.slice p n c).ownBlock ∨ ∀ b, (Value.slice p' n' c').ownBlock = some b → w2.heap.size ≤ b) → w2.grownBy w3 (some (L.c k)) →
        w3.heap[L.g]? = some (.cells #[.int .i64 (s.room : Nat), .int .i64 (usL s L.is sa left : Nat), .map (some L.mb), .int .i64 (s.made : Nat), .bool false, .int .i64 (s.lives : Nat)] 54) ∧ L.g ≠ L.c k ∧
        ∀ q, Cr3 w L S s sa r (fun j => left j && !(j == (k : Int))) (fun j => left j && !(j == (k : Int))) cnt ((w3.setCell ⟨L.g, 1, none⟩ (.int .i64 ((usL s L.is sa left : Nat) + (n' : Nat)))).drewN q) := by
  obtain ⟨L', h1, h2, h3, h4, M, hr, hF, ht, hrr⟩ := h
  generalize hU : usL s L.is sa left = U at M ⊢
  have hk' : L'.is k = true := by rw [h3]; exact hk
  have ho := M.dat k hk'
  have hda : daL s sa left k = C.dat s.ws k := if_pos hl
  rw [hda] at ho
  obtain ⟨p, c, hv, _⟩ := Own.part ho
  have hc := M.cont k hk'
  rw [h4, hv] at hc
  refine ⟨p, _, c, _, hc, hv ▸ ho, fun w3 p' n' c' k1 k2 k3 k4 => ?_⟩
  have hcc : L'.c k = L.c k := by rw [h4]
  have l2 : (Value.slice none 0 0).ownBlock = (L'.w k).ownBlock ∨ ∀ b, (Value.slice none 0 0).ownBlock = some b → w2.heap.size ≤ b := Or.inr (fun b e => by cases e)
  have l1 : (Value.slice p' n' c').ownBlock = (L'.d k).ownBlock ∨ ∀ b, (Value.slice p' n' c').ownBlock = some b → w2.heap.size ≤ b := by rw [hv]; exact k3
  have M3 := M.file hk' (.slice p' n' c') (.slice none 0 0) (sa k) ((C.dat s.ws k).take (sa k)) [] (w' := w3) (fun b hb hne _ _ => k4.block b (M.foot_lt hb) (fun e => hne (by rw [hcc]; exact Option.some.inj e))) (by rw [hcc]; exact k1) k2 (OwnW.nil _) l1 l2
  have hgb := M3.blk
  have hgc := M.g_c hk'
  rw [h1, hcc] at hgc
  have hgb' : w3.heap[L.g]? = some (.cells #[.int .i64 (s.room : Nat), .int .i64 (U : Nat), .map (some L.mb), .int .i64 (s.made : Nat), .bool false, .int .i64 (s.lives : Nat)] 54) := by
    have : (L'.file k (.slice p' n' c') (.slice none 0 0)).g = L.g := h1
    rw [this] at hgb
    have : (L'.file k (.slice p' n' c') (.slice none 0 0)).mb = L.mb := h2
    rw [this] at hgb
    exact hgb
  refine ⟨hgb', hgc, fun q => ⟨L'.file k (.slice p' n' c') (.slice none 0 0), h1, h2, h3, h4, ?_, ?_, ?_, ?_, hrr⟩⟩
  · have hn' : n' = ((C.dat s.ws k).take (sa k)).length := (Own.cap k2).1
    have hu : usL s L.is sa (fun j => left j && !(j == (k : Int))) = U + n' := by
      rw [← hU, hn']
      exact sum_step L.is left _ 1000 k hk9 hk hl
    have M4 := M3.head ⟨s.room, U + n', s.made, false, s.lives⟩ (w' := (w3.setCell ⟨L.g, 1, none⟩ (.int .i64 ((U : Nat) + (n' : Nat)))).drewN q) (by
      have e1 : (L'.file k (.slice p' n' c') (.slice none 0 0)).g = L.g := h1
      have e2 : (L'.file k (.slice p' n' c') (.slice none 0 0)).mb = L.mb := h2
      rw [e1, e2]
      have := set_block (o := 1) (v := .int .i64 ((U : Nat) + (n' : Nat) : Int)) hgb'
      simp [Head.cells] at this ⊢
      exact this) (fun b _ hne => by
      have e1 : (L'.file k (.slice p' n' c') (.slice none 0 0)).g = L.g := h1
      rw [e1] at hne
      exact set_other hne)
    rw [hu]
    refine M4.congr (fun j _ => ?_) (fun j _ => ?_) (fun j _ => ?_)
    · by_cases e : j = k
      · subst e; rw [upd_same]
      · rw [upd_other _ _ e]
    · by_cases e : j = k
      · subst e; rw [upd_same]; unfold daL; rw [if_neg (by simp)]
      · rw [upd_other _ _ e]
        have e1 : ((j : Int) == (k : Int)) = false := beq_eq_false_iff_ne.2 (by omega)
        unfold daL; simp only [e1, Bool.not_false, Bool.and_true]
    · by_cases e : j = k
      · subst e; rw [upd_same]; unfold pnL; rw [if_neg (by simp)]
      · rw [upd_other _ _ e]
        have e1 : ((j : Int) == (k : Int)) = false := beq_eq_false_iff_ne.2 (by omega)
        unfold pnL; simp only [e1, Bool.not_false, Bool.and_true]
  · obtain ⟨a, z, y, x, hi⟩ := hr.iter
    have hrn := M.no_iter hi
    have n1 : r ≠ L.g := fun e => hrn (by rw [e, ← h1]; exact Or.inl rfl)
    have n2 : r ≠ L.c k := fun e => hrn (by rw [e, ← hcc]; exact Or.inr (Or.inr ⟨k, hk', Or.inl rfl⟩))
    have n3 : L.mb ≠ L.g := by rw [← h1, ← h2]; exact M.g_mb.symm
    have n4 : L.mb ≠ L.c k := by rw [← hcc, ← h2]; exact (M.c_mb hk').symm
    exact hr.same ((set_other n3).trans (k4.block _ hr.imap.lt (fun e => n4 (Option.some.inj e)))) ((set_other n1).trans (k4.block _ hr.lt (fun e => n2 (Option.some.inj e))))
  · intro b hb
    rcases Lay.file_foot hk' l1 l2 b hb with h | h
    · exact hF b h
    · exact Or.inr (Nat.le_trans ht.size h)
  · have t1 : Turn w2 ((w3.setCell ⟨L.g, 1, none⟩ (.int .i64 ((U : Nat) + (n' : Nat)))).drewN q) (fun b => L'.foot b) := by
      have t2 : Turn w2 (w3.setCell ⟨L.g, 1, none⟩ (.int .i64 ((U : Nat) + (n' : Nat)))) (fun b => L'.foot b) := (Turn.of_grown k4 (fun b e => by cases e; rw [← hcc]; exact Or.inr (Or.inr ⟨k, hk', Or.inl rfl⟩))).setCell (by rw [← h1]; exact Or.inl rfl) _
      exact ⟨t2.os, t2.tape, t2.output, t2.size, t2.block⟩
    exact ht.trans t1 hF
theorem cr3_end {w wr : World} {L : Lay} {S : Nat → Prop} {s : C.St} {keep torn : Int} {r cnt : Nat} {left : Int → Bool} (his : L.is = s.is) (hS : ∀ b, S b → b < w.heap.size) (hok : s.Ok) (h : Cr3 w L S s (fun j => C.saf s.ws j + C.addS keep torn 0 (C.pend s.ws) j) r left left cnt wr) (hl : ∀ k, left k = false) :
    Disk wr L.g (Ext w wr S) (C.crashS s keep torn) ∧ Turn w wr S := by
  obtain ⟨L', h1, h2, h3, h4, M, hr, hF, ht, hrr⟩ := h
  refine ⟨⟨L', h1, h3.trans his, ?_, ?_, ?_, C.crashS_ok hok keep torn⟩, ht⟩
  · have hu : usL s L.is (fun j => C.saf s.ws j + C.addS keep torn 0 (C.pend s.ws) j) left = C.used (C.crashL keep torn 0 s.ws) := by
      rw [C.used_sum s.is 1000 (C.crashL keep torn 0 s.ws) (fun x hx => by obtain ⟨y, hy, _, e⟩ := C.crash_mem hx; rw [← e]; exact ⟨hok.files _ (hok.has y hy), hok.has y hy⟩)]
      unfold usL
      refine C.sumOn_congr fun j _ => ?_
      rw [his, hl]
      simp only [Bool.not_false, Bool.and_true]
      rw [C.crash_dat keep torn j 0 s.ws hok.ahead]
    rw [hu] at M
    refine M.congr (fun j _ => ?_) (fun j _ => ?_) (fun j _ => ?_)
    · show _ = C.saf (C.crashL keep torn 0 s.ws) j
      rw [(C.saf_all _ (C.crash_safe keep torn s.ws 0) j).1, C.crash_len]
    · unfold daL; rw [hl, if_neg (by simp)]
      show _ = C.dat (C.crashL keep torn 0 s.ws) j
      rw [C.crash_dat keep torn j 0 s.ws hok.ahead]
    · unfold pnL; rw [hl, if_neg (by simp)]
      exact (C.saf_all _ (C.crash_safe keep torn s.ws 0) j).2.symm
  · intro b hb
    rcases hF b hb with h | h
    · exact Or.inl h
    · exact Or.inr ⟨h, M.foot_lt hb⟩
  · intro b hb
    rcases hb with h | h
    · exact Nat.lt_of_lt_of_le (hS b h) ht.size
    · exact h.2
end Go.Proofs.Ytlfcpgncgldieaa
