/-
  rostrumref5.Disk: Append, taken.
-/
import Derived.Test.YtlfcpgncgldieaaRApp2
namespace Go.Proofs.Ytlfcpgncgldieaa
open Go.RowKit Go.Lib Go.Maps
open C (upd upd_same upd_other)
set_option linter.unusedVariables false

theorem rowR_one {l : List RW} (h : ∀ x ∈ l, x.2.oneCell' = true) : ∀ u ∈ rowR l, u.oneCell' = true := by
  intro u hu
  obtain ⟨x, hx, hu⟩ := List.mem_flatMap.1 hu
  simp only [encR, List.mem_cons, List.not_mem_nil, or_false] at hu
  rcases hu with rfl | rfl | rfl
  · rfl
  · exact h x hx
  · rfl
theorem own_one {w : World} {base : Nat} {v : Value} {l : List UInt8} (h : Own w base v l) : v.oneCell' = true := by
  obtain ⟨p, c, hv, _⟩ := Own.part h
  rw [hv]; rfl
theorem row_one_r (w : World) (x : RW) : SrcAt (w.alloc (.cells #[.int .i64 (x.1.file : Nat), x.2, .bool x.1.safe] 70)) 3 (.slice (some ⟨w.heap.size, 0, none⟩) 1 1) 1 (rowR [x]) := by
  refine ⟨_, 1, rfl, rfl, (fun e => by cases e), fun a ha j u hj => ?_⟩
  cases ha
  rw [WideShapes.add_plain, Nat.zero_add, World.cell?_alloc_mark]
  simp only [rowR, encR, List.flatMap_cons, List.flatMap_nil, List.append_nil] at hj
  simpa using hj
/-- No byte lies in the disk's own cells. -/
theorem RMem.noByte {w : World} {g : Nat} {v : Value} {ls : List RW} {s : C.St} (M : RMem w g v ls s) {a : Nat} {z : Int} : w.cell? ⟨g, a, none⟩ ≠ some (.int .u8 z) := fun h => by
  obtain ⟨cs, hb, hc⟩ := M.blk
  obtain ⟨p, c, hv⟩ := OwnR.shape M.row
  have hr := hc.row
  rw [blk_cell hb a] at h
  rw [hv] at hr
  have hl : a < cs.size := (Array.getElem?_eq_some_iff.1 h).1
  rw [hc.size] at hl
  by_cases e0 : a = 0
  · subst e0; rw [hc.room] at h; cases h
  by_cases e1 : a ≤ 1000
  · have := hc.has (a - 1) (by omega)
    rw [show 1 + (a - 1) = a by omega] at this
    rw [this] at h; cases h
  by_cases e2 : a = 1001
  · subst e2; rw [hr] at h; cases h
  by_cases e3 : a = 1002
  · subst e3; rw [hc.off] at h; cases h
  · obtain rfl : a = 1003 := by omega
    rw [hc.lives] at h; cases h
theorem RMem.part {w w' : World} {g : Nat} {v : Value} {ls : List RW} {s : C.St} (M : RMem w g v ls s) (hs : ∀ b, b < w.heap.size → b ≠ g → w'.heap[b]? = w.heap[b]?) {x : Part} (hx : x.ok w) : x.ok w' := by
  refine ⟨hx.1, fun hl => ?_⟩
  obtain ⟨b, o, hp, hc⟩ := hx.2 hl
  refine ⟨b, o, hp, fun i hi => ?_⟩
  have h1 := hc i hi
  have hne : b ≠ g := fun e => by subst e; exact M.noByte h1
  rw [← h1]
  exact World.cell?_of_block (a := ⟨b, o + i, none⟩) (hs b (World.block_lt_of_cell? _ _ h1) hne)
/-- Append's end: the new row is laid into the disk. -/
theorem rapp_end {w wa W6 : World} {g f : Nat} {S : Nat → Prop} {s : C.St} {v v2 v3 : Value} {ls : List RW} {l : List UInt8} (M : RMem w g v ls s) (hF : ∀ b, RFoot g v ls b → S b) (hS : ∀ b, S b → b < w.heap.size) (hf : f < 1000)
    (ha : wa = w.setCell ⟨g, 1 + f, none⟩ (.bool true)) (hb : Below w.heap.size wa W6) (h3 : OwnR W6 v3 (ls ++ [(⟨s.made, f, l, false⟩, v2)])) (h2 : Own W6 0 v2 l)
    (n2 : ∀ b, v2.ownBlock = some b → w.heap.size ≤ b) (n3 : ∀ b, v3.ownBlock = some b → w.heap.size ≤ b) :
    Ref (W6.setCell ⟨g, 1001, none⟩ v3) g (Ext w (W6.setCell ⟨g, 1001, none⟩ v3) S) (C.appS s f l) ∧ Turn w (W6.setCell ⟨g, 1001, none⟩ v3) S := by
  subst ha
  have hsz : (w.setCell ⟨g, 1 + f, none⟩ (.bool true)).heap.size = w.heap.size := by simp [World.setCell]
  have hgS : S g := hF g (Or.inl rfl)
  have hgl : g < w.heap.size := hS g hgS
  have ht : Turn w (W6.setCell ⟨g, 1001, none⟩ v3) S := by
    refine Turn.setCell (Turn.trans ((Turn.refl w S).setCell hgS (.bool true)) (Turn.of_below (S := fun _ => False) (hsz ▸ hb)) (fun x h => h.elim)) hgS v3
  have hsz2 : (W6.setCell ⟨g, 1001, none⟩ v3).heap.size = W6.heap.size := by simp [World.setCell]
  have hold : ∀ b, b < w.heap.size → b ≠ g → (W6.setCell ⟨g, 1001, none⟩ v3).heap[b]? = w.heap[b]? := fun b hb' hne => by
    rw [set_other hne, hb.block b hb', set_other hne]
  refine ⟨⟨v3, ls ++ [(⟨s.made, f, l, false⟩, v2)], ⟨?_, ?_, ?_, ?_, ?_⟩, ?_, ?_⟩, ht⟩
  · obtain ⟨cs, hb0, hc⟩ := M.blk
    have hb6 : W6.heap[g]? = some (.cells (cs.setIfInBounds (1 + f) (.bool true)) 42) := by
      rw [hb.block g hgl]; exact set_block hb0
    refine ⟨_, set_block hb6, ?_⟩
    refine ((hc.setIs hf true).setRow v3).congr rfl (fun k hk => ?_) rfl rfl
    show (s.is k || k == f) = upd s.is f true k
    by_cases e : k = f
    · subst e; rw [upd_same]; simp
    · rw [upd_other _ _ e]; simp [e]
  · rw [List.map_append, M.ws]; rfl
  · exact row_same h3 fun b hb' => set_other (fun e => by have := n3 b hb'; omega)
  · intro p hp
    rcases List.mem_append.1 hp with hp | hp
    · exact (M.dat p hp).same fun b hb' => hold b (row_lt (M.dat p hp) hb') (M.d_g hp hb')
    · simp only [List.mem_singleton] at hp
      subst hp
      exact Own.same h2 fun b hb' => set_other (fun e => by have := n2 b hb'; omega)
  · refine List.pairwise_append.2 ⟨M.inj, List.pairwise_singleton _ _, fun p hp q hq b hb' hb2 => ?_⟩
    simp only [List.mem_singleton] at hq
    subst hq
    have := n2 b hb2
    have := row_lt (M.dat p hp) hb'
    omega
  · intro b hb'
    rcases hb' with rfl | hb' | ⟨p, hp, hb'⟩
    · exact Or.inl hgS
    · exact Or.inr ⟨n3 b hb', by rw [hsz2]; exact row_lt h3 hb'⟩
    · rcases List.mem_append.1 hp with hp | hp
      · exact Or.inl (hF b (Or.inr (Or.inr ⟨p, hp, hb'⟩)))
      · simp only [List.mem_singleton] at hp
        subst hp
        exact Or.inr ⟨n2 b hb', by rw [hsz2]; exact row_lt h2 hb'⟩
  · intro b hb'
    rcases hb' with hb' | hb'
    · exact Nat.lt_of_lt_of_le (hS b hb') ht.size
    · exact hb'.2
theorem wp_here {P : Program} {s : Code} {Q : Exit → Act → World → Prop} {a : Act} {w : World} (k : ∀ w', w' = w → s.wp P Q a w') : s.wp P Q a w := k w rfl
theorem row_empty (w : World) : (w.alloc (.cells #[] 70)).ownsRow 0 70 3 (.slice (some ⟨w.heap.size, 0, none⟩) 0 0) 0 [] := World.ownsRow_lit w #[] 0 (Nat.zero_le _) (Nat.zero_le _) rfl
theorem rapp1 {wa W2 : World} {va : Value} (hg : (wa.alloc (.cells #[] 70)).grownBy W2 (some wa.heap.size)) (hl : va.ownBlock = some wa.heap.size ∨ va.ownBlock = some (wa.alloc (.cells #[] 70)).heap.size) : Below wa.heap.size wa W2 ∧ (∀ b, va.ownBlock = some b → wa.heap.size ≤ b) := by
  refine ⟨((Below.refl _ wa).alloc (Nat.le_refl _) _).grown hg (by simp) (fun k e => by cases e; exact Nat.le_refl _), fun b hb => ?_⟩
  rcases hl with h | h
  · rw [h] at hb; cases hb; exact Nat.le_refl _
  · rw [h] at hb; cases hb; simp
/-- The last of Append's three rows: all that was made. -/
theorem rapp3 {wa W2 W4 W6 : World} {n : Nat} {va vb vc : Value} {x : C.Wr} {cells : Array Value} {t : TypeId} {xs : List Value} (h2 : Below wa.heap.size wa W2) (hn : ∀ b, va.ownBlock = some b → wa.heap.size ≤ b) (ha : W2.ownsRow 0 70 3 va n xs)
    (h4 : Below W2.heap.size W2 W4) (hb : Own W4 W2.heap.size vb x.bytes) (hg : (W4.alloc (.cells cells t)).grownBy W6 va.ownBlock) (hl : vc.ownBlock = va.ownBlock ∨ vc.ownBlock = some (W4.alloc (.cells cells t)).heap.size) :
    Below wa.heap.size wa W6 ∧ Own W6 0 vb x.bytes ∧ (∀ b, vb.ownBlock = some b → wa.heap.size ≤ b) ∧ (∀ b, vc.ownBlock = some b → wa.heap.size ≤ b) := by
  have hw4 : Below wa.heap.size wa W4 := h2.trans (h4.mono h2.size)
  refine ⟨(hw4.alloc hw4.size (.cells cells t)).grown hg (by have := hw4.size; simp; omega) hn, ?_, fun b hb' => Nat.le_trans h2.size (hb.ge b hb'), fun b hb' => ?_⟩
  · refine Own.same (Own.lower hb (Nat.zero_le _)) fun b hb' => ?_
    rw [hg.block b (by have := row_lt hb hb'; simp; omega) (fun e => by have := hb.ge b hb'; have := row_lt ha e.symm; omega)]
    exact Below.heap_alloc _ _ _ (row_lt hb hb')
  · rcases hl with h | h
    · exact hn b (h ▸ hb')
    · rw [h] at hb'; cases hb'; have := hw4.size; simp; omega
theorem rapp_src {W2 W4 : World} {n : Nat} {va : Value} {xs : List Value} {cells : Array Value} {t : TypeId} (ha : W2.ownsRow 0 70 3 va n xs) (h4 : Below W2.heap.size W2 W4) : (W4.alloc (.cells cells t)).ownsRow 0 70 3 va n xs :=
  row_same ha fun b hb => (Below.heap_alloc _ _ _ (Nat.lt_of_lt_of_le (row_lt ha hb) h4.size)).trans (h4.block b (row_lt ha hb))
end Go.Proofs.Ytlfcpgncgldieaa
