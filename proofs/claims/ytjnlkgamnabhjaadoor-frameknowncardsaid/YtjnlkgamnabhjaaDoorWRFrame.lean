/-
  The document's own Put (rostrumref1.Frame).
-/
import Derived.Test.YtjnlkgamnabhjaaDoorWScan
namespace Go.Proofs.YtjnlkgamnabhjaaDoor
open Go.RowKit Go.Lib
set_option linter.unusedVariables false

theorem Own.keptLow {w w' : World} {base k : Nat} {v : Value} {l : List UInt8} (h : Own w base v l) (hg : w.grownBy w' (some k)) (hk : k < base) : Own w' base v l := by
  refine World.ownsRow.kept h hg ?_
  cases e : v.ownBlock with
  | none => exact Or.inl rfl
  | some g =>
    refine Or.inr ?_
    have := Own.ge h g e
    intro h'
    cases h'
    omega
theorem rcrc_n (p : Option Addr) (n : Nat) (l : List UInt8) (cap : Nat) (s : BitVec 32) (w : World) (hn : n = l.length) (hx : (Part.mk p l cap).ok w) (hs : C.crc l = s) :
    Calls Tryd.prog 22 #[.slice p n cap] w fun e w' => e = .returned (.int .u32 (s.toNat : Nat)) ∧ w' = w := by
  subst hn; exact rcrc_at p l cap s w hx.1 hx.2 hs
set_option maxHeartbeats 4000000 in
theorem rframe_any (pb : Option Addr) (lb : List UInt8) (cb : Nat) (pr : Option Addr) (lr : List UInt8) (cr : Nat) (w : World) (hb : (Part.mk pb lb cb).ok w) (hr : (Part.mk pr lr cr).ok w) (hlr : lr.length ≤ 30000) (hlb : lb.length ≤ 30000) :
    Calls Tryd.prog 12 #[.slice pb lb.length cb, .slice pr lr.length cr] w fun e w' => (∃ v, e = .returned (.tuple #[v, .bool true]) ∧ Own w' w.heap.size v (lb ++ C.fr lr)) ∧ Below w.heap.size w w' := by
  have HB : Hid ((Part.mk pb lb cb).ok w) := hb
  have HR : Hid ((Part.mk pr lr cr).ok w) := hr
  have HN : Hid (((BitVec.ofNat 32 lr.length).toNat : Int) = (lr.length : Nat)) := by
    show _ = _
    rw [BitVec.toNat_ofNat, Nat.mod_eq_of_lt (by omega)]
  clear hb hr
  go_enter Tryd.func12, Tryd.ntmps12
  go_wp2_with fail
  refine (four_at _ _ _ HN.out).mono ?_
  rintro e w1 ⟨rfl, ho1, h1⟩
  have HO1 : Hid (Own w1 w.heap.size (.slice (some ⟨w.heap.size, 0, none⟩) 4 4) (C.len4 lr)) := ho1
  have HP1 : Hid ((Part.mk (some ⟨w.heap.size, 0, none⟩) (C.len4 lr) 4).ok w1) := Own.okAt HO1.out rfl
  have HB1 : Hid ((Part.mk pb lb cb).ok w1) := Part.ok.below HB.out h1
  have HW1 : Hid (Below w.heap.size w w1) := h1
  have hs1 : w.heap.size < w1.heap.size := by
    rcases HO1.out.2 with ⟨h, _⟩ | ⟨g, cap, cur, h, _, hg, _⟩
    · cases h
    · cases h; exact (Array.getElem?_eq_some_iff.1 hg).1
  have HE : Hid (Own (w1.alloc (.cells #[] 5)) w1.heap.size (.slice (some ⟨w1.heap.size, 0, none⟩) 0 0) []) := Own.empty w1 w1.heap.size (Nat.le_refl _)
  clear ho1 h1
  go_wp2_with (first
    | (at_builtin; ((refine wpList_append_part rfl _ _ rfl w.heap.size _ (C.len4 lr) rfl (Own.below HO1.out h4) ⟨pr, lr, cr⟩ rfl (Part.ok.below HR.out (bt HW1.out h4)) (by rw [C.len4_length]; show 4 + lr.length ≤ 100000; omega) (by have := h4.size; omega) ?_; intro v5 w5 ho5 hg5; have h5 : Below w.heap.size w w5 := Own.grown (Own.below HO1.out h4) (bt HW1.out h4) (by have := h4.size; omega) hg5; have ho45 := Own.keptLow ho4 hg5 hs1; obtain ⟨p5, c5, rfl, hok5⟩ := Own.part ho5; clear hg5 ho4)))
    | (at_builtin; ((refine wpList_append_part rfl _ _ rfl w1.heap.size _ ([] ++ lb ++ [1]) rfl ho3 ⟨some ⟨w.heap.size, 0, none⟩, C.len4 lr, 4⟩ rfl (Part.ok.below HP1.out h3) (by simp [C.len4_length]; omega) h3.size ?_; intro v4 w4 ho4 hg4; have h4 : Below w1.heap.size w1 w4 := Own.grown ho3 h3 h3.size hg4; clear hg4)))
    | (at_builtin; ((refine wpList_append_part rfl _ _ rfl w1.heap.size _ ([] ++ lb) rfl (Own.below ho2 (below_new _ _)) ⟨some ⟨w2.heap.size, 0, none⟩, [1], 1⟩ rfl (one_row _ _) (by simp; omega) (by have := h2.size; simp; omega) ?_; intro v3 w3 ho3 hg3; have h3 : Below w1.heap.size w1 w3 := Own.grown (Own.below ho2 (below_new _ _)) (bt h2 (below_new _ _)) (by have := h2.size; simp; omega) hg3; clear hg3)))
    | (at_builtin; ((refine wpList_append_part rfl _ _ rfl w1.heap.size _ [] rfl HE.out ⟨pb, lb, cb⟩ rfl (Part.ok.below HB1.out (below_new _ _)) (by simp only [List.length_nil]; omega) (by simp) ?_; intro v2 w2 ho2 hg2; have h2 : Below w1.heap.size w1 w2 := Own.grown HE.out (below_new w1 _) (by simp) hg2; clear hg2)))
    | (go_at_call 22; fail))
  refine (rcrc_n p5 _ (C.len4 lr ++ lr) c5 (C.crc (C.len4 lr ++ lr)) w5 (by rw [List.length_append]) hok5 rfl).mono ?_
  rintro e w' ⟨rfl, hw'⟩
  subst w'
  have HO5 : Hid (Own w5 w1.heap.size v4 ([] ++ lb ++ [1] ++ C.len4 lr)) := ho45
  have HW5 : Hid (Below w.heap.size w w5) := h5
  have hs5 := (show w1.heap.size ≤ w5.heap.size from by
    rcases Own.part ho45 with ⟨p, c, hv, _⟩
    rcases ho45.2 with ⟨_, h0⟩ | ⟨g, cap, cur, _, hb, hg, _⟩
    · simp at h0
    · have := (Array.getElem?_eq_some_iff.1 hg).1; omega)
  clear ho2 ho3 ho45 ho5 h2 h3 h4 hok5 h5
  go_wp2_with fail
  refine (four_any _ _).mono ?_
  rintro e w6 ⟨rfl, ho6, h6⟩
  have HO6 : Hid (Part.ok w6 ⟨some ⟨w5.heap.size, 0, none⟩, C.sum4 lr, 4⟩) := Own.okAt ho6 rfl
  have HW6 : Hid (Below w.heap.size w w6) := bt HW5.out h6
  have HX6 : Hid (Own w6 w1.heap.size v4 ([] ++ lb ++ [1] ++ C.len4 lr)) := Own.below HO5.out h6
  have hs6 : w1.heap.size ≤ w6.heap.size := Nat.le_trans hs5 h6.size
  clear ho6 h6
  go_wp2_with (first
    | (at_builtin; ((refine wpList_append_part rfl _ _ rfl w1.heap.size _ ([] ++ lb ++ [1] ++ C.len4 lr ++ C.sum4 lr) rfl ho7 ⟨pr, lr, cr⟩ rfl (Part.ok.below HR.out h7) (by simp [C.len4_length, C.sum4_length]; omega) hs7 ?_; intro v8 w8 ho8 hg8; have h8 : Below w.heap.size w w8 := h7.grown hg8 h7.size (fun k hk => Nat.le_trans (Nat.le_of_lt hs1) (Own.ge ho7 k hk)); clear hg8)))
    | (at_builtin; ((refine wpList_append_part rfl _ _ rfl w1.heap.size _ ([] ++ lb ++ [1] ++ C.len4 lr) rfl HX6.out ⟨some ⟨w5.heap.size, 0, none⟩, C.sum4 lr, 4⟩ rfl HO6.out (by simp [C.len4_length, C.sum4_length]; omega) hs6 ?_; intro v7 w7 ho7 hg7; have h7 : Below w.heap.size w w7 := HW6.out.grown hg7 HW6.out.size (fun k hk => Nat.le_trans (Nat.le_of_lt hs1) (Own.ge HX6.out k hk)); have hs7 : w1.heap.size ≤ w7.heap.size := Nat.le_trans hs6 hg7.size; clear hg7))))
  go_ret2
  refine ⟨⟨_, rfl, ?_⟩, h8⟩
  have := Own.lower ho8 (Nat.le_of_lt hs1)
  have e : [] ++ lb ++ [1] ++ C.len4 lr ++ C.sum4 lr ++ lr = lb ++ C.fr lr := by simp [C.fr]
  rw [← e]; exact this
end Go.Proofs.YtjnlkgamnabhjaaDoor
