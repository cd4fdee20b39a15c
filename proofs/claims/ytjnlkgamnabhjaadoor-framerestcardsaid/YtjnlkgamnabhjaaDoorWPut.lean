/-
  frame.Put.
-/
import Derived.Test.YtjnlkgamnabhjaaDoorWCat
namespace Go.Proofs.YtjnlkgamnabhjaaDoor
open Go.RowKit Go.Lib
set_option linter.unusedVariables false

theorem Own.lower {w : World} {base base' : Nat} {v : Value} {l : List UInt8} (h : Own w base v l) (hb : base' ≤ base) : Own w base' v l := by
  obtain ⟨h1, h2⟩ := h
  refine ⟨h1, ?_⟩
  rcases h2 with h2 | ⟨g, cap, cur, a, b, c⟩
  · exact Or.inl h2
  · exact Or.inr ⟨g, cap, cur, a, Nat.le_trans hb b, c⟩
theorem concat_new (w1 : World) (ps : List Part) (n B cap : Nat) (vs : Array Value) (L : List UInt8) (hB : B = w1.heap.size) (hv : vs = (ps.map Part.v).toArray) (hn : n = ps.length) (hl : ps.length ≤ 9) (hA : ∀ x ∈ ps, x.ok w1) (hj : (joined ps).length ≤ 100000) (hL : joined ps = L) :
    Calls Tryd.prog 18 #[.slice (some ⟨B, 0, none⟩) n cap] (w1.alloc (.cells vs 23)) fun e w' => (∃ v, e = .returned v ∧ Own w' w1.heap.size v L) ∧ Below w1.heap.size w1 w' := by
  subst hB hv hn hL
  refine (concat_any _ ps cap _ (by omega) (pat_new _ _ _ _) (fun x hx => (hA x hx).below (below_new _ _)) hj).mono ?_
  rintro e w' ⟨⟨v, rfl, ho⟩, hb⟩
  exact ⟨⟨v, rfl, ho.lower (below_new w1 _).size⟩, bt (below_new _ _) hb⟩
theorem nb_at (n : Int) (s : BitVec 32) (w : World) (h : (s.toNat : Int) = n) : Calls Tryd.prog 16 #[.int .u32 n] w fun e w' => e = .returned (.slice (some ⟨w.heap.size, 0, none⟩) 4 4) ∧ Own w' w.heap.size (.slice (some ⟨w.heap.size, 0, none⟩) 4 4) (C.four s) ∧ Below w.heap.size w w' := by
  subst h; exact nb_any s w
theorem four_at (n : Int) (s : BitVec 32) (w : World) (h : (s.toNat : Int) = n) : Calls Tryd.prog 21 #[.int .u32 n] w fun e w' => e = .returned (.slice (some ⟨w.heap.size, 0, none⟩) 4 4) ∧ Own w' w.heap.size (.slice (some ⟨w.heap.size, 0, none⟩) 4 4) (C.four s) ∧ Below w.heap.size w w' := by
  subst h; exact four_any s w
/-- A row of the call's own, its place known, as a part. -/
theorem Own.okAt {w : World} {base n cap : Nat} {p : Option Addr} {l : List UInt8} (h : Own w base (.slice p n cap) l) (hn : n = l.length) : Part.ok w ⟨p, l, cap⟩ := by
  subst hn
  obtain ⟨p', c', hv, hok⟩ := Own.part h
  simp only [Value.slice.injEq] at hv
  obtain ⟨rfl, _, rfl⟩ := hv
  exact hok
theorem one_row (w : World) (m : Nat × Nat) : Part.ok (w.alloc (.cells #[.int .u8 1] 5 m)) ⟨some ⟨w.heap.size, 0, none⟩, [1], 1⟩ := ⟨show 1 ≤ maxLen by decide, bat_new w [1] 5 m⟩
set_option maxHeartbeats 2000000 in
theorem put_big (pb : Option Addr) (nb cb : Nat) (pr : Option Addr) (nr cr : Nat) (w : World) (h : 65536 < nr) (h2 : nr ≤ 9223372036854775807) :
    Calls Tryd.prog 9 #[.slice pb nb cb, .slice pr nr cr] w fun e w' => e = .returned (.tuple #[.slice none 0 0, .int .i64 2]) ∧ w' = w := by
  go_enter Tryd.func9, Tryd.ntmps9
  go_wp2
  go_ret2
  exact ⟨rfl, rfl⟩
set_option maxHeartbeats 2000000 in
theorem put_any (pb : Option Addr) (lb : List UInt8) (cb : Nat) (pr : Option Addr) (lr : List UInt8) (cr : Nat) (w : World) (hT : Tabs w) (hb : (Part.mk pb lb cb).ok w) (hr : (Part.mk pr lr cr).ok w) (hlr : lr.length ≤ 65536) (hlb : lb.length ≤ 30000) :
    Calls Tryd.prog 9 #[.slice pb lb.length cb, .slice pr lr.length cr] w fun e w' => (∃ v, e = .returned (.tuple #[v, .int .i64 0]) ∧ Own w' w.heap.size v (lb ++ C.fr lr)) ∧ Below w.heap.size w w' := by
  have HB : Hid ((Part.mk pb lb cb).ok w) := hb
  have HR : Hid ((Part.mk pr lr cr).ok w) := hr
  have HN : Hid (((BitVec.ofNat 32 lr.length).toNat : Int) = (lr.length : Nat)) := by
    show _ = _
    rw [BitVec.toNat_ofNat, Nat.mod_eq_of_lt (by omega)]
  clear hb hr
  go_enter Tryd.func9, Tryd.ntmps9
  go_wp2_with fail
  refine (nb_at _ _ _ HN.out).mono ?_
  rintro e w1 ⟨rfl, ho1, h1⟩
  have HO1 : Hid (Own w1 w.heap.size (.slice (some ⟨w.heap.size, 0, none⟩) 4 4) (C.len4 lr)) := ho1
  have HR1 : Hid ((Part.mk pr lr cr).ok w1) := Part.ok.below HR.out h1
  have HP1 : Hid ((Part.mk (some ⟨w.heap.size, 0, none⟩) (C.len4 lr) 4).ok w1) := Own.okAt HO1.out rfl
  have hT1 := hT.below h1
  clear ho1
  go_wp2_with fail
  refine (of_newB w1 [⟨some ⟨w.heap.size, 0, none⟩, C.len4 lr, 4⟩, ⟨pr, lr, cr⟩] ((C.crc (C.len4 lr ++ lr)).toNat : Nat) 2 _ 2 _ (by simp) rfl rfl hT1 (by simp) (ok_cons HP1.out (ok_one HR1.out)) (by simp [joined])).mono ?_
  rintro e w2 ⟨rfl, h2⟩
  go_wp2_with fail
  refine (nb_any _ _).mono ?_
  rintro e w3 ⟨rfl, ho3, h3⟩
  have HO3 : Hid (Own w3 w2.heap.size (.slice (some ⟨w2.heap.size, 0, none⟩) 4 4) (C.sum4 lr)) := ho3
  clear ho3
  go_wp2_with fail
  have h12 := bt h2 h3
  refine (concat_new (w3.alloc (.cells #[.int .u8 1] 5)) [⟨pb, lb, cb⟩, ⟨some ⟨w3.heap.size, 0, none⟩, [1], 1⟩, ⟨some ⟨w.heap.size, 0, none⟩, C.len4 lr, 4⟩, ⟨some ⟨w2.heap.size, 0, none⟩, C.sum4 lr, 4⟩, ⟨pr, lr, cr⟩] 5 _ 5 _ (lb ++ C.fr lr) (by simp) rfl rfl (by simp)
    (ok_cons ((HB.out.below (bt h1 h12)).below (below_new _ _)) (ok_cons (one_row _ _) (ok_cons ((HP1.out.below h12).below (below_new _ _)) (ok_cons ((Own.okAt HO3.out rfl).below (below_new _ _)) (ok_one ((HR1.out.below h12).below (below_new _ _)))))))
    ?_ (by simp [joined, C.fr])).mono ?_
  · have e1 := C.len4_length lr
    have e2 := C.sum4_length lr
    simp [joined, e1, e2]; omega
  rintro e w4 ⟨⟨v4, rfl, ho4⟩, h4⟩
  have hb4 : Below w.heap.size w w4 := bt (bt h1 h12) (bt (below_new _ _) h4)
  have HO4 : Hid (Own w4 w.heap.size v4 (lb ++ C.fr lr)) := Own.lower ho4 (by have := (bt h1 h12).size; simp; omega)
  clear ho4
  go_wp2
  go_ret2
  exact ⟨⟨v4, rfl, HO4.out⟩, hb4⟩
end Go.Proofs.YtjnlkgamnabhjaaDoor
