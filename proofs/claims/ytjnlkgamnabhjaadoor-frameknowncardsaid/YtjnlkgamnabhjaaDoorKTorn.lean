/-
  FrameTorn: each beginning of a frame is one that could go on.
-/
import Derived.Test.YtjnlkgamnabhjaaDoorWAwake
namespace Go.Proofs.YtjnlkgamnabhjaaDoor
open Go.RowKit Go.Lib
set_option linter.unusedVariables false

/-- A row handed in. -/
def Arg (w : World) (x : Part) : Prop := x.ok w ∧ x.l.length ≤ x.cap ∧ x.cap ≤ maxLen
theorem Arg.below {w w' : World} {x : Part} (h : Arg w x) (hb : Below w.heap.size w w') : Arg w' x := ⟨h.1.below hb, h.2⟩
theorem BAt.pre {w : World} {p : Option Addr} {l : List UInt8} (h : BAt w p l) (m : Nat) : BAt w p (l.take m) := fun hl => by
  have hl' : 0 < l.length := by rw [List.length_take] at hl; omega
  obtain ⟨b, o, rfl, hc⟩ := h hl'
  have := BAt.sub h 0 m
  rw [List.drop_zero, Nat.add_zero] at this
  exact this hl
theorem scan_at (p : Option Addr) (n : Nat) (l : List UInt8) (cap : Nat) (R : List (List UInt8)) (m : Nat) (w0 w : World) (hn : n = l.length) (hT : Tabs w0) (hw : Below w0.heap.size w0 w) (hx : (Part.mk p l cap).ok w) (hcap : l.length ≤ cap) (hcm : cap ≤ maxLen) (hl : l.length ≤ 100000) (hs : C.scan l = (R, m)) :
    Calls Tryd.prog 11 #[.slice p n cap] w fun e w' => (∃ v, e = .returned (.tuple #[v, .int .i64 (m : Nat), .bool ((m : Int) == (n : Int))]) ∧ Rows w' v R) ∧ Below w.heap.size w w' ∧ Below w0.heap.size w0 w' := by
  subst hn
  refine (scan_any p l cap w (hT.below hw) hx hcap hcm hl).mono ?_
  rintro e w' ⟨⟨v, rfl, hr⟩, h⟩
  rw [hs] at hr ⊢
  exact ⟨⟨v, rfl, hr⟩, h, bt hw h⟩
theorem get_bad_at (p : Option Addr) (n : Nat) (l : List UInt8) (cap k : Nat) (w0 w : World) (hn : n = l.length) (hT : Tabs w0) (hw : Below w0.heap.size w0 w) (hx : (Part.mk p l cap).ok w) (hcap : l.length ≤ cap) (hcm : cap ≤ maxLen) (hl : l.length ≤ 100000) (hk : (C.fe l).2 = k) (h0 : k ≠ 0) :
    Calls Tryd.prog 10 #[.slice p n cap] w fun e w' => e = .returned (.tuple #[.slice none 0 0, .slice none 0 0, .int .i64 (k : Nat)]) ∧ Below w.heap.size w w' ∧ Below w0.heap.size w0 w' := by
  subst hn hk
  exact (get_bad p l cap w (hT.below hw) hx hcap hcm hl h0).mono fun e w' ⟨h1, h2⟩ => ⟨h1, h2, bt hw h2⟩
theorem wpList_append_n {w : World} {ops : Array Oper} {rest : List Oper} {o : Oper} {a : Act} {Q : Exit → Act → World → Prop} (hw : Region.wanted o (yielded ops a.tmps) = true) (s x : Operand)
    (ho : o.op = .call { callee := .builtin .append, args := #[s, x], argTypes := #[23, 23] })
    (base : Nat) (v : Value) (l : List UInt8) (hs : a.eval s = v) (hown : Own w base v l) (y : Part) (m : Nat) (hx : a.eval x = .slice y.p m y.cap) (hm : m = y.l.length) (hy : y.ok w) (hn : l.length + y.l.length ≤ 100000) (hB : base ≤ w.heap.size)
    (h : ∀ v' w', Own w' base v' (l ++ y.l) → w.grownBy w' v.ownBlock → wpList Tryd.prog ops Q rest (a.put o.dst v') w') : wpList Tryd.prog ops Q (o :: rest) a w := by
  subst hm
  exact wpList_append_part hw s x ho base v l hs hown y hx hy hn hB h
set_option maxHeartbeats 4000000 in
theorem torn_any (pa : Option Addr) (la : List UInt8) (ca : Nat) (m : Int) (wm : (Lit.int .i64 m).wf = true) (w : World) (hT : Tabs w) (ha : Arg w ⟨pa, la, ca⟩) :
    Calls Tryd.prog 6 #[.slice pa la.length ca, .int .i64 m] w fun e w' => e = .returned (.bool true) ∧ Below w.heap.size w w' := by
  have hla : la.length ≤ 9223372036854775807 := Nat.le_trans ha.1.1 (by decide)
  have hm0 : -9223372036854775808 ≤ m ∧ m ≤ 9223372036854775807 := by
    have h1 : IntKind.i64.min = -9223372036854775808 := rfl
    have h2 : IntKind.i64.max = 9223372036854775807 := rfl
    simp only [Lit.wf, Bool.and_eq_true, decide_eq_true_eq] at wm
    omega
  have HA : Hid (Part.ok w ⟨pa, la, ca⟩) := ha.1
  clear ha wm
  go_enter Tryd.func6, Tryd.ntmps6
  go_wp2_with fail
  refine (awake_any w hT).mono ?_
  rintro e w1 ⟨rfl, h1⟩
  have HA1 : Hid (Part.ok w1 ⟨pa, la, ca⟩) := Part.ok.below HA.out h1
  by_cases h3 : (200 : Int) < la.length
  · go_wp2
    go_ret
    exact ⟨rfl, h1⟩
  go_wp2_with fail
  refine (put_at (9 + la.length) none 0 [] 0 pa la.length la ca w w1 rfl rfl hT h1 (nil_ok _) HA1.out (by omega) (by decide) (by simp)).mono ?_
  rintro e w2 ⟨⟨p2, c2, rfl, hok2, hc2, hm2⟩, _, h2⟩
  have HOK : Hid (Part.ok w2 ⟨p2, C.fr la, c2⟩) := hok2
  have HM2 : Hid (c2 ≤ maxLen) := hm2
  have hm2' : c2 ≤ 9223372036854775807 := Nat.le_trans hm2 (by decide)
  clear hok2 hm2
  by_cases h4 : m < 0
  · go_wp2
    go_ret
    exact ⟨rfl, h2⟩
  obtain ⟨c, rfl⟩ := Int.eq_ofNat_of_zero_le (show 0 ≤ m by omega)
  by_cases h5 : (9 + (la.length : Int)) ≤ c
  · go_wp2
    go_ret
    exact ⟨rfl, h2⟩
  have hcl : c < 9 + la.length := by omega
  have HCL : Hid (((C.fr la).take c).length = c) := by show _ = _; rw [List.length_take, C.fr_length]; omega
  have HFE : Hid (C.fe ((C.fr la).take c) = (0, 8)) := C.fe_torn la c (by omega) (by rw [C.fr_length]; exact hcl)
  have HSC : Hid (C.scan ((C.fr la).take c) = ([], 0)) := C.scan_stop (by rw [HFE.out]; decide)
  have HOC : Hid (Part.ok w2 ⟨p2, (C.fr la).take c, c2⟩) := ⟨by show ((C.fr la).take c).length ≤ maxLen; rw [HCL.out]; unfold maxLen; omega, BAt.pre HOK.out.2 c⟩
  obtain ⟨b, o, rfl, _⟩ : ∃ b o, p2 = some ⟨b, o, none⟩ ∧ True := by
    obtain ⟨b, o, hp, _⟩ := HOK.out.2 (show 0 < (C.fr la).length by rw [C.fr_length]; omega)
    exact ⟨b, o, hp, trivial⟩
  go_wp2_with fail
  refine (get_bad_at _ c ((C.fr la).take c) _ 8 w w2 HCL.out.symm hT h2 HOC.out (by rw [HCL.out]; omega) HM2.out (by rw [HCL.out]; omega) (by rw [HFE.out]) (by decide)).mono ?_
  rintro e w3 ⟨rfl, h23, h3'⟩
  have HOC3 : Hid (Part.ok w3 ⟨some ⟨b, o, none⟩, (C.fr la).take c, c2⟩) := Part.ok.below HOC.out h23
  go_wp2_with fail
  refine (scan_at _ c ((C.fr la).take c) _ [] 0 w w3 HCL.out.symm hT h3' HOC3.out (by rw [HCL.out]; omega) HM2.out (by rw [HCL.out]; omega) HSC.out).mono ?_
  rintro e w4 ⟨⟨v, rfl, hr⟩, _, h4'⟩
  obtain ⟨q, qs, d, rfl, _, _, hq, _⟩ := hr
  obtain rfl : qs = [] := by simpa using hq
  clear hq
  by_cases hc0 : (c : Int) = 0
  · go_wp2
    go_ret
    exact ⟨rfl, h4'⟩
  · have hc1 : ((0 : Int) == (c : Int)) = false := by simp; omega
    go_wp2
    go_ret
    exact ⟨ret_bool (by rw [beq_eq_false_iff_ne.2 hc0]; rfl), h4'⟩
end Go.Proofs.YtjnlkgamnabhjaaDoor
