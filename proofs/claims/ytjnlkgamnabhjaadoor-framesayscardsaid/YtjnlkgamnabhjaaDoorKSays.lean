/-
  FrameSays: any record framed, any bytes looked through, are as the document says.
-/
import Derived.Test.YtjnlkgamnabhjaaDoorKRest
namespace Go.Proofs.YtjnlkgamnabhjaaDoor
open Go.RowKit Go.Lib
set_option linter.unusedVariables false

theorem rframe_at (L : Nat) (pb : Option Addr) (lb : List UInt8) (cb : Nat) (pr : Option Addr) (lr : List UInt8) (cr : Nat) (w0 w : World) (hw : Below w0.heap.size w0 w) (hb : (Part.mk pb lb cb).ok w) (hr : (Part.mk pr lr cr).ok w) (hlr : lr.length ≤ 30000) (hlb : lb.length ≤ 30000) (hL : lb.length + (9 + lr.length) = L) :
    Calls Tryd.prog 12 #[.slice pb lb.length cb, .slice pr lr.length cr] w fun e w' => (∃ p cap, e = .returned (.tuple #[.slice p L cap, .bool true]) ∧ Part.ok w' ⟨p, lb ++ C.fr lr, cap⟩) ∧ Below w.heap.size w w' ∧ Below w0.heap.size w0 w' := by
  refine (rframe_any pb lb cb pr lr cr w hb hr hlr hlb).mono ?_
  rintro e w' ⟨⟨v, rfl, ho⟩, h⟩
  obtain ⟨p, cap, rfl, h1, h2, h3⟩ := Own.full ho
  have hl : (lb ++ C.fr lr).length = L := by rw [List.length_append, C.fr_length, hL]
  exact ⟨⟨p, cap, by rw [hl], h1⟩, h, bt hw h⟩
theorem rscan_at (p : Option Addr) (l : List UInt8) (cap : Nat) (R : List (List UInt8)) (m n : Nat) (w0 w : World) (hn : n = l.length) (hw : Below w0.heap.size w0 w) (hx : Arg w ⟨p, l, cap⟩) (hl : l.length ≤ 100000) (hs : C.scan l = (R, m)) :
    Calls Tryd.prog 14 #[.slice p n cap] w fun e w' => (∃ v, e = .returned (.tuple #[v, .int .i64 (m : Nat), .bool ((m : Int) == (n : Int))]) ∧ Rows w' v R) ∧ Below w.heap.size w w' ∧ Below w0.heap.size w0 w' := by
  subst hn
  refine (rscan_any p l cap w hx.1 hx.2.1 hx.2.2 hl).mono ?_
  rintro e w' ⟨⟨v, rfl, hr⟩, h⟩
  rw [hs] at hr ⊢
  exact ⟨⟨v, rfl, hr⟩, h, bt hw h⟩
theorem same_at (va vb : Value) (A B : List (List UInt8)) (w0 w : World) (hw : Below w0.heap.size w0 w) (hA : Rows w va A) (hB : Rows w vb B) (h : A = B) :
    Calls Tryd.prog 15 #[va, vb] w fun e w' => e = .returned (.bool true) ∧ Below w0.heap.size w0 w' :=
  (same_any va vb A B w hA hB).mono fun e w' ⟨h1, h2⟩ => ⟨by rw [h1, decide_eq_true h], bt hw h2⟩
/-- Get and the document's own Get, where there is a frame or none. -/
theorem gets (p : Option Addr) (l : List UInt8) (cap : Nat) (w0 w : World) (hT : Tabs w0) (hw : Below w0.heap.size w0 w) (hx : Arg w ⟨p, l, cap⟩) (hl : l.length ≤ 100000) :
    ∃ (r s : List UInt8) (k : Nat), Calls Tryd.prog 10 #[.slice p l.length cap] w (fun e w' => (∃ p1 c1 p2 c2, e = .returned (.tuple #[.slice p1 r.length c1, .slice p2 s.length c2, .int .i64 (k : Nat)]) ∧ Part.ok w' ⟨p1, r, c1⟩ ∧ Part.ok w' ⟨p2, s, c2⟩) ∧ Below w.heap.size w w' ∧ Below w0.heap.size w0 w') ∧
      ∀ w2, Below w0.heap.size w0 w2 → Arg w2 ⟨p, l, cap⟩ → Calls Tryd.prog 13 #[.slice p l.length cap] w2 (fun e w' => (∃ p1 c1 p2 c2, e = .returned (.tuple #[.slice p1 r.length c1, .slice p2 s.length c2, .int .i64 (k : Nat)]) ∧ Part.ok w' ⟨p1, r, c1⟩ ∧ Part.ok w' ⟨p2, s, c2⟩) ∧ Below w2.heap.size w2 w' ∧ Below w0.heap.size w0 w') := by
  by_cases h : (C.fe l).2 = 0
  · refine ⟨C.rec l, C.rest l, 0, get_at p _ l cap _ _ w0 w rfl hT hw hx.1 hx.2.1 hx.2.2 hl h rfl rfl, fun w2 hw2 hx2 => ?_⟩
    refine (rget_any p l cap w2 hx2.1 hx2.2.1 hx2.2.2 hl).mono ?_
    rintro e w' ⟨⟨h', _⟩ | ⟨_, p1, c1, p2, c2, rfl, hh⟩, h2⟩
    · exact absurd h h'
    · have h3 := hh w2 hx2.1.2
      have hr : (C.rec l).length ≤ maxLen := by
        rw [C.rec, List.length_take, List.length_drop]; unfold maxLen; omega
      have hs : (C.rest l).length ≤ maxLen := by
        rw [C.rest, List.length_drop]; unfold maxLen; omega
      exact ⟨⟨p1, c1, p2, c2, rfl, ⟨hr, h3.1.below h2⟩, ⟨hs, h3.2.below h2⟩⟩, h2, bt hw2 h2⟩
  · refine ⟨[], [], (C.fe l).2, ?_, fun w2 hw2 hx2 => ?_⟩
    · refine (get_bad_at p _ l cap _ w0 w rfl hT hw hx.1 hx.2.1 hx.2.2 hl rfl h).mono ?_
      rintro e w' ⟨rfl, h1, h2⟩
      exact ⟨⟨none, 0, none, 0, rfl, nil_ok _, nil_ok _⟩, h1, h2⟩
    · refine (rget_any p l cap w2 hx2.1 hx2.2.1 hx2.2.2 hl).mono ?_
      rintro e w' ⟨⟨_, rfl⟩ | ⟨h', _⟩, h2⟩
      · exact ⟨⟨none, 0, none, 0, rfl, nil_ok _, nil_ok _⟩, h2, bt hw2 h2⟩
      · exact absurd h' h
set_option maxHeartbeats 4000000 in
theorem says_any (pb : Option Addr) (lb : List UInt8) (cb : Nat) (pa : Option Addr) (la : List UInt8) (ca : Nat) (w : World) (hT : Tabs w) (hb : Arg w ⟨pb, lb, cb⟩) (ha : Arg w ⟨pa, la, ca⟩) :
    Calls Tryd.prog 4 #[.slice pb lb.length cb, .slice pa la.length ca] w fun e w' => e = .returned (.bool true) ∧ Below w.heap.size w w' := by
  have hla : la.length ≤ 9223372036854775807 := Nat.le_trans ha.1.1 (by decide)
  have hlb : lb.length ≤ 9223372036854775807 := Nat.le_trans hb.1.1 (by decide)
  have HA : Hid (Arg w ⟨pa, la, ca⟩) := ha
  have HB : Hid (Arg w ⟨pb, lb, cb⟩) := hb
  clear ha hb
  go_enter Tryd.func4, Tryd.ntmps4
  go_wp2_with fail
  refine (awake_any w hT).mono ?_
  rintro e w1 ⟨rfl, h1⟩
  by_cases h3 : (400 : Int) < lb.length
  · go_wp2
    go_ret
    exact ⟨rfl, h1⟩
  by_cases h4 : (200 : Int) < la.length
  · go_wp2
    go_ret
    exact ⟨rfl, h1⟩
  go_wp2_with fail
  refine (put_at (lb.length + (9 + la.length)) pb lb.length lb cb pa la.length la ca w w1 rfl rfl hT h1 (HB.out.below h1).1 (HA.out.below h1).1 (by omega) (by omega) rfl).mono ?_
  rintro e w2 ⟨⟨p2, c2, rfl, hok2, _, _⟩, _, h2⟩
  have HO2 : Hid (Part.ok w2 ⟨p2, lb ++ C.fr la, c2⟩) := hok2
  clear hok2
  go_wp2_with fail
  refine (rframe_at (lb.length + (9 + la.length)) pb lb cb pa la ca w w2 h2 (HB.out.below h2).1 (HA.out.below h2).1 (by omega) (by omega) rfl).mono ?_
  rintro e w3 ⟨⟨p3, c3, rfl, hok3⟩, h23, h3'⟩
  have HO3 : Hid (Part.ok w3 ⟨p3, lb ++ C.fr la, c3⟩) := hok3
  have HO2' : Hid (Part.ok w3 ⟨p2, lb ++ C.fr la, c2⟩) := HO2.out.below h23
  clear hok3 HO2 h23
  obtain ⟨r, s, k, hg, hrg⟩ := gets pb lb cb w w3 hT h3' (HB.out.below h3') (by omega)
  go_wp2_with fail
  refine Calls.mono hg ?_
  rintro e w4 ⟨⟨q1, d1, q2, d2, rfl, ho1, ho2⟩, h34, h4'⟩
  have hrg4 := hrg w4 h4' (HB.out.below h4')
  clear hg hrg
  go_wp2_with fail
  refine Calls.mono hrg4 ?_
  rintro e w5 ⟨⟨q3, d3, q4, d4, rfl, ho3, ho4⟩, h45, h5⟩
  have HQ1 : Hid (Part.ok w5 ⟨q1, r, d1⟩) := ho1.below h45
  have HQ2 : Hid (Part.ok w5 ⟨q2, s, d2⟩) := ho2.below h45
  have HQ3 : Hid (Part.ok w5 ⟨q3, r, d3⟩) := ho3
  have HQ4 : Hid (Part.ok w5 ⟨q4, s, d4⟩) := ho4
  have HP2 : Hid (Part.ok w5 ⟨p2, lb ++ C.fr la, c2⟩) := HO2'.out.below (bt h34 h45)
  have HP3 : Hid (Part.ok w5 ⟨p3, lb ++ C.fr la, c3⟩) := HO3.out.below (bt h34 h45)
  clear hrg4 ho1 ho2 ho3 ho4 h34 h45 HO2' HO3
  obtain ⟨R, m, hRm⟩ : ∃ R m, C.scan lb = (R, m) := ⟨_, _, rfl⟩
  have HRM : Hid (C.scan lb = (R, m)) := hRm
  have hml : m ≤ lb.length := by
    have := (C.scan_le lb).1
    rw [hRm] at this; exact this
  clear hRm
  go_wp2_with fail
  refine (scan_at pb _ lb cb R m w w5 rfl hT h5 (HB.out.below h5).1 HB.out.2.1 HB.out.2.2 (by omega) HRM.out).mono ?_
  rintro e w6 ⟨⟨v6, rfl, hr6⟩, h56, h6⟩
  have HR6 : Hid (Rows w6 v6 R) := hr6
  clear hr6
  go_wp2_with fail
  refine (rscan_at pb lb cb R m _ w w6 rfl h6 (HB.out.below h6) (by omega) HRM.out).mono ?_
  rintro e w7 ⟨⟨v7, rfl, hr7⟩, h67, h7⟩
  have HR7 : Hid (Rows w7 v7 R) := hr7
  have HR67 : Hid (Rows w7 v6 R) := HR6.out.below h67
  have h57 := bt h56 h67
  have HL : Hid ((lb ++ C.fr la).length = lb.length + (9 + la.length)) := by show _ = _; rw [List.length_append, C.fr_length]
  have k1 := conv_at (n := lb.length + (9 + la.length)) (HP2.out.below h57) HL.out.symm
  have k2 := conv_at (n := lb.length + (9 + la.length)) (HP3.out.below h57) HL.out.symm
  have k3 := conv_at (HQ1.out.below h57) rfl
  have k4 := conv_at (HQ2.out.below h57) rfl
  have k5 := conv_at (HQ3.out.below h57) rfl
  have k6 := conv_at (HQ4.out.below h57) rfl
  clear hr7 h56 h67 h57 HR6 HQ1 HQ2 HQ3 HQ4 HP2 HP3
  go_wp2_with fail
  refine (same_at v6 v7 R R w w7 h7 HR67.out HR7.out rfl).mono ?_
  rintro e w8 ⟨rfl, h8⟩
  go_wp2
  go_ret
  exact ⟨rfl, h8⟩
end Go.Proofs.YtjnlkgamnabhjaaDoor
