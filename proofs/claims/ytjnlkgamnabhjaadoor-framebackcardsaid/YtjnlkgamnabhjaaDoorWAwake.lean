/-
  The statements' own look at the document's example ('awake').
-/
import Derived.Test.YtjnlkgamnabhjaaDoorWSame
namespace Go.Proofs.YtjnlkgamnabhjaaDoor
open Go.RowKit Go.Lib
set_option linter.unusedVariables false

theorem C.rec_frame (r rest : List UInt8) (h : r.length ≤ 65536) : C.rec (C.fr r ++ rest) = r := by
  rw [C.rec, C.fe_frame r rest h, (C.fr_parts r rest).2.2]
  simp only
  rw [show 9 + r.length - 9 = r.length by omega, List.take_left]
theorem C.rest_frame (r rest : List UInt8) (h : r.length ≤ 65536) : C.rest (C.fr r ++ rest) = rest := by
  rw [C.rest, C.fe_frame r rest h]
  simp only
  rw [← C.fr_length r, List.drop_left]
theorem Own.full {w : World} {base : Nat} {v : Value} {l : List UInt8} (h : Own w base v l) : ∃ p cap, v = .slice p l.length cap ∧ Part.ok w ⟨p, l, cap⟩ ∧ l.length ≤ cap ∧ cap ≤ maxLen := by
  obtain ⟨p, cap, hv, hok⟩ := Own.part h
  refine ⟨p, cap, hv, hok, ?_⟩
  rcases h.2 with ⟨rfl, h0⟩ | ⟨g, cap', cur, rfl, hb, hg, hn, hm, _⟩
  · simp only [Value.slice.injEq] at hv
    obtain ⟨_, h1, rfl⟩ := hv
    exact ⟨by omega, Nat.zero_le _⟩
  · simp only [Value.slice.injEq] at hv
    obtain ⟨_, _, rfl⟩ := hv
    exact ⟨hn, hm⟩
def ab : List UInt8 := [97, 98]
theorem ab_new (w : World) (m : Nat × Nat) : Part.ok (w.alloc (.cells #[.int .u8 97, .int .u8 98] 5 m)) ⟨some ⟨w.heap.size, 0, none⟩, ab, 2⟩ := ⟨show 2 ≤ maxLen by decide, bat_new w ab 5 m⟩
theorem nil_ok (w : World) : Part.ok w ⟨none, [], 0⟩ := ok_nil _ _ _
theorem put_at (L : Nat) (pb : Option Addr) (nb : Nat) (lb : List UInt8) (cb : Nat) (pr : Option Addr) (nr : Nat) (lr : List UInt8) (cr : Nat) (w0 w : World) (hnb : nb = lb.length) (hnr : nr = lr.length) (hT : Tabs w0) (hw : Below w0.heap.size w0 w) (hb : (Part.mk pb lb cb).ok w) (hr : (Part.mk pr lr cr).ok w) (hlr : lr.length ≤ 65536) (hlb : lb.length ≤ 30000) (hL : lb.length + (9 + lr.length) = L) :
    Calls Tryd.prog 9 #[.slice pb nb cb, .slice pr nr cr] w fun e w' => (∃ p cap, e = .returned (.tuple #[.slice p L cap, .int .i64 0]) ∧ Part.ok w' ⟨p, lb ++ C.fr lr, cap⟩ ∧ L ≤ cap ∧ cap ≤ maxLen) ∧ Below w.heap.size w w' ∧ Below w0.heap.size w0 w' := by
  subst hnb hnr
  refine (put_any pb lb cb pr lr cr w (hT.below hw) hb hr hlr hlb).mono ?_
  rintro e w' ⟨⟨v, rfl, ho⟩, h⟩
  obtain ⟨p, cap, rfl, h1, h2, h3⟩ := Own.full ho
  have hl : (lb ++ C.fr lr).length = L := by rw [List.length_append, C.fr_length, hL]
  rw [hl] at h2
  exact ⟨⟨p, cap, by rw [hl], h1, h2, h3⟩, h, bt hw h⟩
/-- Get, where there is a frame. -/
theorem get_at (p : Option Addr) (n : Nat) (l : List UInt8) (cap : Nat) (r s : List UInt8) (w0 w : World) (hn : n = l.length) (hT : Tabs w0) (hw : Below w0.heap.size w0 w) (hx : (Part.mk p l cap).ok w) (hcap : l.length ≤ cap) (hcm : cap ≤ maxLen) (hl : l.length ≤ 100000) (hok : (C.fe l).2 = 0) (hr : C.rec l = r) (hs : C.rest l = s) :
    Calls Tryd.prog 10 #[.slice p n cap] w fun e w' => (∃ p1 c1 p2 c2, e = .returned (.tuple #[.slice p1 r.length c1, .slice p2 s.length c2, .int .i64 0]) ∧ Part.ok w' ⟨p1, r, c1⟩ ∧ Part.ok w' ⟨p2, s, c2⟩) ∧ Below w.heap.size w w' ∧ Below w0.heap.size w0 w' := by
  subst hn hr hs
  refine (get_ok p l cap w (hT.below hw) hx hcap hcm hl hok).mono ?_
  rintro e w' ⟨⟨v1, v2, rfl, ho1, ho2⟩, h⟩
  obtain ⟨p1, c1, rfl, h1⟩ := Own.part ho1
  obtain ⟨p2, c2, rfl, h2⟩ := Own.part ho2
  exact ⟨⟨p1, c1, p2, c2, rfl, h1, h2⟩, h, bt hw h⟩
set_option maxHeartbeats 4000000 in
theorem awake_any (w : World) (hT : Tabs w) : Calls Tryd.prog 8 #[] w fun e w' => e = .returned (.bool true) ∧ Below w.heap.size w w' := by
  have kc := fun (w : World) (C : Array Value) (n c : Nat) => Lib.run_convert_bytes_const (P := Tryd.prog) w 23 5 C n c Tryd.underlying23 Tryd.underlying5
  go_enter Tryd.func8, Tryd.ntmps8
  go_wp2_with fail
  refine (put_at 11 none 0 [] 0 _ 2 ab 2 w _ rfl rfl hT (below_new _ _) (nil_ok _) (ab_new _ _) (by decide) (by decide) rfl).mono ?_
  rintro e w1 ⟨⟨p1, c1, rfl, hok1, hc1, hm1⟩, _, h1⟩
  have HOK : Hid (Part.ok w1 ⟨p1, C.fr ab ++ [], c1⟩) := by rw [List.append_nil]; exact hok1
  have HL : Hid ((C.fr ab ++ []).length = 11) := by show _ = _; rw [List.append_nil, C.fr_length]; rfl
  have HC : Hid (11 ≤ c1) := hc1
  have HM : Hid (c1 ≤ maxLen) := hm1
  clear hok1 hc1 hm1
  go_wp2_with fail
  refine (get_at p1 11 (C.fr ab ++ []) c1 ab [] w w1 HL.out.symm hT h1 HOK.out (by rw [HL.out]; exact HC.out) HM.out (by rw [HL.out]; decide) (by rw [C.fe_frame ab [] (by decide)]) (C.rec_frame ab [] (by decide)) (C.rest_frame ab [] (by decide))).mono ?_
  rintro e w2 ⟨⟨q1, d1, q2, d2, rfl, ho1, ho2⟩, _, h2⟩
  have kr := conv_str ho1
  simp only [Part.v] at kr
  clear ho1 ho2
  go_wp2
  go_ret
  exact ⟨rfl, h2⟩
end Go.Proofs.YtjnlkgamnabhjaaDoor
