/-
  disk.Disk: Append.
-/
import Derived.Test.YtlfcpgncgldieaaWFind
import Derived.Deep.CutRange
import Derived.Deep.QuietTactic
import Derived.BigQuiet
namespace Go.Proofs.Ytlfcpgncgldieaa
open Go.RowKit Go.Lib Go.Maps
open C (upd upd_same upd_other)
set_option linter.unusedVariables false

theorem Part.ok.same {w w' : World} {x : Part} (h : x.ok w) (hs : ∀ (b : Nat) (cs : Array Value) (t : TypeId) (m : Nat × Nat), w.heap[b]? = some (Obj.cells cs t m) → w'.heap[b]? = w.heap[b]?) : x.ok w' := by
  refine ⟨h.1, fun hl => ?_⟩
  obtain ⟨b, o, hp, hc⟩ := h.2 hl
  refine ⟨b, o, hp, fun i hi => ?_⟩
  have h1 := hc i hi
  rw [← h1]
  have : ∃ cs t m, w.heap[b]? = some (Obj.cells cs t m) := by
    unfold World.cell? at h1
    cases hh : w.heap[b]? with
    | none => rw [hh] at h1; simp at h1
    | some ob =>
      rw [hh] at h1
      cases ob <;> simp at h1
      exact ⟨_, _, _, rfl⟩
  obtain ⟨cs, t, m, hh⟩ := this
  exact World.cell?_of_block (hs b cs t m hh)
theorem own_of_row {w : World} {v : Value} {a b : List UInt8} (h : w.ownsRow 0 5 1 v (a.length + b.length) (bytesV a ++ bytesV b)) : Own w 0 v (a ++ b) := by
  unfold Own; rw [List.length_append, ← bytesV_append]; exact h
theorem ownW_of_row {w : World} {v : Value} {a b : List C.Wr} (h : w.ownsRow 0 60 3 v (a.length + b.length) (rowW a ++ rowW b)) : OwnW w v (a ++ b) := by
  unfold OwnW; rw [List.length_append, ← rowW_append]; exact h
theorem OwnW.shape {w : World} {v : Value} {l : List C.Wr} (h : OwnW w v l) : ∃ p c, v = .slice p l.length c := by
  rcases h.2 with ⟨rfl, h0⟩ | ⟨g, cap, cur, rfl, _⟩
  · exact ⟨none, 0, by rw [h0]⟩
  · exact ⟨_, cap, rfl⟩
def appE (s : C.St) (f : Int) (l : List UInt8) : Int := if refE s f = 0 then (if s.room < C.used s.ws + l.length then 6 else 0) else refE s f
set_option maxHeartbeats 1000000 in
theorem append_bad (w : World) (g : Nat) (S : Nat → Prop) (s : C.St) (f : Int) (p : Option Addr) (l : List UInt8) (cap : Nat) (h : Disk w g S s) (hl : l.length ≤ 100000000) (h0 : appE s f l ≠ 0) :
    Calls Try.prog 10 #[.pointer (some ⟨g, 0, none⟩), .int .i64 f, .slice p l.length cap] w fun e w' => e = .returned (.int .i64 (appE s f l)) ∧ ∃ n, w' = w.drewN n := by
  by_cases hr : refE s f = 0
  · have h1 : s.room < C.used s.ws + l.length := by
      unfold appE at h0; rw [if_pos hr] at h0
      by_cases h1 : s.room < C.used s.ws + l.length
      · exact h1
      · rw [if_neg h1] at h0; exact absurd rfl h0
    have e1 : appE s f l = 6 := by unfold appE; rw [if_pos hr, if_pos h1]
    rw [e1]
    have HC : Hid _ := refusal_at w g S s f 0 h hr
    obtain ⟨mb, hb⟩ := h.blk
    have hok := h.ok
    have c0 := blk_cell hb 0
    have c1 := blk_cell hb 1
    simp only [List.getElem?_toArray, List.getElem?_cons_succ, List.getElem?_cons_zero] at c0 c1
    have hu := hok.used
    have hm := hok.room
    generalize C.used s.ws = u at *
    generalize s.room = r at *
    clear hb h h0 e1 hr hok
    have hd : (r : Int) - (u : Int) < (l.length : Int) := by omega
    go_enter Try.func10, Try.ntmps10
    go_wp2_with fail
    refine Calls.mono HC.out ?_
    rintro e w1 ⟨rfl, hw⟩
    subst w1
    go_wp2
    go_quiet (fail)
    go_wp2
    go_ret
    exact ⟨rfl, _, rfl⟩
  · have e1 : appE s f l = refE s f := by unfold appE; rw [if_neg hr]
    rw [e1]
    have HC : Hid _ := refusal_at w g S s f (refE s f) h rfl
    generalize refE s f = r at *
    clear h h0 e1
    go_enter Try.func10, Try.ntmps10
    go_wp2_with fail
    refine Calls.mono HC.out ?_
    rintro e w1 ⟨rfl, hw⟩
    subst w1
    go_wp2
    go_ret
    exact ⟨rfl, 0, rfl⟩
theorem grown_cells {w w' : World} {b n : Nat} {m : Int → Option Nat} (hm : IMap w b n m) (hg : w.grownBy w' (some b)) : ∀ (x : Nat) (cs : Array Value) (t : TypeId) (q : Nat × Nat), w.heap[x]? = some (Obj.cells cs t q) → w'.heap[x]? = w.heap[x]? := fun x cs t q hx =>
  hg.block x (Array.getElem?_eq_some_iff.1 hx).1 (fun e => by cases e; obtain ⟨es, cl, h2⟩ := hm.isMap; rw [hx] at h2; simp at h2)
theorem no_writes {s : C.St} (hok : s.Ok) {f : Nat} (hf : s.is f = false) : C.saf s.ws f = 0 ∧ C.dat s.ws f = [] ∧ C.pof s.ws f = [] := by
  have h : ∀ x ∈ s.ws, x.file ≠ f := fun x hx e => by have := hok.has x hx; rw [e, hf] at this; cases this
  revert h
  generalize s.ws = ws
  intro h
  induction ws with
  | nil => exact ⟨rfl, rfl, rfl⟩
  | cons x r ih =>
    obtain ⟨h1, h2, h3⟩ := ih (fun y hy => h y (by simp [hy]))
    have hx := h x (by simp)
    refine ⟨by simp [C.saf, hx, h1], by simp [C.dat, hx, h2], ?_⟩
    have : C.pof (x :: r) f = C.pof r f := by simp [C.pof, hx]
    rw [this, h3]
/-- Where the file is there. -/
def Mid (w : World) (g : Nat) (S : Nat → Prop) (s : C.St) (f : Nat) (cb : Nat) (da : Nat → List UInt8) (pn : Nat → List C.Wr) (wc : World) : Prop :=
  ∃ L, L.g = g ∧ L.is = (fun k => s.is k || k == f) ∧ L.c f = cb ∧ DMem wc L (s.made + 1) (headOf s) (C.saf s.ws) da pn ∧ (∀ b, L.foot b → S b ∨ w.heap.size ≤ b) ∧ Turn w wc S
theorem mid_old {w : World} {L : Lay} {S : Nat → Prop} {s : C.St} {f : Nat} (his : L.is = s.is) (M : DMem w L s.made (headOf s) (C.saf s.ws) (C.dat s.ws) (C.pof s.ws)) (hF : ∀ b, L.foot b → S b) (hf : s.is f = true) {n : Nat} : Mid w L.g S s f (L.c f) (C.dat s.ws) (C.pof s.ws) (w.drewN n) := by
  refine ⟨L, rfl, ?_, rfl, ?_, fun b hb => Or.inl (hF b hb), ?_⟩
  · rw [his]; funext k
    by_cases e : k = f
    · subst e; simp [hf]
    · have : (k == f) = false := by simpa using e
      simp [this]
  · have M' : DMem (w.drewN n) L s.made (headOf s) (C.saf s.ws) (C.dat s.ws) (C.pof s.ws) := M.same fun _ _ => rfl
    exact ⟨M'.blk, M'.map.mono (by omega), M'.cont, M'.dat, M'.wr, M'.cinj, M'.dinj, M'.winj⟩
  · exact ⟨rfl, rfl, rfl, Nat.le_refl _, fun _ _ _ => rfl⟩
theorem mid_new {w wc : World} {L : Lay} {S : Nat → Prop} {s : C.St} {f : Nat} (his : L.is = s.is) (M : DMem w L s.made (headOf s) (C.saf s.ws) (C.dat s.ws) (C.pof s.ws)) (hF : ∀ b, L.foot b → S b) (hok : s.Ok) (hf : s.is f = false)
    {w1 : World} (h1 : Below w.heap.size w w1) (hc : w1.heap[w.heap.size]? = some (.cells #[.slice none 0 0, .int .i64 0, .slice none 0 0] 58)) (hm : IMap wc L.mb (s.made + 1) (mput L.at (f : Int) (some w.heap.size))) (hg : w1.grownBy wc (some L.mb)) :
    Mid w L.g S s f w.heap.size (C.dat s.ws) (C.pof s.ws) wc := by
  obtain ⟨n1, n2, n3⟩ := no_writes hok hf
  have hlt := M.map.lt
  have hs : ∀ b, L.foot b → b ≠ L.mb → wc.heap[b]? = w.heap[b]? := fun b hb hne => by
    have := M.foot_lt hb
    rw [hg.block b (Nat.lt_of_lt_of_le this h1.size) (fun e => hne (by cases e; rfl)), h1.block b this]
  have hc' : wc.heap[w.heap.size]? = some (.cells #[.slice none 0 0, .int .i64 (0 : Nat), .slice none 0 0] 58) := by
    rw [hg.block w.heap.size (Array.getElem?_eq_some_iff.1 hc).1 (fun e => by have := Option.some.inj e; omega)]; exact hc
  have M' := M.more (k := f) (cb := w.heap.size) (by rw [his]; exact hf) (Nat.le_refl _) hs hc' hm
  refine ⟨L.more f w.heap.size, rfl, ?_, by simp [Lay.more, upd_same], ?_, ?_, ?_⟩
  · show (fun j => L.is j || j == f) = _
    rw [his]
  · refine M'.congr (fun k _ => ?_) (fun k _ => ?_) (fun k _ => ?_)
    all_goals
      by_cases e : k = f
      · subst e; rw [upd_same]; first | rw [n1] | rw [n2] | rw [n3]
      · rw [upd_other _ _ e]
  · intro b hb
    rcases Lay.more_foot (N := w.heap.size) (Nat.le_refl _) b hb with h | h
    · exact Or.inl (hF b h)
    · exact Or.inr h
  · refine Turn.trans (T := fun b => b = L.mb) (Turn.of_below h1) (Turn.of_grown hg (fun b e => by cases e; rfl)) (fun x hx => Or.inl ?_)
    subst hx; exact hF _ (Or.inr (Or.inl rfl))
end Go.Proofs.Ytlfcpgncgldieaa
