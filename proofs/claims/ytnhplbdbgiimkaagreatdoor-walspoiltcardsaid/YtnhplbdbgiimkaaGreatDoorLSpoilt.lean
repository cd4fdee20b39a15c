/-
  A safe byte spoilt: its file's piece is bad; Open tells it.
-/
import Derived.Test.YtnhplbdbgiimkaaGreatDoorZ26
namespace Go.Proofs.YtnhplbdbgiimkaaGreatDoor
open Go.RowKit Go.Lib
set_option linter.unusedVariables false

namespace C
theorem piecesG_clean (a : Nat) : ∀ (G : List Gr) (q : Nat), Clean G → ∀ p ∈ piecesG a q G, p.tl = []
  | [], _, _, p, hp => by cases hp
  | g :: G, q, h, p, hp => by
    rw [piecesG] at hp
    rcases List.mem_cons.1 hp with rfl | hp
    · show g.cs.flatMap Ch.tl = []
      exact List.flatMap_eq_nil_iff.2 fun x hx => h x (by rw [flat_cons]; exact List.mem_append_left _ hx)
    · exact piecesG_clean a G _ (fun x hx => h x (by rw [flat_cons]; exact List.mem_append_right _ hx)) p hp
/-- A row of entries with a byte spoilt: whole ones, then a bad one. -/
theorem ents_spoilt (a : Nat) (v : UInt8) (ha : a < 4294967296) (hv : v ≠ 0) : ∀ (rs : List (List UInt8)) (q i : Nat), q + rs.length ≤ 4294967296 → (∀ r ∈ rs, r.length ≤ 65536) → i < (ents a q rs).length →
    ∃ R t, (ents a q rs).set i ((ents a q rs).getD i 0 ^^^ v) = ents a q R ++ t ∧ rdE t = badR ∧ q + R.length ≤ 4294967296 ∧ ∀ r ∈ R, r.length ≤ 65536
  | [], q, i, _, _, hi => by simp [ents] at hi
  | r :: rs, q, i, hq, hr, hi => by
    have hq' : q + 1 + rs.length ≤ 4294967296 := by rw [List.length_cons] at hq; omega
    rw [ents] at hi ⊢
    rcases Nat.lt_or_ge i (ent a q r).length with h | h
    · refine ⟨[], _, ?_, rdE_spoilt a q r (ents a (q + 1) rs) i v ha (by omega) (hr r (List.mem_cons_self ..)) h hv, by simp; omega, fun x hx => by cases hx⟩
      have e0 : (ent a q r ++ ents a (q + 1) rs).getD i 0 = (ent a q r).getD i 0 := by
        simp only [List.getD]; rw [List.getElem?_append_left h]
      rw [e0, List.set_append_left _ _ h]
      rfl
    · obtain ⟨R, t, e1, e2, e3, e4⟩ := ents_spoilt a v ha hv rs (q + 1) (i - (ent a q r).length) hq' (fun x hx => hr x (List.mem_cons_of_mem _ hx)) (by rw [List.length_append] at hi; omega)
      refine ⟨r :: R, t, ?_, e2, by rw [List.length_cons]; omega, fun x hx => ?_⟩
      · have e0 : (ent a q r ++ ents a (q + 1) rs).getD i 0 = (ents a (q + 1) rs).getD (i - (ent a q r).length) 0 := by
          simp only [List.getD]; rw [List.getElem?_append_right h]
        rw [e0, List.set_append_right _ _ h, e1, ents, List.append_assoc]
      · rcases List.mem_cons.1 hx with rfl | hx
        · exact hr _ (List.mem_cons_self ..)
        · exact e4 x hx
theorem LogW.spoilt {s : St} {a : Nat} {G : List Gr} (h : LogW s a G) (hcl : Clean G) {f i : Nat} {v : UInt8} (hf : s.is f = true) (h1000 : f < 1000) (hi : i < (dat s.ws f).length) (hv : v ≠ 0) :
    ∃ pc : Nat → Pc, PcsOk (spoS s f i v) pc ∧ ∃ k ∈ fs (spoS s f i v), rdE (pc k).tl = badR := by
  obtain ⟨p, hp, h1, h2, h3, h4, h5⟩ := h.pieces hf
  have htl := piecesG_clean a G _ hcl p hp
  have hb : p.bytes = ents p.age p.first p.recs := by unfold Pc.bytes; rw [htl, List.append_nil]
  rw [h3, hb] at hi
  obtain ⟨R, t, e1, e2, e3, e4⟩ := ents_spoilt p.age v h4.age hv p.recs p.first i h4.first h4.recs hi
  refine ⟨fun k => if k = f then ⟨f, p.age, p.first, R, t⟩ else pcG a G k, fun k hk his => ?_, f, List.mem_filter.2 ⟨List.mem_range.2 h1000, hf⟩, by dsimp only; rw [if_pos rfl]; exact e2⟩
  by_cases hkf : k = f
  · subst hkf
    dsimp only
    rw [if_pos rfl]
    refine ⟨?_, ⟨h4.age, e3, e4, Or.inr e2⟩, rfl⟩
    show dat (spoL s.ws k i v) k = _
    rw [spo_dat_same k v s.ws i (by rw [h3, hb]; exact hi), h3, hb, e1]
    rfl
  · dsimp only
    rw [if_neg hkf]
    obtain ⟨p', _, g2, g3, g4, g5, _⟩ := h.pieces (k := k) his
    rw [g3]
    refine ⟨?_, g5, g2⟩
    show dat (spoL s.ws f i v) k = _
    rw [spo_dat_other hkf v s.ws i]
    exact g4
end C
set_option maxRecDepth 100000 in
set_option maxHeartbeats 4000000 in
theorem open_form (w : World) (d : Nat) (S : Nat → Prop) (s : C.St) (part : Nat) (pc : Nat → C.Pc) (hd : Disk w d S s) (hT : Tabs w) (hm : s.made ≤ 1000000) (hp : 1 ≤ part ∧ part ≤ 1000) (hoff : s.off = false) (hpc : PcsOk s pc) (hbad : ∃ k ∈ C.fs s, C.rdE (pc k).tl = C.badR) : Calls Tryz.prog 11 #[.pointer (some ⟨d, 0, none⟩), .int .i64 (part : Nat)] w fun e w' => e = .returned (.tuple #[.pointer none, .int .i64 3]) ∧ Below w.heap.size w w' := by
  have HPW : Hid _ := power_any w d S s hd
  have hoffn : (!s.off) = true := by rw [hoff]; rfl
  rw [hoffn] at HPW
  have HPC : Hid (Calls Tryz.prog 26 #[.pointer (some ⟨d, 0, none⟩)] w fun e w' => e = .returned (.tuple #[.slice none 0 0, .int .i64 3]) ∧ Below w.heap.size w w') := (pieces_any w d S s pc hd hT hm hoff hpc).mono fun e w' ⟨h, hb⟩ => ⟨by
    rcases h with ⟨h1, _⟩ | ⟨_, h2⟩
    · obtain ⟨k, hk, hbk⟩ := hbad
      have := h1 k hk
      rw [hbk] at this
      exact absurd this fun e => C.bad_gap e
    · exact h2, hb⟩
  have hp1 : decide (((part : Nat) : Int) < 1) = false := decide_eq_false (by omega)
  have hp2 : decide ((1000 : Int) < (part : Nat)) = false := decide_eq_false (by omega)
  clear hd hT hm hoff hpc hbad hoffn
  go_enter Tryz.func11, Tryz.ntmps11
  go_wp2_with fail
  refine Calls.mono HPW.out ?_
  rintro e w1 ⟨rfl, hw⟩
  rw [hw]
  clear hw HPW w1
  go_wp2_with fail
  refine Calls.mono HPC.out ?_
  rintro e w1 ⟨rfl, hb1⟩
  clear HPC
  go_wp2
  go_ret2
  exact ⟨rfl, hb1⟩
end Go.Proofs.YtnhplbdbgiimkaaGreatDoor
