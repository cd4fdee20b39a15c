/-
  Several texts in one: WBase, WFind, WAppend.
-/
import Derived.Test.YtnhplbdbgiimkaaGreatDoorZ7
import Derived.Deep.CutRange
import Derived.Deep.QuietTactic
import Derived.BigQuiet
namespace Go.Proofs.YtnhplbdbgiimkaaGreatDoor
open Go.RowKit Go.Lib Go.Maps
open C (upd upd_same upd_other)
set_option linter.unusedVariables false

theorem u_map : Tryz.prog.underlying 53 = some (.map 3 84) := Tryz.underlying53
theorem z_ptr (w : World) : (zeroValue 84).run Tryz.prog w = .ok (.pointer none) w := by kernel_rfl
theorem blk_cell {w : World} {g : Nat} {cs : Array Value} {t : TypeId} {m : Nat × Nat} (h : w.heap[g]? = some (.cells cs t m)) (o : Nat) : w.cell? ⟨g, o, none⟩ = cs[o]? := by
  simp [World.cell?, h]
theorem blk_free {w : World} {g : Nat} {cs : Array Value} {t : TypeId} (h : w.heap[g]? = some (.cells cs t)) (o : Nat) : w.frozen? ⟨g, o, none⟩ = false := by
  simp [World.frozen?, h]
theorem wf_small {k : Int} (h0 : 0 ≤ k) (h1 : k ≤ 1000000000) : (Lit.int .i64 k).wf = true := by
  have h1 : IntKind.i64.min = -9223372036854775808 := rfl
  have h2 : IntKind.i64.max = 9223372036854775807 := rfl
  simp only [Lit.wf, Bool.and_eq_true, decide_eq_true_eq]
  omega
set_option maxHeartbeats 1000000 in
theorem new_bad (room : Int) (w : World) (h : room < 64 ∨ 1048576 < room) :
    Calls Tryz.prog 10 #[.int .i64 room] w fun e w' => e = .returned (.tuple #[.pointer none, .int .i64 1]) ∧ w' = w := by
  by_cases h1 : room < 64
  · go_enter Tryz.func10, Tryz.ntmps10
    go_wp2
    go_ret2
    exact ⟨rfl, rfl⟩
  · have h2 : 1048576 < room := by omega
    clear h
    go_enter Tryz.func10, Tryz.ntmps10
    go_wp2
    go_ret2
    exact ⟨rfl, rfl⟩
/-- A new disk's blocks: two. -/
theorem disk_new (w : World) (room : Nat) (h : 64 ≤ room ∧ room ≤ 1048576) : Disk ((w.alloc (.map #[] 0)).alloc (.cells #[.int .i64 (room : Nat), .int .i64 0, .map (some w.heap.size), .int .i64 0, .bool true, .int .i64 1] 55)) (w.heap.size + 1) (fun b => b = w.heap.size ∨ b = w.heap.size + 1) (C.newS room) := by
  refine ⟨⟨w.heap.size + 1, w.heap.size, fun _ => false, fun _ => 0, fun _ => .slice none 0 0, fun _ => .slice none 0 0⟩, rfl, rfl, ?_, ?_, ?_, C.newS_ok h⟩
  · refine ⟨?_, ?_, fun k hk => (by cases hk), fun k hk => (by cases hk), fun k hk => (by cases hk), fun k j hk => (by cases hk), fun k j b hk => (by cases hk), fun k j b hk => (by cases hk)⟩
    · have := heap_alloc_new (w.alloc (.map #[] 0)) (.cells #[.int .i64 (room : Nat), .int .i64 0, .map (some w.heap.size), .int .i64 0, .bool true, .int .i64 1] 55)
      simp only [World.size_alloc] at this
      exact this
    · refine IMap.congr (m := fun _ => none) (IMap.same (IMap.made w) ?_) (fun x => by simp [Lay.at])
      exact Below.heap_alloc _ _ _ (by simp)
  · intro b hb
    rcases hb with rfl | rfl | ⟨k, hk, _⟩
    · exact Or.inr rfl
    · exact Or.inl rfl
    · cases hk
  · intro b hb
    simp only [World.size_alloc]
    omega
set_option maxHeartbeats 1000000 in
theorem new_any (room : Nat) (w : World) (h : 64 ≤ room ∧ room ≤ 1048576) :
    Calls Tryz.prog 10 #[.int .i64 (room : Nat)] w fun e w' => (∃ g, e = .returned (.tuple #[.pointer (some ⟨g, 0, none⟩), .int .i64 0]) ∧ ∃ S, Disk w' g S (C.newS room) ∧ ∀ b, S b → w.heap.size ≤ b) ∧ Below w.heap.size w w' := by
  have H := disk_new w room h
  have HD : Hid _ := H
  clear H
  have hmm := @run_makeMap Tryz.prog
  go_enter Tryz.func10, Tryz.ntmps10
  go_wp2
  go_ret2
  exact ⟨⟨w.heap.size + 1, rfl, _, HD.out, fun b hb => by omega⟩, ((Below.refl _ _).alloc (Nat.le_refl _) _).alloc (by simp) _⟩
theorem Disk.blk {w : World} {g : Nat} {S : Nat → Prop} {s : C.St} (h : Disk w g S s) : ∃ mb, w.heap[g]? = some (.cells #[.int .i64 (s.room : Nat), .int .i64 (C.used s.ws : Nat), .map (some mb), .int .i64 (s.made : Nat), .bool (!s.off), .int .i64 (s.lives : Nat)] 55) := by
  obtain ⟨L, rfl, _, M, _⟩ := h
  exact ⟨L.mb, M.blk⟩
theorem Disk.ok {w : World} {g : Nat} {S : Nat → Prop} {s : C.St} (h : Disk w g S s) : s.Ok := by obtain ⟨L, _, _, _, _, _, h⟩ := h; exact h
theorem Disk.mem {w : World} {g : Nat} {S : Nat → Prop} {s : C.St} (h : Disk w g S s) : S g := by obtain ⟨L, rfl, _, _, h, _⟩ := h; exact h _ (Or.inl rfl)
theorem Disk.lt {w : World} {g : Nat} {S : Nat → Prop} {s : C.St} (h : Disk w g S s) {b : Nat} (hb : S b) : b < w.heap.size := by obtain ⟨L, _, _, _, _, h, _⟩ := h; exact h b hb
set_option maxHeartbeats 1000000 in
theorem power_any (w : World) (g : Nat) (S : Nat → Prop) (s : C.St) (h : Disk w g S s) :
    Calls Tryz.prog 25 #[.pointer (some ⟨g, 0, none⟩)] w fun e w' => e = .returned (.bool (!s.off)) ∧ w' = w := by
  obtain ⟨mb, hb⟩ := h.blk
  have c4 := blk_cell hb 4
  simp only [List.getElem?_toArray, List.getElem?_cons_succ, List.getElem?_cons_zero] at c4
  clear hb h
  generalize (!s.off) = p at *
  go_enter Tryz.func25, Tryz.ntmps25
  go_wp2
  go_ret
  exact ⟨rfl, rfl⟩
set_option maxHeartbeats 1000000 in
theorem lives_any (w : World) (g : Nat) (S : Nat → Prop) (s : C.St) (h : Disk w g S s) :
    Calls Tryz.prog 28 #[.pointer (some ⟨g, 0, none⟩)] w fun e w' => e = .returned (.int .i64 (s.lives : Nat)) ∧ w' = w := by
  obtain ⟨mb, hb⟩ := h.blk
  have c5 := blk_cell hb 5
  simp only [List.getElem?_toArray, List.getElem?_cons_succ, List.getElem?_cons_zero] at c5
  clear hb h
  generalize s.lives = p at *
  go_enter Tryz.func28, Tryz.ntmps28
  go_wp2
  go_ret
  exact ⟨rfl, rfl⟩
theorem Disk.set {w w' : World} {g : Nat} {S : Nat → Prop} {s s' : C.St} (h : Disk w g S s) (hw : s'.ws = s.ws) (hi : s'.is = s.is) (hm : s'.made = s.made) (ho : s'.Ok)
    (hb : ∀ mb, w.heap[g]? = some (.cells ((headOf s).cells mb) 55) → w'.heap[g]? = some (.cells ((headOf s').cells mb) 55)) (ht : w.grownBy w' (some g)) : Disk w' g S s' := by
  obtain ⟨L, rfl, h2, M, h4, h5, h6⟩ := h
  refine ⟨L, rfl, h2.trans hi.symm, ?_, h4, fun b hb => Nat.lt_of_lt_of_le (h5 b hb) ht.size, ho⟩
  rw [hw, hm]
  exact M.head _ (hb _ M.blk) fun b hf hne => ht.block b (M.foot_lt hf) (fun e => hne (by cases e; rfl))
set_option maxHeartbeats 1000000 in
theorem on_any (w : World) (g : Nat) (S : Nat → Prop) (s : C.St) (h : Disk w g S s) (hl : s.lives ≤ 1000000) :
    Calls Tryz.prog 17 #[.pointer (some ⟨g, 0, none⟩)] w fun e w' => e = .returned (.tuple #[]) ∧ Disk w' g S (C.onS s) ∧ Turn w w' S := by
  have HD : Hid (Disk w g S s) := h
  obtain ⟨mb, hb⟩ := h.blk
  have c4 := blk_cell hb 4
  have c5 := blk_cell hb 5
  have f4 := blk_free hb 4
  have f5 := blk_free hb 5
  simp only [List.getElem?_toArray, List.getElem?_cons_succ, List.getElem?_cons_zero] at c4 c5
  clear hb h
  go_enter Tryz.func17, Tryz.ntmps17
  go_wp2
  go_end0
  have hg := (set_grown w g 4 (.bool true)).trans (set_grown _ g 5 (.int .i64 ((s.lives : Nat) + 1)))
  refine ⟨rfl, ?_, Turn.of_grown hg (fun b e => by cases e; exact Disk.mem HD.out)⟩
  refine Disk.set HD.out rfl rfl rfl (C.onS_ok (Disk.ok HD.out)) (fun mb hb => ?_) hg
  rw [set_block (set_block hb)]
  simp [Head.cells, headOf, C.onS]
def refE (s : C.St) (f : Int) : Int := if s.off = true then 7 else if f < 0 ∨ 999 < f then 1 else 0
set_option maxHeartbeats 1000000 in
theorem refusal_any (w : World) (g : Nat) (S : Nat → Prop) (s : C.St) (f : Int) (h : Disk w g S s) :
    Calls Tryz.prog 59 #[.pointer (some ⟨g, 0, none⟩), .int .i64 f] w fun e w' => e = .returned (.int .i64 (refE s f)) ∧ w' = w := by
  obtain ⟨mb, hb⟩ := h.blk
  have c4 := blk_cell hb 4
  simp only [List.getElem?_toArray, List.getElem?_cons_succ, List.getElem?_cons_zero] at c4
  clear hb h
  unfold refE
  cases ho : s.off with
  | true =>
    rw [ho] at c4
    simp only [Bool.not_true] at c4
    rw [if_pos rfl]
    go_enter Tryz.func59, Tryz.ntmps59
    go_wp2
    go_ret
    exact ⟨rfl, rfl⟩
  | false =>
    rw [ho] at c4
    simp only [Bool.not_false] at c4
    rw [if_neg (by simp)]
    by_cases h1 : f < 0
    · rw [if_pos (Or.inl h1)]
      go_enter Tryz.func59, Tryz.ntmps59
      go_wp2
      go_ret
      exact ⟨rfl, rfl⟩
    by_cases h2 : 999 < f
    · rw [if_pos (Or.inr h2)]
      go_enter Tryz.func59, Tryz.ntmps59
      go_wp2
      go_ret
      exact ⟨rfl, rfl⟩
    · rw [if_neg (by omega)]
      go_enter Tryz.func59, Tryz.ntmps59
      go_wp2
      go_ret
      exact ⟨rfl, rfl⟩
end Go.Proofs.YtnhplbdbgiimkaaGreatDoor

namespace Go.Proofs.YtnhplbdbgiimkaaGreatDoor
open Go.RowKit Go.Lib Go.Maps
open C (upd upd_same upd_other)
set_option linter.unusedVariables false

theorem refusal_at (w : World) (g : Nat) (S : Nat → Prop) (s : C.St) (f r : Int) (h : Disk w g S s) (hr : refE s f = r) :
    Calls Tryz.prog 59 #[.pointer (some ⟨g, 0, none⟩), .int .i64 f] w fun e w' => e = .returned (.int .i64 r) ∧ w' = w := by
  subst hr; exact refusal_any w g S s f h
theorem refE_zero {s : C.St} {f : Int} (h : refE s f = 0) : s.off = false ∧ 0 ≤ f ∧ f ≤ 999 := by
  unfold refE at h
  split at h
  · cases h
  · split at h
    · cases h
    · rename_i h1 h2
      exact ⟨by simpa using h1, by omega, by omega⟩
theorem refE_small (s : C.St) (f : Int) : 0 ≤ refE s f ∧ refE s f ≤ 7 := by unfold refE; split; omega; split <;> omega
set_option maxHeartbeats 1000000 in
theorem find_bad (w : World) (g : Nat) (S : Nat → Prop) (s : C.St) (f r : Int) (h : Disk w g S s) (hr : refE s f = r) (h0 : r ≠ 0) :
    Calls Tryz.prog 45 #[.pointer (some ⟨g, 0, none⟩), .int .i64 f] w fun e w' => e = .returned (.tuple #[.pointer none, .int .i64 r]) ∧ w' = w := by
  have HC : Hid _ := refusal_at w g S s f r h hr
  clear h hr
  go_enter Tryz.func45, Tryz.ntmps45
  go_wp2_with fail
  refine Calls.mono HC.out ?_
  rintro e w1 ⟨rfl, hw⟩
  subst w1
  go_wp2
  go_ret2
  exact ⟨rfl, rfl⟩
theorem Lay.at_some {L : Lay} {f : Int} (h0 : 0 ≤ f) (h : L.is f.toNat = true) : L.at f = some (L.c f.toNat) := if_pos ⟨h0, h⟩
theorem Lay.at_none {L : Lay} {f : Int} (h : L.is f.toNat = false) : L.at f = none := if_neg (fun h' => by rw [h] at h'; cases h'.2)
set_option maxHeartbeats 1000000 in
theorem find_none (w : World) (g : Nat) (S : Nat → Prop) (s : C.St) (f : Int) (h : Disk w g S s) (hr : refE s f = 0) (hf : s.is f.toNat = false) :
    Calls Tryz.prog 45 #[.pointer (some ⟨g, 0, none⟩), .int .i64 f] w fun e w' => e = .returned (.tuple #[.pointer none, .int .i64 4]) ∧ w' = w := by
  have HC : Hid _ := refusal_at w g S s f 0 h hr
  have h0 := refE_zero hr
  obtain ⟨L, rfl, his, M, _⟩ := h
  have hl := M.map.look u_map (z_ptr w) f (wf_small h0.2.1 (by omega))
  rw [Lay.at_none (by rw [his]; exact hf)] at hl
  have c2 := blk_cell M.blk 2
  simp only [Head.cells, List.getElem?_toArray, List.getElem?_cons_succ, List.getElem?_cons_zero] at c2
  simp only [ptrV] at hl
  generalize L.mb = mb at *
  generalize L.g = g at *
  clear M hr his h0 hf
  go_enter Tryz.func45, Tryz.ntmps45
  go_wp2_with fail
  refine Calls.mono HC.out ?_
  rintro e w1 ⟨rfl, hw⟩
  subst w1
  go_wp2
  go_ret2
  exact ⟨rfl, rfl⟩
set_option maxHeartbeats 1000000 in
theorem find_ok (w : World) (L : Lay) (S : Nat → Prop) (s : C.St) (f : Nat) (his : L.is = s.is) (M : DMem w L s.made (headOf s) (C.saf s.ws) (C.dat s.ws) (C.pof s.ws)) (hF : ∀ b, L.foot b → S b) (hS : ∀ b, S b → b < w.heap.size) (hok : s.Ok) (hr : refE s f = 0) (hf : s.is f = true) :
    Calls Tryz.prog 45 #[.pointer (some ⟨L.g, 0, none⟩), .int .i64 (f : Nat)] w fun e w' => e = .returned (.tuple #[.pointer (some ⟨L.c f, 0, none⟩), .int .i64 0]) ∧ w' = w := by
  have HC : Hid _ := refusal_at w L.g S s f 0 ⟨L, rfl, his, M, hF, hS, hok⟩ hr
  have h0 := refE_zero hr
  have hl := M.map.look u_map (z_ptr w) (f : Int) (wf_small h0.2.1 (by omega))
  rw [Lay.at_some h0.2.1 (by rw [his]; simpa using hf)] at hl
  have c2 := blk_cell M.blk 2
  simp only [Head.cells, List.getElem?_toArray, List.getElem?_cons_succ, List.getElem?_cons_zero] at c2
  simp only [ptrV, Int.toNat_natCast] at hl
  generalize L.mb = mb at *
  generalize L.c f = c at *
  generalize L.g = g at *
  clear M hr his h0 hf hF hS hok
  go_enter Tryz.func45, Tryz.ntmps45
  go_wp2_with fail
  refine Calls.mono HC.out ?_
  rintro e w1 ⟨rfl, hw⟩
  subst w1
  go_wp2
  go_ret2
  exact ⟨rfl, rfl⟩
/-- What Read tells. -/
def readE (s : C.St) (f : Int) : Int := if refE s f = 0 then (if s.is f.toNat = true then 0 else 4) else refE s f
def readB (s : C.St) (f : Int) : List UInt8 := if readE s f = 0 then C.dat s.ws f.toNat else []
set_option maxHeartbeats 1000000 in
theorem read_any (w : World) (g : Nat) (S : Nat → Prop) (s : C.St) (f : Int) (h : Disk w g S s) :
    Calls Tryz.prog 23 #[.pointer (some ⟨g, 0, none⟩), .int .i64 f] w fun e w' => (∃ v, e = .returned (.tuple #[v, .int .i64 (readE s f)]) ∧ Own w' w.heap.size v (readB s f)) ∧ Below w.heap.size w w' := by
  by_cases hr : refE s f = 0
  · cases hf : s.is f.toNat with
    | false =>
      have HC : Hid _ := find_none w g S s f h hr hf
      have e1 : readE s f = 4 := by unfold readE; rw [if_pos hr, hf]; rfl
      have e2 : readB s f = [] := by unfold readB; rw [e1]; rfl
      rw [e1, e2]
      clear h hr hf e1 e2
      go_enter Tryz.func23, Tryz.ntmps23
      go_wp2_with fail
      refine Calls.mono HC.out ?_
      rintro e w1 ⟨rfl, hw⟩
      subst w1
      go_wp2
      go_ret2
      exact ⟨⟨_, rfl, Own.nil _ _⟩, Below.refl _ _⟩
    | true =>
      have e1 : readE s f = 0 := by unfold readE; rw [if_pos hr, hf]; rfl
      have e2 : readB s f = C.dat s.ws f.toNat := by unfold readB; rw [e1]; rfl
      rw [e1, e2]
      have h0 := refE_zero hr
      obtain ⟨k, rfl⟩ : ∃ k : Nat, f = (k : Int) := ⟨f.toNat, by omega⟩
      simp only [Int.toNat_natCast] at hf
      rw [Int.toNat_natCast]
      obtain ⟨L, rfl, his, M, hF, hS, hok⟩ := h
      have HC : Hid _ := find_ok w L S s k his M hF hS hok hr hf
      have hk : L.is k = true := by rw [his]; exact hf
      have c0 := blk_cell (M.cont k hk) 0
      simp only [List.getElem?_toArray, List.getElem?_cons_zero] at c0
      obtain ⟨p, c, hv, hpo⟩ := Own.part (M.dat k hk)
      rw [hv] at c0
      have hlen : (C.dat s.ws k).length ≤ 100000000 := by have := C.dat_le s.ws k; have := hok.used; have := hok.room; omega
      have HK : Hid _ := clone_any p (C.dat s.ws k) c w hpo hlen
      generalize C.dat s.ws k = l at *
      generalize L.c k = cb at *
      generalize L.g = g at *
      clear M hF hS hok hr hf h0 his hk e1 e2 hpo hv hlen
      go_enter Tryz.func23, Tryz.ntmps23
      go_wp2_with fail
      refine Calls.mono HC.out ?_
      rintro e w1 ⟨rfl, hw⟩
      subst w1
      go_wp2_with fail
      refine Calls.mono HK.out ?_
      rintro e w1 ⟨⟨v, rfl, ho⟩, hb⟩
      go_wp2
      go_ret2
      exact ⟨⟨_, rfl, ho⟩, hb⟩
  · have e1 : readE s f = refE s f := by unfold readE; rw [if_neg hr]
    have e2 : readB s f = [] := by unfold readB; rw [e1, if_neg hr]
    rw [e1, e2]
    have HC : Hid _ := find_bad w g S s f (refE s f) h rfl hr
    generalize refE s f = r at *
    clear h e1 e2
    go_enter Tryz.func23, Tryz.ntmps23
    go_wp2_with fail
    refine Calls.mono HC.out ?_
    rintro e w1 ⟨rfl, hw⟩
    subst w1
    go_wp2
    go_ret2
    exact ⟨⟨_, rfl, Own.nil _ _⟩, Below.refl _ _⟩
end Go.Proofs.YtnhplbdbgiimkaaGreatDoor

namespace Go.Proofs.YtnhplbdbgiimkaaGreatDoor
open Go.RowKit Go.Lib Go.Maps
open C (upd upd_same upd_other)
set_option linter.unusedVariables false

theorem Part.ok.same {w w' : World} {x : Part} (h : x.ok w) (hs : ∀ (b : Nat) (cs : Array Value) (t : TypeId) (m : Nat × Nat), w.heap[b]? = some (Obj.cells cs t m) → w'.heap[b]? = w.heap[b]?) : x.ok w' := by
  refine ⟨h.1, fun hl => ?_⟩
  obtain ⟨b, o, hp, hc⟩ := h.2 hl
  refine ⟨b, o, hp, fun i hi => ?_⟩
  have h1 := hc i hi
  rw [← h1]
  have : ∃ cs t m, w.heap[b]? = some (Obj.cells cs t m) := by
    unfold World.cell? at h1
    cases hh : w.heap[b]? with
    | none => rw [hh] at h1; simp at h1
    | some ob =>
      rw [hh] at h1
      cases ob <;> simp at h1
      exact ⟨_, _, _, rfl⟩
  obtain ⟨cs, t, m, hh⟩ := this
  exact World.cell?_of_block (hs b cs t m hh)
theorem own_of_row {w : World} {v : Value} {a b : List UInt8} (h : w.ownsRow 0 5 1 v (a.length + b.length) (bytesV a ++ bytesV b)) : Own w 0 v (a ++ b) := by
  unfold Own; rw [List.length_append, ← bytesV_append]; exact h
theorem ownW_of_row {w : World} {v : Value} {a b : List C.Wr} (h : w.ownsRow 0 81 3 v (a.length + b.length) (rowW a ++ rowW b)) : OwnW w v (a ++ b) := by
  unfold OwnW; rw [List.length_append, ← rowW_append]; exact h
theorem OwnW.shape {w : World} {v : Value} {l : List C.Wr} (h : OwnW w v l) : ∃ p c, v = .slice p l.length c := by
  rcases h.2 with ⟨rfl, h0⟩ | ⟨g, cap, cur, rfl, _⟩
  · exact ⟨none, 0, by rw [h0]⟩
  · exact ⟨_, cap, rfl⟩
def appE (s : C.St) (f : Int) (l : List UInt8) : Int := if refE s f = 0 then (if s.room < C.used s.ws + l.length then 6 else 0) else refE s f
set_option maxHeartbeats 1000000 in
theorem append_bad (w : World) (g : Nat) (S : Nat → Prop) (s : C.St) (f : Int) (p : Option Addr) (l : List UInt8) (cap : Nat) (h : Disk w g S s) (hl : l.length ≤ 100000000) (h0 : appE s f l ≠ 0) :
    Calls Tryz.prog 39 #[.pointer (some ⟨g, 0, none⟩), .int .i64 f, .slice p l.length cap] w fun e w' => e = .returned (.int .i64 (appE s f l)) ∧ ∃ n, w' = w.drewN n := by
  by_cases hr : refE s f = 0
  · have h1 : s.room < C.used s.ws + l.length := by
      unfold appE at h0; rw [if_pos hr] at h0
      by_cases h1 : s.room < C.used s.ws + l.length
      · exact h1
      · rw [if_neg h1] at h0; exact absurd rfl h0
    have e1 : appE s f l = 6 := by unfold appE; rw [if_pos hr, if_pos h1]
    rw [e1]
    have HC : Hid _ := refusal_at w g S s f 0 h hr
    obtain ⟨mb, hb⟩ := h.blk
    have hok := h.ok
    have c0 := blk_cell hb 0
    have c1 := blk_cell hb 1
    simp only [List.getElem?_toArray, List.getElem?_cons_succ, List.getElem?_cons_zero] at c0 c1
    have hu := hok.used
    have hm := hok.room
    generalize C.used s.ws = u at *
    generalize s.room = r at *
    clear hb h h0 e1 hr hok
    have hd : (r : Int) - (u : Int) < (l.length : Int) := by omega
    go_enter Tryz.func39, Tryz.ntmps39
    go_wp2_with fail
    refine Calls.mono HC.out ?_
    rintro e w1 ⟨rfl, hw⟩
    subst w1
    go_wp2
    go_quiet (fail)
    go_wp2
    go_ret
    exact ⟨rfl, _, rfl⟩
  · have e1 : appE s f l = refE s f := by unfold appE; rw [if_neg hr]
    rw [e1]
    have HC : Hid _ := refusal_at w g S s f (refE s f) h rfl
    generalize refE s f = r at *
    clear h h0 e1
    go_enter Tryz.func39, Tryz.ntmps39
    go_wp2_with fail
    refine Calls.mono HC.out ?_
    rintro e w1 ⟨rfl, hw⟩
    subst w1
    go_wp2
    go_ret
    exact ⟨rfl, 0, rfl⟩
theorem grown_cells {w w' : World} {b n : Nat} {m : Int → Option Nat} (hm : IMap w b n m) (hg : w.grownBy w' (some b)) : ∀ (x : Nat) (cs : Array Value) (t : TypeId) (q : Nat × Nat), w.heap[x]? = some (Obj.cells cs t q) → w'.heap[x]? = w.heap[x]? := fun x cs t q hx =>
  hg.block x (Array.getElem?_eq_some_iff.1 hx).1 (fun e => by cases e; obtain ⟨es, cl, h2⟩ := hm.isMap; rw [hx] at h2; simp at h2)
theorem no_writes {s : C.St} (hok : s.Ok) {f : Nat} (hf : s.is f = false) : C.saf s.ws f = 0 ∧ C.dat s.ws f = [] ∧ C.pof s.ws f = [] := by
  have h : ∀ x ∈ s.ws, x.file ≠ f := fun x hx e => by have := hok.has x hx; rw [e, hf] at this; cases this
  revert h
  generalize s.ws = ws
  intro h
  induction ws with
  | nil => exact ⟨rfl, rfl, rfl⟩
  | cons x r ih =>
    obtain ⟨h1, h2, h3⟩ := ih (fun y hy => h y (by simp [hy]))
    have hx := h x (by simp)
    refine ⟨by simp [C.saf, hx, h1], by simp [C.dat, hx, h2], ?_⟩
    have : C.pof (x :: r) f = C.pof r f := by simp [C.pof, hx]
    rw [this, h3]
/-- Where the file is there. -/
def Mid (w : World) (g : Nat) (S : Nat → Prop) (s : C.St) (f : Nat) (cb : Nat) (da : Nat → List UInt8) (pn : Nat → List C.Wr) (wc : World) : Prop :=
  ∃ L, L.g = g ∧ L.is = (fun k => s.is k || k == f) ∧ L.c f = cb ∧ DMem wc L (s.made + 1) (headOf s) (C.saf s.ws) da pn ∧ (∀ b, L.foot b → S b ∨ w.heap.size ≤ b) ∧ Turn w wc S
theorem mid_old {w : World} {L : Lay} {S : Nat → Prop} {s : C.St} {f : Nat} (his : L.is = s.is) (M : DMem w L s.made (headOf s) (C.saf s.ws) (C.dat s.ws) (C.pof s.ws)) (hF : ∀ b, L.foot b → S b) (hf : s.is f = true) {n : Nat} : Mid w L.g S s f (L.c f) (C.dat s.ws) (C.pof s.ws) (w.drewN n) := by
  refine ⟨L, rfl, ?_, rfl, ?_, fun b hb => Or.inl (hF b hb), ?_⟩
  · rw [his]; funext k
    by_cases e : k = f
    · subst e; simp [hf]
    · have : (k == f) = false := by simpa using e
      simp [this]
  · have M' : DMem (w.drewN n) L s.made (headOf s) (C.saf s.ws) (C.dat s.ws) (C.pof s.ws) := M.same fun _ _ => rfl
    exact ⟨M'.blk, M'.map.mono (by omega), M'.cont, M'.dat, M'.wr, M'.cinj, M'.dinj, M'.winj⟩
  · exact ⟨rfl, rfl, rfl, Nat.le_refl _, fun _ _ _ => rfl⟩
theorem mid_new {w wc : World} {L : Lay} {S : Nat → Prop} {s : C.St} {f : Nat} (his : L.is = s.is) (M : DMem w L s.made (headOf s) (C.saf s.ws) (C.dat s.ws) (C.pof s.ws)) (hF : ∀ b, L.foot b → S b) (hok : s.Ok) (hf : s.is f = false)
    {w1 : World} (h1 : Below w.heap.size w w1) (hc : w1.heap[w.heap.size]? = some (.cells #[.slice none 0 0, .int .i64 0, .slice none 0 0] 83)) (hm : IMap wc L.mb (s.made + 1) (mput L.at (f : Int) (some w.heap.size))) (hg : w1.grownBy wc (some L.mb)) :
    Mid w L.g S s f w.heap.size (C.dat s.ws) (C.pof s.ws) wc := by
  obtain ⟨n1, n2, n3⟩ := no_writes hok hf
  have hlt := M.map.lt
  have hs : ∀ b, L.foot b → b ≠ L.mb → wc.heap[b]? = w.heap[b]? := fun b hb hne => by
    have := M.foot_lt hb
    rw [hg.block b (Nat.lt_of_lt_of_le this h1.size) (fun e => hne (by cases e; rfl)), h1.block b this]
  have hc' : wc.heap[w.heap.size]? = some (.cells #[.slice none 0 0, .int .i64 (0 : Nat), .slice none 0 0] 83) := by
    rw [hg.block w.heap.size (Array.getElem?_eq_some_iff.1 hc).1 (fun e => by have := Option.some.inj e; omega)]; exact hc
  have M' := M.more (k := f) (cb := w.heap.size) (by rw [his]; exact hf) (Nat.le_refl _) hs hc' hm
  refine ⟨L.more f w.heap.size, rfl, ?_, by simp [Lay.more, upd_same], ?_, ?_, ?_⟩
  · show (fun j => L.is j || j == f) = _
    rw [his]
  · refine M'.congr (fun k _ => ?_) (fun k _ => ?_) (fun k _ => ?_)
    all_goals
      by_cases e : k = f
      · subst e; rw [upd_same]; first | rw [n1] | rw [n2] | rw [n3]
      · rw [upd_other _ _ e]
  · intro b hb
    rcases Lay.more_foot (N := w.heap.size) (Nat.le_refl _) b hb with h | h
    · exact Or.inl (hF b h)
    · exact Or.inr h
  · refine Turn.trans (T := fun b => b = L.mb) (Turn.of_below h1) (Turn.of_grown hg (fun b e => by cases e; rfl)) (fun x hx => Or.inl ?_)
    subst hx; exact hF _ (Or.inr (Or.inl rfl))
end Go.Proofs.YtnhplbdbgiimkaaGreatDoor
