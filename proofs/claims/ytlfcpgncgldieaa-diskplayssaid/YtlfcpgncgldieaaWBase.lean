/-
  disk.Disk: New, On, Power, Lives, refusal, find, Read.
-/
import Derived.Test.YtlfcpgncgldieaaWMem
namespace Go.Proofs.Ytlfcpgncgldieaa
open Go.RowKit Go.Lib Go.Maps
open C (upd upd_same upd_other)
set_option linter.unusedVariables false

theorem u_map : Try.prog.underlying 52 = some (.map 3 55) := Try.underlying52
theorem z_ptr (w : World) : (zeroValue 55).run Try.prog w = .ok (.pointer none) w := by kernel_rfl
theorem blk_cell {w : World} {g : Nat} {cs : Array Value} {t : TypeId} {m : Nat × Nat} (h : w.heap[g]? = some (.cells cs t m)) (o : Nat) : w.cell? ⟨g, o, none⟩ = cs[o]? := by
  simp [World.cell?, h]
theorem blk_free {w : World} {g : Nat} {cs : Array Value} {t : TypeId} (h : w.heap[g]? = some (.cells cs t)) (o : Nat) : w.frozen? ⟨g, o, none⟩ = false := by
  simp [World.frozen?, h]
theorem wf_small {k : Int} (h0 : 0 ≤ k) (h1 : k ≤ 1000000000) : (Lit.int .i64 k).wf = true := by
  have h1 : IntKind.i64.min = -9223372036854775808 := rfl
  have h2 : IntKind.i64.max = 9223372036854775807 := rfl
  simp only [Lit.wf, Bool.and_eq_true, decide_eq_true_eq]
  omega
set_option maxHeartbeats 1000000 in
theorem new_bad (room : Int) (w : World) (h : room < 64 ∨ 1048576 < room) :
    Calls Try.prog 9 #[.int .i64 room] w fun e w' => e = .returned (.tuple #[.pointer none, .int .i64 1]) ∧ w' = w := by
  by_cases h1 : room < 64
  · go_enter Try.func9, Try.ntmps9
    go_wp2
    go_ret2
    exact ⟨rfl, rfl⟩
  · have h2 : 1048576 < room := by omega
    clear h
    go_enter Try.func9, Try.ntmps9
    go_wp2
    go_ret2
    exact ⟨rfl, rfl⟩
/-- A new disk's blocks: two. -/
theorem disk_new (w : World) (room : Nat) (h : 64 ≤ room ∧ room ≤ 1048576) : Disk ((w.alloc (.map #[] 0)).alloc (.cells #[.int .i64 (room : Nat), .int .i64 0, .map (some w.heap.size), .int .i64 0, .bool true, .int .i64 1] 54)) (w.heap.size + 1) (fun b => b = w.heap.size ∨ b = w.heap.size + 1) (C.newS room) := by
  refine ⟨⟨w.heap.size + 1, w.heap.size, fun _ => false, fun _ => 0, fun _ => .slice none 0 0, fun _ => .slice none 0 0⟩, rfl, rfl, ?_, ?_, ?_, C.newS_ok h⟩
  · refine ⟨?_, ?_, fun k hk => (by cases hk), fun k hk => (by cases hk), fun k hk => (by cases hk), fun k j hk => (by cases hk), fun k j b hk => (by cases hk), fun k j b hk => (by cases hk)⟩
    · have := heap_alloc_new (w.alloc (.map #[] 0)) (.cells #[.int .i64 (room : Nat), .int .i64 0, .map (some w.heap.size), .int .i64 0, .bool true, .int .i64 1] 54)
      simp only [World.size_alloc] at this
      exact this
    · refine IMap.congr (m := fun _ => none) (IMap.same (IMap.made w) ?_) (fun x => by simp [Lay.at])
      exact Below.heap_alloc _ _ _ (by simp)
  · intro b hb
    rcases hb with rfl | rfl | ⟨k, hk, _⟩
    · exact Or.inr rfl
    · exact Or.inl rfl
    · cases hk
  · intro b hb
    simp only [World.size_alloc]
    omega
set_option maxHeartbeats 1000000 in
theorem new_any (room : Nat) (w : World) (h : 64 ≤ room ∧ room ≤ 1048576) :
    Calls Try.prog 9 #[.int .i64 (room : Nat)] w fun e w' => (∃ g, e = .returned (.tuple #[.pointer (some ⟨g, 0, none⟩), .int .i64 0]) ∧ ∃ S, Disk w' g S (C.newS room) ∧ ∀ b, S b → w.heap.size ≤ b) ∧ Below w.heap.size w w' := by
  have H := disk_new w room h
  have HD : Hid _ := H
  clear H
  have hmm := @run_makeMap Try.prog
  go_enter Try.func9, Try.ntmps9
  go_wp2
  go_ret2
  exact ⟨⟨w.heap.size + 1, rfl, _, HD.out, fun b hb => by omega⟩, ((Below.refl _ _).alloc (Nat.le_refl _) _).alloc (by simp) _⟩
theorem Disk.blk {w : World} {g : Nat} {S : Nat → Prop} {s : C.St} (h : Disk w g S s) : ∃ mb, w.heap[g]? = some (.cells #[.int .i64 (s.room : Nat), .int .i64 (C.used s.ws : Nat), .map (some mb), .int .i64 (s.made : Nat), .bool (!s.off), .int .i64 (s.lives : Nat)] 54) := by
  obtain ⟨L, rfl, _, M, _⟩ := h
  exact ⟨L.mb, M.blk⟩
theorem Disk.ok {w : World} {g : Nat} {S : Nat → Prop} {s : C.St} (h : Disk w g S s) : s.Ok := by obtain ⟨L, _, _, _, _, _, h⟩ := h; exact h
theorem Disk.mem {w : World} {g : Nat} {S : Nat → Prop} {s : C.St} (h : Disk w g S s) : S g := by obtain ⟨L, rfl, _, _, h, _⟩ := h; exact h _ (Or.inl rfl)
theorem Disk.lt {w : World} {g : Nat} {S : Nat → Prop} {s : C.St} (h : Disk w g S s) {b : Nat} (hb : S b) : b < w.heap.size := by obtain ⟨L, _, _, _, _, h, _⟩ := h; exact h b hb
set_option maxHeartbeats 1000000 in
theorem power_any (w : World) (g : Nat) (S : Nat → Prop) (s : C.St) (h : Disk w g S s) :
    Calls Try.prog 27 #[.pointer (some ⟨g, 0, none⟩)] w fun e w' => e = .returned (.bool (!s.off)) ∧ w' = w := by
  obtain ⟨mb, hb⟩ := h.blk
  have c4 := blk_cell hb 4
  simp only [List.getElem?_toArray, List.getElem?_cons_succ, List.getElem?_cons_zero] at c4
  clear hb h
  generalize (!s.off) = p at *
  go_enter Try.func27, Try.ntmps27
  go_wp2
  go_ret
  exact ⟨rfl, rfl⟩
set_option maxHeartbeats 1000000 in
theorem lives_any (w : World) (g : Nat) (S : Nat → Prop) (s : C.St) (h : Disk w g S s) :
    Calls Try.prog 28 #[.pointer (some ⟨g, 0, none⟩)] w fun e w' => e = .returned (.int .i64 (s.lives : Nat)) ∧ w' = w := by
  obtain ⟨mb, hb⟩ := h.blk
  have c5 := blk_cell hb 5
  simp only [List.getElem?_toArray, List.getElem?_cons_succ, List.getElem?_cons_zero] at c5
  clear hb h
  generalize s.lives = p at *
  go_enter Try.func28, Try.ntmps28
  go_wp2
  go_ret
  exact ⟨rfl, rfl⟩
theorem Disk.set {w w' : World} {g : Nat} {S : Nat → Prop} {s s' : C.St} (h : Disk w g S s) (hw : s'.ws = s.ws) (hi : s'.is = s.is) (hm : s'.made = s.made) (ho : s'.Ok)
    (hb : ∀ mb, w.heap[g]? = some (.cells ((headOf s).cells mb) 54) → w'.heap[g]? = some (.cells ((headOf s').cells mb) 54)) (ht : w.grownBy w' (some g)) : Disk w' g S s' := by
  obtain ⟨L, rfl, h2, M, h4, h5, h6⟩ := h
  refine ⟨L, rfl, h2.trans hi.symm, ?_, h4, fun b hb => Nat.lt_of_lt_of_le (h5 b hb) ht.size, ho⟩
  rw [hw, hm]
  exact M.head _ (hb _ M.blk) fun b hf hne => ht.block b (M.foot_lt hf) (fun e => hne (by cases e; rfl))
set_option maxHeartbeats 1000000 in
theorem on_any (w : World) (g : Nat) (S : Nat → Prop) (s : C.St) (h : Disk w g S s) (hl : s.lives ≤ 1000000) :
    Calls Try.prog 16 #[.pointer (some ⟨g, 0, none⟩)] w fun e w' => e = .returned (.tuple #[]) ∧ Disk w' g S (C.onS s) ∧ Turn w w' S := by
  have HD : Hid (Disk w g S s) := h
  obtain ⟨mb, hb⟩ := h.blk
  have c4 := blk_cell hb 4
  have c5 := blk_cell hb 5
  have f4 := blk_free hb 4
  have f5 := blk_free hb 5
  simp only [List.getElem?_toArray, List.getElem?_cons_succ, List.getElem?_cons_zero] at c4 c5
  clear hb h
  go_enter Try.func16, Try.ntmps16
  go_wp2
  go_end0
  have hg := (set_grown w g 4 (.bool true)).trans (set_grown _ g 5 (.int .i64 ((s.lives : Nat) + 1)))
  refine ⟨rfl, ?_, Turn.of_grown hg (fun b e => by cases e; exact Disk.mem HD.out)⟩
  refine Disk.set HD.out rfl rfl rfl (C.onS_ok (Disk.ok HD.out)) (fun mb hb => ?_) hg
  rw [set_block (set_block hb)]
  simp [Head.cells, headOf, C.onS]
def refE (s : C.St) (f : Int) : Int := if s.off = true then 7 else if f < 0 ∨ 999 < f then 1 else 0
set_option maxHeartbeats 1000000 in
theorem refusal_any (w : World) (g : Nat) (S : Nat → Prop) (s : C.St) (f : Int) (h : Disk w g S s) :
    Calls Try.prog 29 #[.pointer (some ⟨g, 0, none⟩), .int .i64 f] w fun e w' => e = .returned (.int .i64 (refE s f)) ∧ w' = w := by
  obtain ⟨mb, hb⟩ := h.blk
  have c4 := blk_cell hb 4
  simp only [List.getElem?_toArray, List.getElem?_cons_succ, List.getElem?_cons_zero] at c4
  clear hb h
  unfold refE
  cases ho : s.off with
  | true =>
    rw [ho] at c4
    simp only [Bool.not_true] at c4
    rw [if_pos rfl]
    go_enter Try.func29, Try.ntmps29
    go_wp2
    go_ret
    exact ⟨rfl, rfl⟩
  | false =>
    rw [ho] at c4
    simp only [Bool.not_false] at c4
    rw [if_neg (by simp)]
    by_cases h1 : f < 0
    · rw [if_pos (Or.inl h1)]
      go_enter Try.func29, Try.ntmps29
      go_wp2
      go_ret
      exact ⟨rfl, rfl⟩
    by_cases h2 : 999 < f
    · rw [if_pos (Or.inr h2)]
      go_enter Try.func29, Try.ntmps29
      go_wp2
      go_ret
      exact ⟨rfl, rfl⟩
    · rw [if_neg (by omega)]
      go_enter Try.func29, Try.ntmps29
      go_wp2
      go_ret
      exact ⟨rfl, rfl⟩
end Go.Proofs.Ytlfcpgncgldieaa
