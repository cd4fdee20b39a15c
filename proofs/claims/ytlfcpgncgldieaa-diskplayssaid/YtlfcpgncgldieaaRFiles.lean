/-
  rostrumref5.Disk: Files.
-/
import Derived.Test.YtlfcpgncgldieaaRDrop
namespace Go.Proofs.Ytlfcpgncgldieaa
open Go.RowKit Go.Lib Go.Maps
open C (upd upd_same upd_other)
set_option linter.unusedVariables false

theorem info_int : (Try.prog.info? 3).map (fun i => (i.zero, i.size, i.bytes)) = some (some (.int .i64 0), 1, 8) := by kernel_rfl
def fiK (is : Nat → Bool) (k : Nat) : List Int := ((List.range k).filter is).map fun j : Nat => (j : Int)
theorem fiK_succ (is : Nat → Bool) (k : Nat) : fiK is (k + 1) = fiK is k ++ if is k = true then [(k : Int)] else [] := by
  unfold fiK
  rw [List.range_succ, List.filter_append, List.map_append]
  by_cases h : is k = true <;> simp [h]
theorem fiK_len (is : Nat → Bool) (k : Nat) : (fiK is k).length ≤ k := by
  unfold fiK
  rw [List.length_map]
  exact Nat.le_trans (List.length_filter_le _ _) (by simp)
theorem int_one_src (w : World) (z : Int) : SrcAt (w.alloc (.cells #[.int .i64 z] 3)) 1 (.slice (some ⟨w.heap.size, 0, none⟩) 1 1) 1 ([z].map encZ) := by
  refine ⟨_, 1, rfl, rfl, (fun e => by cases e), fun a ha j u hj => ?_⟩
  cases ha
  rw [WideShapes.add_plain, Nat.zero_add, World.cell?_alloc_mark]
  simpa [encZ] using hj
theorem ints_one (l : List Int) : ∀ u ∈ l.map encZ, u.oneCell' = true := by
  intro u hu
  obtain ⟨z, _, rfl⟩ := List.mem_map.1 hu
  rfl
/-- A row of numbers is handed back. -/
def RetZ (e : Ending) (w : World) (l : List Int) : Prop := ∃ p n c, e = .returned (.slice p n c) ∧ n = l.length ∧ ZAt w p l
set_option maxRecDepth 100000 in
set_option maxHeartbeats 4000000 in
theorem rfiles_any (w : World) (g : Nat) (S : Nat → Prop) (s : C.St) (h : Ref w g S s) :
    Calls Try.prog 26 #[.pointer (some ⟨g, 0, none⟩)] w fun e w' => RetZ e w' (filesE s) ∧ Below w.heap.size w w' := by
  obtain ⟨v1, -, ck, -, c2, -, -⟩ := h.cells
  have hgl : g < w.heap.size := World.block_lt_of_cell? _ _ c2
  clear h
  unfold filesE
  cases ho : s.off with
  | true =>
    rw [ho] at c2
    rw [if_pos rfl]
    clear ck
    go_enter Try.func26, Try.ntmps26
    go_wp2
    go_loopw [3, 4] (fun v i wr => v = .slice none 0 0 ∧ i = .int .i64 0 ∧ wr = w) (fun _ _ _ => 0)
    case atStart => exact ⟨rfl, rfl, rfl⟩
    case round =>
      obtain ⟨rfl, rfl, rfl⟩ := hrel
      go_wp2
      go_ret
      exact ⟨⟨none, 0, 0, rfl, rfl, (fun h => absurd h (Nat.lt_irrefl 0))⟩, Below.refl _ _⟩
  | false =>
    rw [ho] at c2
    rw [if_neg (by simp)]
    have HFL : Hid (filesL s.is = fiK s.is 1000) := rfl
    have HCK : Hid (∀ k, k < 1000 → w.cell? ⟨g, 1 + k, none⟩ = some (.bool (s.is k))) := ck
    have HC2 : Hid _ := c2
    clear ck c2 ho
    go_enter Try.func26, Try.ntmps26
    go_wp2
    go_loopw [3, 4] (fun v i wr => ∃ (k : Nat) (p : Option Addr) (m d : Nat), k ≤ 1000 ∧ i = .int .i64 (k : Int) ∧ v = .slice p m d ∧ wr.ownsRow 0 3 1 (.slice p m d) (fiK s.is k).length ((fiK s.is k).map encZ) ∧ (∀ b, (Value.slice p m d).ownBlock = some b → w.heap.size ≤ b) ∧ Below w.heap.size w wr) (fun _ i _ => 1000 - (intOf i).toNat)
    case atStart => exact ⟨0, none, 0, 0, Nat.zero_le _, rfl, rfl, World.ownsRow_nil _ _ _ _, (fun b hb => by cases hb), Below.refl _ _⟩
    case round =>
      obtain ⟨k, p, m, d, hk, rfl, rfl, hr, hnew, hb⟩ := hrel
      have HO : Hid (wr.ownsRow 0 3 1 (.slice p m d) (fiK s.is k).length ((fiK s.is k).map encZ)) := hr
      have HNW : Hid _ := hnew
      have HB : Hid (Below w.heap.size w wr) := hb
      have c2 : wr.cell? ⟨g, 1002, none⟩ = some (.bool false) := (hb.cell (p := ⟨g, 1002, none⟩) hgl).trans HC2.out
      clear hr hnew
      by_cases hlt : k < 1000
      · have ck : wr.cell? ⟨g, 1 + k, none⟩ = some (.bool (s.is k)) := (hb.cell (p := ⟨g, 1 + k, none⟩) hgl).trans (HCK.out k hlt)
        have hki : (k : Int) < 1000 := by omega
        have hsn := fiK_succ s.is k
        have hfl := fiK_len s.is k
        clear hb
        cases hi : s.is k with
        | false =>
          rw [hi] at ck
          have HDN : Hid (fiK s.is (k + 1) = fiK s.is k) := by
            show _ = _
            rw [hsn, hi]; simp
          clear hsn hi
          go_wp2
          go_roundw
          case rel => exact ⟨k + 1, p, m, d, by omega, by go_num, rfl, by rw [HDN.out]; exact HO.out, HNW.out, HB.out⟩
          case measure => simp [intOf]; omega
        | true =>
          rw [hi] at ck
          have HDN : Hid (fiK s.is (k + 1) = fiK s.is k ++ [(k : Int)]) := by
            show _ = _
            rw [hsn, hi]; simp
          have HR5 : Hid (SrcAt (wr.alloc (.cells #[.int .i64 (k : Int)] 3)) 1 (.slice (some ⟨wr.heap.size, 0, none⟩) 1 1) 1 ([(k : Int)].map encZ)) := int_one_src wr (k : Int)
          have HO5 : Hid ((wr.alloc (.cells #[.int .i64 (k : Int)] 3)).ownsRow 0 3 1 (.slice p m d) (fiK s.is k).length ((fiK s.is k).map encZ)) := row_same HO.out fun b hb => Below.heap_alloc _ _ _ (row_lt HO.out hb)
          have HN1 : Hid ((fiK s.is k).length + 1 ≤ maxLen) := by show _ ≤ _; unfold maxLen; omega
          have HN2 : Hid (((fiK s.is k).length + 1) * 8 ≤ 140737488355328) := by show _ ≤ _; omega
          clear hsn hi hfl
          go_wp2_with (at_builtin; go_must (refine wpList_append_src Try.underlying33 info_int rfl (by decide) rfl _ _ rfl rfl HO5.out rfl HR5.out (ints_one _) HN1.out HN2.out ?_); intro vc W6 hrc hgc hlc; obtain ⟨hB6, hn6⟩ := rdr_next HB.out HNW.out hgc hlc; obtain ⟨pc, nc, cc, rfl⟩ : ∃ p n c, vc = .slice p n c := by (obtain ⟨p1, c1, e1, _⟩ := row_nil hrc; exact ⟨_, _, _, e1⟩))
          have HO6 : Hid (W6.ownsRow 0 3 1 (.slice pc nc cc) (fiK s.is (k + 1)).length ((fiK s.is (k + 1)).map encZ)) := by
            show World.ownsRow _ _ _ _ _ _ _
            rw [HDN.out, List.map_append, List.length_append]
            exact hrc
          have HB6 : Hid _ := hB6
          have HN6 : Hid _ := hn6
          clear hrc hgc hlc hB6 hn6
          go_roundw
          case rel => exact ⟨k + 1, pc, nc, cc, by omega, by go_num, rfl, HO6.out, HN6.out, HB6.out⟩
          case measure => simp [intOf]; omega
      · obtain rfl : k = 1000 := by omega
        have hz := zat_of_row HO.out
        have HZ : Hid _ := hz
        clear hz hb
        go_wp2
        go_ret
        obtain ⟨p5, c5, hv5, hn5, hz5, _⟩ := HZ.out
        cases hv5
        rw [HFL.out]
        exact ⟨⟨p, _, d, rfl, rfl, hz5⟩, HB.out⟩
end Go.Proofs.Ytlfcpgncgldieaa
