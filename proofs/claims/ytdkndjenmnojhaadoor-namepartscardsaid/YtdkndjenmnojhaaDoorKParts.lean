/-
  NameParts' walk.
-/
import Derived.Test.YtdkndjenmnojhaaDoorKCuts
import Derived.Test.YtdkndjenmnojhaaDoorKKnown
import Derived.Test.YtdkndjenmnojhaaDoorMath3
namespace Go.Proofs.YtdkndjenmnojhaaDoor
open Go.RowKit Go.Lib
set_option linter.unusedVariables false

/-- How many runes the first k parts have. -/
def S (P : List (List UInt8)) (k : Nat) : Nat := ((P.take k).map fun p => (M.toks p).length).sum
theorem S_succ (P : List (List UInt8)) (k : Nat) (h : k < P.length) : S P (k + 1) = S P k + (M.toks P[k]).length := by
  unfold S
  rw [List.take_succ_eq_append_getElem h, List.map_append, List.sum_append]
  simp
theorem sum_take_le (l : List Nat) : ∀ k, (l.take k).sum ≤ l.sum := by
  induction l with
  | nil => intro k; simp
  | cons x t ih =>
    intro k
    cases k with
    | zero => simp
    | succ k => simp only [List.take_succ_cons, List.sum_cons]; have := ih k; omega
theorem S_le (P : List (List UInt8)) (k : Nat) : S P k ≤ (P.map fun p => (M.toks p).length).sum := by
  unfold S
  rw [List.map_take]
  exact sum_take_le _ k
theorem S_all (P : List (List UInt8)) : S P P.length = (P.map fun p => (M.toks p).length).sum := by
  unfold S; rw [List.take_length]
theorem bytes_list (l : List UInt8) : (⟨l.toArray⟩ : ByteArray).data.toList = l := by simp

set_option maxHeartbeats 4000000 in
theorem parts_walk (s : ByteArray) (hs : s.size ≤ maxLen) (c : Int) (hc : (Lit.int .i32 c).wf = true) (n : Int) (hn : (Lit.int .i64 n).wf = true) (w : World) (hT : Tabs w) :
    Calls Tryd.prog 5 #[.string s, .int .i32 c, .int .i64 n] w fun e w' => e = .returned (.bool true) ∧ Below w.heap.size w w' := by
  have hn' := int_bd hn
  clear hn
  unfold maxLen at hs
  by_cases h1 : 200 < s.size
  · go_enter Tryd.func5, Tryd.ntmps5
    go_wp2_with fail
    refine (awake_any _ hT).mono ?_
    rintro e w1 ⟨rfl, h1⟩
    go_wp2
    go_ret
    exact ⟨rfl, h1⟩
  · have tl := M.toks_length_le s.data.toList
    rw [size_list] at tl
    have hpn := M.split_none s.data.toList c
    have hpc := M.split_count s.data.toList c
    have hpp := M.split_pos s.data.toList c
    have hpl := M.part_length s.data.toList c
    rw [size_list] at hpl
    have hcl := M.cut_length s.data.toList n
    have hct := congrArg List.length (M.toks_cut s.data.toList n)
    have hcp := M.cut_prefix s.data.toList n
    rw [List.length_take] at hct
    obtain ⟨A3, e3⟩ : ∃ k, (M.toks s.data.toList).length = k := ⟨_, rfl⟩
    obtain ⟨P, hP⟩ : ∃ P, M.split s.data.toList c = P := ⟨_, rfl⟩
    rw [e3] at tl hpc hct
    rw [hP] at hpn hpc hpp hpl
    rw [← S_all] at hpc
    have E3 : Hid _ := e3
    have HP : Hid _ := hP
    have HCP : Hid _ := hcp
    have HCT : Hid _ := hct
    have HPC : Hid _ := hpc
    have hSall : S P P.length ≤ 200 := by omega
    have hPl : P.length ≤ 201 := by omega
    clear e3 hP hcp hct hpc
    go_enter Tryd.func5, Tryd.ntmps5
    go_wp2_with fail
    refine (awake_any _ hT).mono ?_
    rintro e w1 ⟨rfl, b1⟩
    go_wp2_with fail
    refine (split_any s c _ (by omega)).mono ?_
    rintro e w2 ⟨⟨v, rfl, own⟩, h2⟩
    have b2 := bt b1 h2
    rw [HP.out] at own
    obtain ⟨g, cap, rfl, hg, hlc, hmc, hgl, -, hx⟩ := row_open own hpp
    clear own b1 h2
    go_wp2
    go_loopw [8, 9] (fun al i wr => ∃ k : Nat, k ≤ P.length ∧ i = .int .i64 k ∧ al = .int .i64 (S P k : Nat) ∧ Below w2.heap.size w2 wr) (fun _ i _ => P.length - (intOf i).toNat)
    case atStart => exact ⟨0, Nat.zero_le _, rfl, rfl, Below.refl _ _⟩
    case round =>
      obtain ⟨k, hk, rfl, rfl, hbr⟩ := hrel
      have hSk := S_le P k
      rw [← S_all] at hSk
      by_cases hlt : k < P.length
      · have hxk := hx k hlt
        have hmem : P[k] ∈ P := List.getElem_mem hlt
        have hnone := hpn P[k] hmem
        have hple := hpl P[k] hmem
        have hSs := S_succ P k hlt
        have hSm := S_le P (k + 1)
        rw [← S_all] at hSm
        obtain ⟨p, hp⟩ : ∃ p : ByteArray, p = ⟨P[k].toArray⟩ := ⟨_, rfl⟩
        have hpd : p.data.toList = P[k] := by rw [hp]
        have hxk2 : w2.cell? ⟨g, k, none⟩ = some (.string p) := by rw [hp]; exact hxk
        rw [← hpd] at hnone hple hSs
        rw [size_list] at hple
        obtain ⟨Lk, eL⟩ : ∃ x, (M.toks p.data.toList).length = x := ⟨_, rfl⟩
        rw [eL] at hSs
        have EL : Hid _ := eL
        have HSS : Hid _ := hSs
        clear hxk hp hpd hmem eL
        have hxr : wr.cell? ⟨g, k, none⟩ = some (.string p) := (hbr.cell (p := ⟨g, k, none⟩) hgl).trans hxk2
        have hLb : S P k + Lk ≤ 200 := by omega
        clear hSs hSm hSk
        go_wp2_with fail
        refine (len_at p Lk _ (by unfold maxLen; omega) (by rw [EL.out])).mono ?_
        rintro e w3 ⟨rfl, h3⟩
        have hb3 : Below w2.heap.size w2 w3 := hbr.trans (h3.mono hbr.size)
        have hx3 : w3.cell? ⟨g, k, none⟩ = some (.string p) := (hb3.cell (p := ⟨g, k, none⟩) hgl).trans hxk2
        clear hxr h3
        go_wp2
        go_loopw [] (fun wi => ∃ pos : Nat, wi.heap[w3.heap.size]? = some (.stringIter p pos) ∧ Below w3.heap.size w3 wi ∧ ∀ r ∈ M.runes (p.data.toList.drop pos), (r : Int) ≠ c) (fun wi => p.size - wi.iterPos w3.heap.size)
        case atStart =>
          refine ⟨0, ?_, (Below.refl _ w3).alloc (Nat.le_refl _) _, by simpa using hnone⟩
          have := World.iter_heap w3 p 0
          simpa using this
        case round =>
          obtain ⟨pos, hit, hbi, hnn⟩ := hrel
          have hszi : w3.heap.size < wr.heap.size := (Array.getElem?_eq_some_iff.1 hit).1
          by_cases hpos : pos < p.size
          · have hnx : ∀ ty, (Instr.next (.pointer (some ⟨w3.heap.size, 0, none⟩)) true ty).run Tryd.prog wr = _ := fun ty => Lib.run_next_any_at wr w3.heap.size p pos ty hit hpos
            have hwd := width_at hpos
            rw [runes_at hpos] at hnn
            have hne : (((Utf8.decode p pos).1 : Int) == c) = false := by
              rw [beq_eq_false_iff_ne]; exact hnn _ (List.mem_cons_self ..)
            have HNN : Hid (∀ r ∈ M.runes (p.data.toList.drop (pos + (Utf8.decode p pos).2)), (r : Int) ≠ c) := fun r hr => hnn r (List.mem_cons_of_mem _ hr)
            clear hnn
            have hit2 := Lib.iterAt_heap wr w3.heap.size p pos (pos + (Utf8.decode p pos).2) hit
            have hbi2 := Lib.below_iterAt hbi (k := w3.heap.size) (Nat.le_refl _) p (pos + (Utf8.decode p pos).2)
            go_wp2
            go_roundw
            case rel => exact ⟨pos + (Utf8.decode p pos).2, hit2, hbi2, HNN.out⟩
            case measure =>
              simp only [World.iterPos, hit2, hit]
              omega
          · have hnx : ∀ ty, (Instr.next (.pointer (some ⟨w3.heap.size, 0, none⟩)) true ty).run Tryd.prog wr = _ := fun ty => Lib.run_next_end_at wr w3.heap.size p pos ty hit hpos
            have hbo : Below w2.heap.size w2 wr := hb3.trans (hbi.mono hb3.size)
            clear hnn hit hx3
            go_wp2
            go_roundw
            case rel => exact ⟨k + 1, by omega, by go_num, by rw [HSS.out]; go_num, hbo⟩
            case measure => simp [intOf]; omega
      · obtain rfl : k = P.length := by omega
        have b3 := b2.trans (hbr.mono b2.size)
        clear hx hbr b2 hpn hpl
        go_wp2_with fail
        refine (cut_any s n _ (by omega) hn').mono ?_
        rintro e w4 ⟨⟨t, ht, rfl⟩, h4⟩
        have b4 := bt b3 h4
        have htl : t.size ≤ s.size := by
          rw [← ht, size_list, size_list] at hcl; exact hcl
        have hpre : ((s.extract 0 t.size).toList == t.toList) = true := by
          rw [Lib.toList_data, Lib.toList_data, beq_iff_eq, prefix_list s _ htl]
          have h := HCP.out
          rw [← ht, size_list] at h
          exact h.symm
        have hcT := HCT.out
        rw [← ht] at hcT
        obtain ⟨AT, eT⟩ : ∃ k, (M.toks t.data.toList).length = k := ⟨_, rfl⟩
        rw [eT] at hcT
        have ET : Hid _ := eT
        have HC : Hid _ := hcT
        have hAT : AT ≤ A3 := by omega
        have hpc := HPC.out
        have hsum : ((S P P.length : Int) + (P.length : Int) - 1 == (A3 : Int)) = true := by rw [beq_iff_eq]; omega
        clear hcl ht eT hcT HPC hpc h4 b3 HCP HCT
        by_cases hn0 : n < 0
        · have hm : ((AT : Int) == 0) = true := by rw [beq_iff_eq]; have := HC.out; omega
          go_wp2_with fail
          refine (len_at s A3 _ (by unfold maxLen; omega) (by rw [E3.out])).mono ?_
          rintro e w5 ⟨rfl, h5⟩
          have b6 := bt b4 h5
          clear h5 b4
          go_wp2_with fail
          refine (len_at s A3 _ (by unfold maxLen; omega) (by rw [E3.out])).mono ?_
          rintro e w7 ⟨rfl, h7⟩
          have b7 := bt b6 h7
          clear h7 b6
          go_wp2_with fail
          refine (len_at t AT _ (by unfold maxLen; omega) (by rw [ET.out])).mono ?_
          rintro e w8 ⟨rfl, h8⟩
          have b8 := bt b7 h8
          clear h8 b7
          go_wp2
          go_ret
          exact ⟨rfl, b8⟩
        · by_cases hnA : n ≤ A3
          · have hm : ((AT : Int) == n) = true := by rw [beq_iff_eq]; have := HC.out; omega
            go_wp2_with fail
            refine (len_at s A3 _ (by unfold maxLen; omega) (by rw [E3.out])).mono ?_
            rintro e w5 ⟨rfl, h5⟩
            have b6 := bt b4 h5
            clear h5 b4
            go_wp2_with fail
            refine (len_at s A3 _ (by unfold maxLen; omega) (by rw [E3.out])).mono ?_
            rintro e w7 ⟨rfl, h7⟩
            have b7 := bt b6 h7
            clear h7 b6
            go_wp2_with fail
            refine (len_at t AT _ (by unfold maxLen; omega) (by rw [ET.out])).mono ?_
            rintro e w8 ⟨rfl, h8⟩
            have b8 := bt b7 h8
            clear h8 b7
            go_wp2
            go_ret
            exact ⟨rfl, b8⟩
          · have hm : ((AT : Int) == (A3 : Int)) = true := by rw [beq_iff_eq]; have := HC.out; omega
            go_wp2_with fail
            refine (len_at s A3 _ (by unfold maxLen; omega) (by rw [E3.out])).mono ?_
            rintro e w5 ⟨rfl, h5⟩
            have b5 := bt b4 h5
            clear h5 b4
            go_wp2_with fail
            refine (len_at s A3 _ (by unfold maxLen; omega) (by rw [E3.out])).mono ?_
            rintro e w6 ⟨rfl, h6⟩
            have b6 := bt b5 h6
            clear h6 b5
            go_wp2_with fail
            refine (len_at s A3 _ (by unfold maxLen; omega) (by rw [E3.out])).mono ?_
            rintro e w7 ⟨rfl, h7⟩
            have b7 := bt b6 h7
            clear h7 b6
            go_wp2_with fail
            refine (len_at t AT _ (by unfold maxLen; omega) (by rw [ET.out])).mono ?_
            rintro e w8 ⟨rfl, h8⟩
            have b8 := bt b7 h8
            clear h8 b7
            go_wp2
            go_ret
            exact ⟨rfl, b8⟩
end Go.Proofs.YtdkndjenmnojhaaDoor
