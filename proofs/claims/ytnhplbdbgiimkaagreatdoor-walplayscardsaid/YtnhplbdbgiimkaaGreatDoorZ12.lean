/-
  Several texts in one: WSync, LayI, WFiles.
-/
import Derived.Test.YtnhplbdbgiimkaaGreatDoorZ11
import Derived.Shelf.SlIterI.Nil
import Derived.Shelf.SortM.Plain
import Derived.Shelf.SortM.SortNone
import Derived.Test.YtnhplbdbgiimkaaGreatDoorProg
namespace Go.Proofs.YtnhplbdbgiimkaaGreatDoor
namespace C
def synW (f : Nat) (x : Wr) : Wr := if x.file = f then { x with safe := true } else x
theorem synW_file (f : Nat) (x : Wr) : (synW f x).file = x.file := by unfold synW; split <;> rfl
theorem synW_num (f : Nat) (x : Wr) : (synW f x).num = x.num := by unfold synW; split <;> rfl
theorem synW_bytes (f : Nat) (x : Wr) : (synW f x).bytes = x.bytes := by unfold synW; split <;> rfl
theorem synW_same {f : Nat} {x : Wr} (h : x.file = f) : (synW f x).safe = true := by unfold synW; rw [if_pos h]
theorem synW_other {f : Nat} {x : Wr} (h : x.file ≠ f) : synW f x = x := if_neg h
def syncS (s : St) (f : Nat) : St := { s with ws := s.ws.map (synW f) }
theorem sync_dat (f k : Nat) : ∀ ws : List Wr, dat (ws.map (synW f)) k = dat ws k
  | [] => rfl
  | x :: r => by simp only [List.map_cons, dat, synW_file, synW_bytes, sync_dat f k r]
theorem sync_used (f : Nat) : ∀ ws : List Wr, used (ws.map (synW f)) = used ws
  | [] => rfl
  | x :: r => by simp only [List.map_cons, used, synW_bytes, sync_used f r]
theorem sync_saf_same (f : Nat) : ∀ ws : List Wr, saf (ws.map (synW f)) f = (dat ws f).length
  | [] => rfl
  | x :: r => by
    simp only [List.map_cons, saf, dat, synW_file, synW_bytes, sync_saf_same f r, List.length_append]
    by_cases h : x.file = f
    · rw [if_pos ⟨h, synW_same h⟩, if_pos h]
    · rw [if_neg (fun h' => h h'.1), if_neg h]; simp
theorem sync_saf_other {f k : Nat} (hk : k ≠ f) : ∀ ws : List Wr, saf (ws.map (synW f)) k = saf ws k
  | [] => rfl
  | x :: r => by
    simp only [List.map_cons, saf, synW_file, synW_bytes, sync_saf_other hk r]
    by_cases h : x.file = f
    · rw [if_neg (fun h' => hk (h'.1.symm.trans h)), if_neg (fun h' => hk (h'.1.symm.trans h))]
    · rw [synW_other h]
theorem sync_pof_same (f : Nat) : ∀ ws : List Wr, pof (ws.map (synW f)) f = []
  | [] => rfl
  | x :: r => by
    have ih := sync_pof_same f r
    unfold pof at ih ⊢
    rw [List.map_cons, List.filter_cons, ih]
    by_cases h : x.file = f
    · simp [synW_same h]
    · simp [synW_file, h]
theorem sync_pof_other {f k : Nat} (hk : k ≠ f) : ∀ ws : List Wr, pof (ws.map (synW f)) k = pof ws k
  | [] => rfl
  | x :: r => by
    have ih := sync_pof_other hk r
    unfold pof at ih ⊢
    rw [List.map_cons, List.filter_cons, List.filter_cons, ih]
    by_cases h : x.file = f
    · have : (x.file == k) = false := beq_eq_false_iff_ne.2 (fun e => hk (e.symm.trans h))
      simp [synW_file, this]
    · rw [synW_other h]
theorem syncS_ok {s : St} (h : s.Ok) (f : Nat) : (syncS s f).Ok := by
  refine ⟨h.room, h.files, fun x hx => ?_, ?_, fun x hx => ?_, ?_, ?_⟩
  · obtain ⟨y, hy, rfl⟩ := List.mem_map.1 hx
    rw [synW_file]; exact h.has y hy
  · refine List.pairwise_map.2 (h.nums.imp fun {a b} hab => ?_)
    rw [synW_num, synW_num]; exact hab
  · obtain ⟨y, hy, rfl⟩ := List.mem_map.1 hx
    rw [synW_num]; exact h.made y hy
  · refine List.pairwise_map.2 (h.ahead.imp fun {a b} hab hf hs => ?_)
    rw [synW_file, synW_file] at hf
    by_cases e : a.file = f
    · exact synW_same e
    · rw [synW_other e]
      rw [synW_other (fun e' => e (hf.trans e'))] at hs
      exact hab hf hs
  · show used (s.ws.map (synW f)) ≤ _
    rw [sync_used]; exact h.used
end C
open Go.RowKit Go.Lib Go.Maps
open C (upd upd_same upd_other)
set_option linter.unusedVariables false

set_option maxRecDepth 100000 in
set_option maxHeartbeats 4000000 in
theorem sync_ok (w : World) (g : Nat) (S : Nat → Prop) (s : C.St) (f : Nat) (h : Disk w g S s) (hr : refE s f = 0) (hf : s.is f = true) :
    Calls Tryz.prog 30 #[.pointer (some ⟨g, 0, none⟩), .int .i64 (f : Nat)] w fun e w' => e = .returned (.int .i64 0) ∧ Disk w' g S (C.syncS s f) ∧ Turn w w' S := by
  obtain ⟨L, rfl, his, M, hF, hS, hok⟩ := h
  have HC : Hid _ := find_ok w L S s f his M hF hS hok hr hf
  have hk : L.is f = true := by rw [his]; exact hf
  have hcb := M.cont f hk
  obtain ⟨p, c, hv, hpo⟩ := Own.part (M.dat f hk)
  have hcb' := hcb
  rw [hv] at hcb'
  have c0 := blk_cell hcb' 0
  have c1 := blk_cell hcb' 1
  have c2 := blk_cell hcb' 2
  have f1 := blk_free hcb' 1
  have f2 := blk_free hcb' 2
  simp only [List.getElem?_toArray, List.getElem?_cons_zero, List.getElem?_cons_succ] at c0 c1 c2
  have HFIN : Hid (Disk ((w.setCell ⟨L.c f, 1, none⟩ (.int .i64 ((C.dat s.ws f).length : Nat))).setCell ⟨L.c f, 2, none⟩ (.slice none 0 0)) L.g S (C.syncS s f) ∧ Turn w ((w.setCell ⟨L.c f, 1, none⟩ (.int .i64 ((C.dat s.ws f).length : Nat))).setCell ⟨L.c f, 2, none⟩ (.slice none 0 0)) S) := by
    have hSc : S (L.c f) := hF _ (Or.inr (Or.inr ⟨f, hk, Or.inl rfl⟩))
    have ht : Turn w ((w.setCell ⟨L.c f, 1, none⟩ (.int .i64 ((C.dat s.ws f).length : Nat))).setCell ⟨L.c f, 2, none⟩ (.slice none 0 0)) S := ((Turn.refl w S).setCell hSc _).setCell hSc _
    refine ⟨⟨L.file f (L.d f) (.slice none 0 0), rfl, his, ?_, ?_, ?_, C.syncS_ok hok f⟩, ht⟩
    · have l2 : (Value.slice none 0 0).ownBlock = (L.w f).ownBlock ∨ ∀ b, (Value.slice none 0 0).ownBlock = some b → w.heap.size ≤ b := Or.inr (fun b e => by cases e)
      have M' := M.file hk (L.d f) (.slice none 0 0) (C.dat s.ws f).length (C.dat s.ws f) [] (w' := (w.setCell ⟨L.c f, 1, none⟩ (.int .i64 ((C.dat s.ws f).length : Nat))).setCell ⟨L.c f, 2, none⟩ (.slice none 0 0)) (fun b _ hne _ _ => by rw [set_other hne, set_other hne]) (by rw [set_block (set_block hcb)]; simp)
        (Own.same (M.dat f hk) fun b hb => by rw [set_other (M.d_c hk hk hb), set_other (M.d_c hk hk hb)]) (OwnW.nil _) (Or.inl rfl) l2
      have hh : headOf s = headOf (C.syncS s f) := by unfold headOf C.syncS; simp only; rw [C.sync_used]
      rw [hh] at M'
      refine M'.congr (fun k _ => ?_) (fun k _ => ?_) (fun k _ => ?_)
      · show _ = C.saf (s.ws.map (C.synW f)) k
        by_cases e : k = f
        · subst e; rw [upd_same, C.sync_saf_same]
        · rw [upd_other _ _ e, C.sync_saf_other e]
      · show _ = C.dat (s.ws.map (C.synW f)) k
        rw [C.sync_dat]
        by_cases e : k = f
        · subst e; rw [upd_same]
        · rw [upd_other _ _ e]
      · show _ = C.pof (s.ws.map (C.synW f)) k
        by_cases e : k = f
        · subst e; rw [upd_same, C.sync_pof_same]
        · rw [upd_other _ _ e, C.sync_pof_other e]
    · intro b hb
      rcases Lay.file_foot (N := w.heap.size) hk (Or.inl rfl) (Or.inr (fun b e => by cases e)) b hb with h | h
      · exact hF b h
      · exfalso
        rcases hb with rfl | rfl | ⟨j, hj, rfl | hb | hb⟩
        · have := M.foot_lt (Or.inl rfl : L.foot L.g); exact absurd h (Nat.not_le_of_lt this)
        · have := M.foot_lt (Or.inr (Or.inl rfl) : L.foot L.mb); exact absurd h (Nat.not_le_of_lt this)
        · have := M.foot_lt (Or.inr (Or.inr ⟨j, hj, Or.inl rfl⟩) : L.foot (L.c j)); exact absurd h (Nat.not_le_of_lt this)
        · by_cases e : j = f
          · subst e
            simp only [Lay.file, upd_same] at hb
            have := row_lt (M.dat j hj) hb; omega
          · simp only [Lay.file, upd_other _ _ e] at hb
            have := row_lt (M.dat j hj) hb; omega
        · by_cases e : j = f
          · subst e
            simp only [Lay.file, upd_same] at hb
            cases hb
          · simp only [Lay.file, upd_other _ _ e] at hb
            have := row_lt (M.wr j hj) hb; omega
    · intro b hb
      exact Nat.lt_of_lt_of_le (hS b hb) ht.size
  have hdl : (C.dat s.ws f).length ≤ 1048576 := by have := C.dat_le s.ws f; have := hok.used; have := hok.room; omega
  generalize (C.dat s.ws f).length = n at *
  generalize L.c f = cb at *
  generalize L.g = g at *
  clear M hF hS hok hr hf his hk hpo hv hcb hcb'
  go_enter Tryz.func30, Tryz.ntmps30
  go_wp2_with fail
  refine Calls.mono HC.out ?_
  rintro e w1 ⟨rfl, hw⟩
  subst w1
  go_wp2
  go_ret
  exact ⟨rfl, HFIN.out⟩
theorem dk_sync (w0 w : World) (g : Nat) (s : C.St) (f : Nat) (h : DK w0 w g s) (hr : refE s f = 0) (hf : s.is f = true) :
    Calls Tryz.prog 30 #[.pointer (some ⟨g, 0, none⟩), .int .i64 (f : Nat)] w fun e w' => e = .returned (.int .i64 0) ∧ DK w0 w' g (C.syncS s f) := by
  obtain ⟨S, h1, h2, h3⟩ := h
  exact (sync_ok w g S s f h1 hr hf).mono fun e w' ⟨he, hd, ht⟩ => ⟨he, S, hd, h2, h3.trans (ht.below h3.size h2)⟩
end Go.Proofs.YtnhplbdbgiimkaaGreatDoor

namespace Go.Proofs
open Go.Shelf
def Tryz.keysI_ren : Go.Shelf.Ren := ⟨fun | 7 => 44 | 10 => 66 | n => n, fun | 23 => 53 | 26 => 3 | 3 => 84 | 28 => 87 | 0 => 0 | 27 => 86 | 33 => 108 | 4 => 4 | n => n, fun | n => n⟩
theorem Tryz.keysI : Go.Proofs.SlLaysZI.n7 Tryz.prog Tryz.keysI_ren := {
  mixed := by kernel_rfl
  f7 := ⟨Tryz.f44.name, by decide, Tryz.func44.trans (congrArg some (by kernel_rfl))⟩
  f10 := ⟨Tryz.f66.name, by decide, Tryz.func66.trans (congrArg some (by kernel_rfl))⟩
  t0 := Tryz.underlying0
  a0 := Tryz.isAgg0
  z0 := Tryz.sizeOf0
  v0 := Tryz.zeroValue0
  t4 := Tryz.underlying4
  a4 := Tryz.isAgg4
  z4 := Tryz.sizeOf4
  v4 := Tryz.zeroValue4
  t23 := Tryz.underlying53
  a23 := Tryz.isAgg53
  z23 := Tryz.sizeOf53
  v23 := Tryz.zeroValue53
  t26 := Tryz.underlying3
  a26 := Tryz.isAgg3
  z26 := Tryz.sizeOf3
  v26 := Tryz.zeroValue3
  t27 := Tryz.underlying86
  a27 := Tryz.isAgg86
  z27 := Tryz.sizeOf86
  v27 := Tryz.zeroValue86
  t28 := Tryz.underlying87
  a28 := Tryz.isAgg87
  z28 := Tryz.sizeOf87
  v28 := Tryz.zeroValue87
  t33 := Tryz.underlying108
  a33 := Tryz.isAgg108
  z33 := Tryz.sizeOf108
  v33 := Tryz.zeroValue108 }
def Tryz.sortedI_ren : Go.Shelf.Ren := ⟨fun | 6 => 43 | 8 => 64 | 9 => 65 | 11 => 77 | 13 => 70 | 12 => 78 | 23 => 89 | 24 => 90 | 14 => 101 | 15 => 102 | 16 => 103 | 17 => 104 | 18 => 105 | 19 => 106 | 20 => 107 | 21 => 108 | 22 => 109 | 25 => 120 | 26 => 113 | 27 => 114 | 28 => 121 | 29 => 122 | 30 => 71 | 31 => 126 | n => n, fun | 26 => 3 | 28 => 87 | 24 => 44 | 0 => 0 | 3 => 3 | 37 => 116 | 48 => 119 | 50 => 139 | 4 => 4 | 40 => 131 | 39 => 130 | 45 => 135 | 5 => 5 | 9 => 9 | 51 => 156 | 55 => 160 | 57 => 168 | 58 => 74 | 33 => 108 | n => n, fun | n => n⟩
theorem Tryz.sortedI : Go.Proofs.SlLaysZI.n6 Tryz.prog Tryz.sortedI_ren := {
  mixed := by kernel_rfl
  f6 := ⟨Tryz.f43.name, by decide, Tryz.func43.trans (congrArg some (by kernel_rfl))⟩
  f8 := ⟨Tryz.f64.name, by decide, Tryz.func64.trans (congrArg some (by kernel_rfl))⟩
  f11 := ⟨Tryz.f77.name, by decide, Tryz.func77.trans (congrArg some (by kernel_rfl))⟩
  t0 := Tryz.underlying0
  a0 := Tryz.isAgg0
  z0 := Tryz.sizeOf0
  v0 := Tryz.zeroValue0
  t24 := Tryz.underlying44
  a24 := Tryz.isAgg44
  z24 := Tryz.sizeOf44
  v24 := Tryz.zeroValue44
  t26 := Tryz.underlying3
  a26 := Tryz.isAgg3
  z26 := Tryz.sizeOf3
  v26 := Tryz.zeroValue3
  t28 := Tryz.underlying87
  a28 := Tryz.isAgg87
  z28 := Tryz.sizeOf87
  v28 := Tryz.zeroValue87
  i26 := by kernel_rfl }
def Tryz.sortI_ren : Go.Shelf.Ren := ⟨fun | 5 => 65 | 8 => 70 | 7 => 78 | 19 => 89 | 20 => 90 | 10 => 101 | 11 => 102 | 12 => 103 | 13 => 104 | 14 => 105 | 15 => 106 | 16 => 107 | 17 => 108 | 18 => 109 | 30 => 120 | 31 => 113 | 32 => 114 | 33 => 121 | 34 => 122 | 35 => 71 | 40 => 126 | n => n, fun | 23 => 44 | 25 => 3 | 3 => 3 | 32 => 116 | 22 => 44 | 0 => 0 | 44 => 119 | 46 => 139 | 4 => 4 | 36 => 131 | 35 => 130 | 41 => 135 | 5 => 5 | 9 => 9 | 53 => 156 | 57 => 160 | 63 => 168 | 64 => 74 | n => n, fun | n => n⟩
theorem Tryz.sortI : Go.Proofs.SlLaysM.n5 Tryz.prog Tryz.sortI_ren := {
  mixed := by kernel_rfl
  f5 := ⟨Tryz.f65.name, by decide, Tryz.func65.trans (congrArg some (by kernel_rfl))⟩
  f7 := ⟨Tryz.f78.name, by decide, Tryz.func78.trans (congrArg some (by kernel_rfl))⟩
  f8 := Tryz.func70.trans (congrArg some (by kernel_rfl))
  f10 := ⟨Tryz.f101.name, by decide, Tryz.func101.trans (congrArg some (by kernel_rfl))⟩
  f11 := ⟨Tryz.f102.name, by decide, Tryz.func102.trans (congrArg some (by kernel_rfl))⟩
  f12 := ⟨Tryz.f103.name, by decide, Tryz.func103.trans (congrArg some (by kernel_rfl))⟩
  f13 := ⟨Tryz.f104.name, by decide, Tryz.func104.trans (congrArg some (by kernel_rfl))⟩
  f14 := ⟨Tryz.f105.name, by decide, Tryz.func105.trans (congrArg some (by kernel_rfl))⟩
  f15 := ⟨Tryz.f106.name, by decide, Tryz.func106.trans (congrArg some (by kernel_rfl))⟩
  f16 := ⟨Tryz.f107.name, by decide, Tryz.func107.trans (congrArg some (by kernel_rfl))⟩
  f17 := ⟨Tryz.f108.name, by decide, Tryz.func108.trans (congrArg some (by kernel_rfl))⟩
  f18 := ⟨Tryz.f109.name, by decide, Tryz.func109.trans (congrArg some (by kernel_rfl))⟩
  f19 := Tryz.func89.trans (congrArg some (by kernel_rfl))
  f20 := Tryz.func90.trans (congrArg some (by kernel_rfl))
  f30 := ⟨Tryz.f120.name, by decide, Tryz.func120.trans (congrArg some (by kernel_rfl))⟩
  f31 := Tryz.func113.trans (congrArg some (by kernel_rfl))
  f32 := Tryz.func114.trans (congrArg some (by kernel_rfl))
  f33 := ⟨Tryz.f121.name, by decide, Tryz.func121.trans (congrArg some (by kernel_rfl))⟩
  f34 := ⟨Tryz.f122.name, by decide, Tryz.func122.trans (congrArg some (by kernel_rfl))⟩
  f35 := ⟨Tryz.f71.name, by decide, Tryz.func71.trans (congrArg some (by kernel_rfl))⟩
  f40 := ⟨Tryz.f126.name, by decide, Tryz.func126.trans (congrArg some (by kernel_rfl))⟩
  t0 := Tryz.underlying0
  a0 := Tryz.isAgg0
  z0 := Tryz.sizeOf0
  v0 := Tryz.zeroValue0
  t3 := Tryz.underlying3
  a3 := Tryz.isAgg3
  z3 := Tryz.sizeOf3
  v3 := Tryz.zeroValue3
  t4 := Tryz.underlying4
  a4 := Tryz.isAgg4
  z4 := Tryz.sizeOf4
  v4 := Tryz.zeroValue4
  t5 := Tryz.underlying5
  a5 := Tryz.isAgg5
  z5 := Tryz.sizeOf5
  v5 := Tryz.zeroValue5
  t9 := Tryz.underlying9
  a9 := Tryz.isAgg9
  z9 := Tryz.sizeOf9
  v9 := Tryz.zeroValue9
  t22 := Tryz.underlying44
  a22 := Tryz.isAgg44
  z22 := Tryz.sizeOf44
  v22 := Tryz.zeroValue44
  t23 := Tryz.underlying44
  a23 := Tryz.isAgg44
  z23 := Tryz.sizeOf44
  v23 := Tryz.zeroValue44
  t25 := Tryz.underlying3
  a25 := Tryz.isAgg3
  z25 := Tryz.sizeOf3
  v25 := Tryz.zeroValue3
  t32 := Tryz.underlying116
  a32 := Tryz.isAgg116
  z32 := Tryz.sizeOf116
  v32 := Tryz.zeroValue116
  t35 := Tryz.underlying130
  a35 := Tryz.isAgg130
  z35 := Tryz.sizeOf130
  v35 := Tryz.zeroValue130
  t36 := Tryz.underlying131
  a36 := Tryz.isAgg131
  z36 := Tryz.sizeOf131
  v36 := Tryz.zeroValue131
  t41 := Tryz.underlying135
  a41 := Tryz.isAgg135
  z41 := Tryz.sizeOf135
  v41 := Tryz.zeroValue135
  t44 := Tryz.underlying119
  a44 := Tryz.isAgg119
  z44 := Tryz.sizeOf119
  v44 := Tryz.zeroValue119
  t46 := Tryz.underlying139
  a46 := Tryz.isAgg139
  z46 := Tryz.sizeOf139
  v46 := Tryz.zeroValue139
  t53 := Tryz.underlying156
  a53 := Tryz.isAgg156
  z53 := Tryz.sizeOf156
  v53 := Tryz.zeroValue156
  t57 := Tryz.underlying160
  a57 := Tryz.isAgg160
  z57 := Tryz.sizeOf160
  v57 := Tryz.zeroValue160
  t63 := Tryz.underlying168
  a63 := Tryz.isAgg168
  z63 := Tryz.sizeOf168
  v63 := Tryz.zeroValue168
  t64 := Tryz.underlying74
  a64 := Tryz.isAgg74
  z64 := Tryz.sizeOf74
  v64 := Tryz.zeroValue74 }
end Go.Proofs

namespace Go.Proofs.YtnhplbdbgiimkaaGreatDoor
open Go.RowKit Go.Lib Go.Maps Go.Sort Go.Shelf
open C (upd upd_same upd_other)
set_option linter.unusedVariables false

/-- The files that are there, rising. -/
def filesL (is : Nat → Bool) : List Int := ((List.range 1000).filter is).map fun k : Nat => (k : Int)
theorem filesL_pair (is : Nat → Bool) : (filesL is).Pairwise (fun a b => a < b) := by
  unfold filesL
  refine List.pairwise_map.2 (List.Pairwise.filter _ ?_)
  have := List.pairwise_lt_range (n := 1000)
  exact this.imp fun h => by omega
theorem sorted_files {ss : List Int} {is : Nat → Bool} (hnd : ss.Nodup) (hm : ∀ x : Int, x ∈ ss ↔ (0 ≤ x ∧ is x.toNat = true)) (hf : ∀ k, is k = true → k < 1000) : ss.mergeSort (fun x y => decide (x ≤ y)) = filesL is := by
  have hp2 := filesL_pair is
  have hnd2 : (filesL is).Nodup := hp2.imp fun h => by omega
  have hperm : ss.Perm (filesL is) := (List.perm_ext_iff_of_nodup hnd hnd2).2 fun x => by
    rw [hm x]
    unfold filesL
    simp only [List.mem_map, List.mem_filter, List.mem_range]
    constructor
    · rintro ⟨h0, h1⟩
      exact ⟨x.toNat, ⟨hf _ h1, h1⟩, by omega⟩
    · rintro ⟨k, ⟨h1, h2⟩, rfl⟩
      exact ⟨by omega, by simpa using h2⟩
  have tr : ∀ a b c : Int, decide (a ≤ b) = true → decide (b ≤ c) = true → decide (a ≤ c) = true := fun a b c h1 h2 => by simp only [decide_eq_true_eq] at *; omega
  have tot : ∀ a b : Int, (decide (a ≤ b) || decide (b ≤ a)) = true := fun a b => by simp only [Bool.or_eq_true, decide_eq_true_eq]; omega
  refine List.Perm.eq_of_pairwise (le := fun a b => decide (a ≤ b) = true) (fun a b _ _ h1 h2 => ?_) (List.pairwise_mergeSort tr tot ss) (hp2.imp fun h => by simp only [decide_eq_true_eq]; omega) ((List.mergeSort_perm ss _).trans hperm)
  simp only [decide_eq_true_eq] at h1 h2; omega
theorem keys_files {w : World} {b n : Nat} {L : Lay} {D : DataW Unit} (hown : w.ownsMap Tryz.prog 3 ptrR b n D) (hr : Reads D L.at) {ss : List Int} (hp : ss.Perm (intKeys D)) : ss.Nodup ∧ ∀ x : Int, x ∈ ss ↔ (0 ≤ x ∧ L.is x.toNat = true) := by
  obtain ⟨es, rfl, hpw, hk⟩ := hown.entries int_keys
  have hkey : ∀ p ∈ es, ∃ x, p.1 = .int .i64 x := fun p hp' => by
    obtain ⟨es', he, hk'⟩ := World.ownsMap.keysOf hown
    cases he
    obtain ⟨v, hv⟩ := hk' p hp'
    obtain ⟨x, _, h2, _⟩ := keyOf_int_inv Tryz.underlying3 hv
    exact ⟨x, h2⟩
  have hnd : (intKeys (DataW.map es)).Nodup := by
    show (es.map _).Nodup
    refine List.pairwise_map.2 (hpw.imp_of_mem fun {p q} hp' hq' hne e => hne ?_)
    obtain ⟨a, ha⟩ := hkey p hp'
    obtain ⟨b, hb⟩ := hkey q hq'
    rw [ha, hb] at e ⊢
    exact congrArg _ e
  refine ⟨hp.nodup_iff.2 hnd, fun x => ?_⟩
  rw [hp.mem_iff]
  have h1 := (hr x).1
  have h2 : (L.at x).isSome = true ↔ (0 ≤ x ∧ L.is x.toNat = true) := by
    unfold Lay.at
    split
    · rename_i h; simp [h]
    · rename_i h; simp [h]
  rw [← h2, ← h1, has_eq, List.any_eq_true]
  show x ∈ es.map _ ↔ _
  rw [List.mem_map]
  constructor
  · rintro ⟨p, hp', e⟩
    obtain ⟨a, ha⟩ := hkey p hp'
    refine ⟨p, hp', ?_⟩
    rw [ha] at e ⊢
    rw [same_int]
    have : a = x := e
    simp [this]
  · rintro ⟨p, hp', e⟩
    obtain ⟨a, ha⟩ := hkey p hp'
    refine ⟨p, hp', ?_⟩
    rw [ha] at e ⊢
    rw [same_int] at e
    have : a = x := by simpa using e
    exact this
theorem sortsI (m : Nat) : AnyZI.SortsIn Tryz.prog Tryz.sortedI_ren Fence.wide m :=
  ⟨fun blk off cap ss W hH hblk hsz => callsIn_wide.2 (AnyM.slices_Sort_int Tryz.sortI blk off cap ss W hH hblk hsz),
   fun p cap W => callsIn_wide.2 (AnyM.slices_Sort_int_none Tryz.sortI p cap W)⟩
set_option maxHeartbeats 1000000 in
theorem keysI_any (mb : Option Nat) (W : World) : Calls Tryz.prog 44 #[.map mb] W fun e w' => e = .returned (.func (.func 66) #[] #[.pointer (some ⟨W.heap.size, 0, none⟩)]) ∧ w' = W.alloc (.cells #[.map mb] 53) :=
  (callsIn_wide (n := 5)).1 (AnyZI.keys_in Tryz.keysI Fence.wide 5 trivial rfl mb W)
set_option maxHeartbeats 1000000 in
theorem sortedI_any (b nn : Nat) (D0 : DataW Unit) (w : World) (hown : w.ownsMap Tryz.prog 3 ptrR b nn D0) (hmax : Maps.size D0 ≤ maxLen) (hbytes : Maps.size D0 * 8 ≤ 140737488355328) :
    Calls Tryz.prog 43 #[.func (.func 66) #[] #[.pointer (some ⟨w.heap.size, 0, none⟩)]] (w.alloc (.cells #[.map (some b)] 53)) fun e w' => ∃ (v : Value) (ss : List Int), e = .returned v ∧ ss.Perm (intKeys D0) ∧
      w'.ownsRow (w.heap.size + 1) 3 1 v ss.length ((ss.mergeSort (fun x y => decide (x ≤ y))).map encZ) ∧ (v = .slice none 0 0 ↔ ss = []) ∧ Below (w.heap.size + 1) (w.alloc (.cells #[.map (some b)] 53)) w' := by
  have hbl := hown.lt
  have hseq : SeqGives Fence.wide 2 Tryz.prog 66 #[.pointer (some ⟨w.heap.size, 0, none⟩)] encZ (fun ss => ss.Perm (intKeys D0)) (Maps.size D0) (w.alloc (.cells #[.map (some b)] 53)) :=
    AnyZI.keys_gives (ρ := Tryz.keysI_ren) { Tryz.keysI with } Fence.wide _ trivial rfl (by omega) w.heap.size b nn D0 _ (by simp) (by simp) (by
      obtain ⟨es, clock, hb, Ft, hs, hD⟩ := hown
      exact ⟨es, clock, (Below.heap_alloc _ _ b hbl).trans hb, Ft, hs, hD⟩)
  have cS := AnyZI.sorted_in Tryz.sortedI Fence.wide 5 trivial trivial trivial trivial rfl (by omega) (sortsI _) (enters_of Tryz.func65 (by kernel_rfl) rfl) 66 #[.pointer (some ⟨w.heap.size, 0, none⟩)] trivial (enters_of Tryz.func66 (by kernel_rfl) rfl) _ _ hmax hbytes _ hseq
  have h := (callsIn_wide (n := 5)).1 cS
  refine Calls.mono h ?_
  rintro e w' ⟨v, ss, he, hp, ho, hn, hb⟩
  rw [World.size_alloc] at ho hb
  exact ⟨v, ss, he, hp, ho, hn, hb⟩
end Go.Proofs.YtnhplbdbgiimkaaGreatDoor
