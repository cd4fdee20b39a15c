/-
  disk.Disk: Files.
-/
import Derived.Test.YtlfcpgncgldieaaWSync
import Derived.Test.YtlfcpgncgldieaaLayI
namespace Go.Proofs.Ytlfcpgncgldieaa
open Go.RowKit Go.Lib Go.Maps Go.Sort Go.Shelf
open C (upd upd_same upd_other)
set_option linter.unusedVariables false

/-- The files that are there, rising. -/
def filesL (is : Nat → Bool) : List Int := ((List.range 1000).filter is).map fun k : Nat => (k : Int)
theorem filesL_pair (is : Nat → Bool) : (filesL is).Pairwise (fun a b => a < b) := by
  unfold filesL
  refine List.pairwise_map.2 (List.Pairwise.filter _ ?_)
  have := List.pairwise_lt_range (n := 1000)
  exact this.imp fun h => by omega
theorem sorted_files {ss : List Int} {is : Nat → Bool} (hnd : ss.Nodup) (hm : ∀ x : Int, x ∈ ss ↔ (0 ≤ x ∧ is x.toNat = true)) (hf : ∀ k, is k = true → k < 1000) : ss.mergeSort (fun x y => decide (x ≤ y)) = filesL is := by
  have hp2 := filesL_pair is
  have hnd2 : (filesL is).Nodup := hp2.imp fun h => by omega
  have hperm : ss.Perm (filesL is) := (List.perm_ext_iff_of_nodup hnd hnd2).2 fun x => by
    rw [hm x]
    unfold filesL
    simp only [List.mem_map, List.mem_filter, List.mem_range]
    constructor
    · rintro ⟨h0, h1⟩
      exact ⟨x.toNat, ⟨hf _ h1, h1⟩, by omega⟩
    · rintro ⟨k, ⟨h1, h2⟩, rfl⟩
      exact ⟨by omega, by simpa using h2⟩
  have tr : ∀ a b c : Int, decide (a ≤ b) = true → decide (b ≤ c) = true → decide (a ≤ c) = true := fun a b c h1 h2 => by simp only [decide_eq_true_eq] at *; omega
  have tot : ∀ a b : Int, (decide (a ≤ b) || decide (b ≤ a)) = true := fun a b => by simp only [Bool.or_eq_true, decide_eq_true_eq]; omega
  refine List.Perm.eq_of_pairwise (le := fun a b => decide (a ≤ b) = true) (fun a b _ _ h1 h2 => ?_) (List.pairwise_mergeSort tr tot ss) (hp2.imp fun h => by simp only [decide_eq_true_eq]; omega) ((List.mergeSort_perm ss _).trans hperm)
  simp only [decide_eq_true_eq] at h1 h2; omega
theorem keys_files {w : World} {b n : Nat} {L : Lay} {D : DataW Unit} (hown : w.ownsMap Try.prog 3 ptrR b n D) (hr : Reads D L.at) {ss : List Int} (hp : ss.Perm (intKeys D)) : ss.Nodup ∧ ∀ x : Int, x ∈ ss ↔ (0 ≤ x ∧ L.is x.toNat = true) := by
  obtain ⟨es, rfl, hpw, hk⟩ := hown.entries int_keys
  have hkey : ∀ p ∈ es, ∃ x, p.1 = .int .i64 x := fun p hp' => by
    obtain ⟨es', he, hk'⟩ := World.ownsMap.keysOf hown
    cases he
    obtain ⟨v, hv⟩ := hk' p hp'
    obtain ⟨x, _, h2, _⟩ := keyOf_int_inv Try.underlying3 hv
    exact ⟨x, h2⟩
  have hnd : (intKeys (DataW.map es)).Nodup := by
    show (es.map _).Nodup
    refine List.pairwise_map.2 (hpw.imp_of_mem fun {p q} hp' hq' hne e => hne ?_)
    obtain ⟨a, ha⟩ := hkey p hp'
    obtain ⟨b, hb⟩ := hkey q hq'
    rw [ha, hb] at e ⊢
    exact congrArg _ e
  refine ⟨hp.nodup_iff.2 hnd, fun x => ?_⟩
  rw [hp.mem_iff]
  have h1 := (hr x).1
  have h2 : (L.at x).isSome = true ↔ (0 ≤ x ∧ L.is x.toNat = true) := by
    unfold Lay.at
    split
    · rename_i h; simp [h]
    · rename_i h; simp [h]
  rw [← h2, ← h1, has_eq, List.any_eq_true]
  show x ∈ es.map _ ↔ _
  rw [List.mem_map]
  constructor
  · rintro ⟨p, hp', e⟩
    obtain ⟨a, ha⟩ := hkey p hp'
    refine ⟨p, hp', ?_⟩
    rw [ha] at e ⊢
    rw [same_int]
    have : a = x := e
    simp [this]
  · rintro ⟨p, hp', e⟩
    obtain ⟨a, ha⟩ := hkey p hp'
    refine ⟨p, hp', ?_⟩
    rw [ha] at e ⊢
    rw [same_int] at e
    have : a = x := by simpa using e
    exact this
theorem sortsI (m : Nat) : AnyZI.SortsIn Try.prog Try.sortedI_ren Fence.wide m :=
  ⟨fun blk off cap ss W hH hblk hsz => callsIn_wide.2 (AnyM.slices_Sort_int Try.sortI blk off cap ss W hH hblk hsz),
   fun p cap W => callsIn_wide.2 (AnyM.slices_Sort_int_none Try.sortI p cap W)⟩
set_option maxHeartbeats 1000000 in
theorem keysI_any (mb : Option Nat) (W : World) : Calls Try.prog 33 #[.map mb] W fun e w' => e = .returned (.func (.func 39) #[] #[.pointer (some ⟨W.heap.size, 0, none⟩)]) ∧ w' = W.alloc (.cells #[.map mb] 52) :=
  (callsIn_wide (n := 5)).1 (AnyZI.keys_in Try.keysI Fence.wide 5 trivial rfl mb W)
set_option maxHeartbeats 1000000 in
theorem sortedI_any (b nn : Nat) (D0 : DataW Unit) (w : World) (hown : w.ownsMap Try.prog 3 ptrR b nn D0) (hmax : Maps.size D0 ≤ maxLen) (hbytes : Maps.size D0 * 8 ≤ 140737488355328) :
    Calls Try.prog 32 #[.func (.func 39) #[] #[.pointer (some ⟨w.heap.size, 0, none⟩)]] (w.alloc (.cells #[.map (some b)] 52)) fun e w' => ∃ (v : Value) (ss : List Int), e = .returned v ∧ ss.Perm (intKeys D0) ∧
      w'.ownsRow (w.heap.size + 1) 3 1 v ss.length ((ss.mergeSort (fun x y => decide (x ≤ y))).map encZ) ∧ (v = .slice none 0 0 ↔ ss = []) ∧ Below (w.heap.size + 1) (w.alloc (.cells #[.map (some b)] 52)) w' := by
  have hbl := hown.lt
  have hseq : SeqGives Fence.wide 2 Try.prog 39 #[.pointer (some ⟨w.heap.size, 0, none⟩)] encZ (fun ss => ss.Perm (intKeys D0)) (Maps.size D0) (w.alloc (.cells #[.map (some b)] 52)) :=
    AnyZI.keys_gives (ρ := Try.keysI_ren) { Try.keysI with } Fence.wide _ trivial rfl (by omega) w.heap.size b nn D0 _ (by simp) (by simp) (by
      obtain ⟨es, clock, hb, Ft, hs, hD⟩ := hown
      exact ⟨es, clock, (Below.heap_alloc _ _ b hbl).trans hb, Ft, hs, hD⟩)
  have cS := AnyZI.sorted_in Try.sortedI Fence.wide 5 trivial trivial trivial trivial rfl (by omega) (sortsI _) (enters_of Try.func38 (by kernel_rfl) rfl) 39 #[.pointer (some ⟨w.heap.size, 0, none⟩)] trivial (enters_of Try.func39 (by kernel_rfl) rfl) _ _ hmax hbytes _ hseq
  have h := (callsIn_wide (n := 5)).1 cS
  refine Calls.mono h ?_
  rintro e w' ⟨v, ss, he, hp, ho, hn, hb⟩
  rw [World.size_alloc] at ho hb
  exact ⟨v, ss, he, hp, ho, hn, hb⟩
end Go.Proofs.Ytlfcpgncgldieaa
