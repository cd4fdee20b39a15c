/-
  disk.Disk: Files; rostrumlaw5.ints.
-/
import Derived.Test.YtlfcpgncgldieaaWFiles
namespace Go.Proofs.Ytlfcpgncgldieaa
open Go.RowKit Go.Lib Go.Maps
open C (upd upd_same upd_other)
set_option linter.unusedVariables false

/-- A row of numbers as it lies. -/
def ZAt (w : World) (p : Option Addr) (l : List Int) : Prop := 0 < l.length → ∃ b o, p = some ⟨b, o, none⟩ ∧ ∀ i, i < l.length → w.cell? ⟨b, o + i, none⟩ = some (.int .i64 (l.getD i 0))
theorem ZAt.below {w w' : World} {p : Option Addr} {l : List Int} (h : ZAt w p l) (hb : Below w.heap.size w w') : ZAt w' p l := fun hl => by
  obtain ⟨b, o, hp, hc⟩ := h hl
  refine ⟨b, o, hp, fun i hi => ?_⟩
  rw [hb.cell (p := ⟨b, o + i, none⟩) (World.block_lt_of_cell? _ _ (hc i hi))]; exact hc i hi
theorem zat_of_row {w : World} {base n : Nat} {v : Value} {l : List Int} (h : w.ownsRow base 3 1 v n (l.map encZ)) : ∃ p c, v = .slice p n c ∧ n = l.length ∧ ZAt w p l ∧ ∀ a, p = some a → base ≤ a.block := by
  have hn : n = l.length := by have := h.1; simp at this; omega
  rcases h.2 with ⟨rfl, h0⟩ | ⟨g, cap, cur, rfl, hbs, hg, _, _, _, ht⟩
  · exact ⟨none, 0, by rw [h0], hn, (fun hl => by omega), (fun a e => by cases e)⟩
  · refine ⟨_, cap, rfl, hn, fun _ => ⟨g, 0, rfl, fun i hi => ?_⟩, fun a e => by cases e; exact hbs⟩
    rw [Nat.zero_add, blk_cell hg i]
    have hh := congrArg (fun q => q[i]?) ht
    simp only [List.getElem?_take, Nat.mul_one] at hh
    rw [if_pos (by omega)] at hh
    rw [← Array.getElem?_toList, hh]
    simp [List.getD, hi, encZ]
theorem zat_new (w : World) (l : List Int) (t : TypeId) : ZAt (w.alloc (.cells (l.map fun z => Value.int .i64 z).toArray t)) (some ⟨w.heap.size, 0, none⟩) l := fun hl => by
  refine ⟨_, 0, rfl, fun i hi => ?_⟩
  rw [World.cell?_alloc_mark]
  simp [hi]
def filesE (s : C.St) : List Int := if s.off = true then [] else filesL s.is
set_option maxRecDepth 100000 in
set_option maxHeartbeats 1000000 in
theorem files_any (w : World) (g : Nat) (S : Nat → Prop) (s : C.St) (h : Disk w g S s) (hm : s.made ≤ 1000000) :
    Calls Try.prog 14 #[.pointer (some ⟨g, 0, none⟩)] w fun e w' => (∃ p n c, e = .returned (.slice p n c) ∧ n = (filesE s).length ∧ ZAt w' p (filesE s) ∧ ∀ a, p = some a → w.heap.size ≤ a.block) ∧ Below w.heap.size w w' := by
  obtain ⟨L, rfl, his, M, hF, hS, hok⟩ := h
  have c4 := blk_cell M.blk 4
  have c2 := blk_cell M.blk 2
  simp only [Head.cells, headOf, List.getElem?_toArray, List.getElem?_cons_succ, List.getElem?_cons_zero] at c4 c2
  cases ho : s.off with
  | true =>
    rw [ho] at c4
    simp only [Bool.not_true] at c4
    have e1 : filesE s = [] := if_pos ho
    rw [e1]
    generalize L.g = g at *
    clear M hF hS hok his c2 ho e1
    go_enter Try.func14, Try.ntmps14
    go_wp2
    go_ret
    exact ⟨⟨none, 0, 0, rfl, rfl, (fun h => absurd h (Nat.lt_irrefl 0)), (fun a e => by cases e)⟩, Below.refl _ _⟩
  | false =>
    rw [ho] at c4
    simp only [Bool.not_false] at c4
    have e1 : filesE s = filesL s.is := if_neg (by rw [ho]; simp)
    rw [e1]
    obtain ⟨D, hown, hr⟩ := M.map
    have hsz : Maps.size D ≤ s.made := hown.size_le
    have HK : Hid _ := keysI_any (some L.mb) w
    have HS : Hid _ := sortedI_any L.mb _ D w hown (by unfold maxLen; omega) (by omega)
    have HF2 : Hid (∀ ss : List Int, ss.Perm (intKeys D) → ss.mergeSort (fun x y => decide (x ≤ y)) = filesL s.is) := fun ss hp => by
      obtain ⟨h1, h2⟩ := keys_files hown hr hp
      rw [← his]
      exact sorted_files h1 h2 (fun k hk => hok.files k (his ▸ hk))
    generalize L.mb = mb at *
    generalize L.g = g at *
    clear M hF hS hok his ho e1 hown hr hsz
    go_enter Try.func14, Try.ntmps14
    go_wp2_with fail
    refine Calls.mono HK.out ?_
    rintro e w1 ⟨rfl, hw⟩
    subst hw
    go_wp2_with fail
    refine Calls.mono HS.out ?_
    rintro e w2 ⟨v, ss, rfl, hp, ho2, hn2, hb2⟩
    have hfl := HF2.out ss hp
    rw [hfl] at ho2
    have hlen : ss.length = (filesL s.is).length := by rw [← hfl, List.length_mergeSort]
    obtain ⟨p, c, rfl, hn, hz, hge⟩ := zat_of_row ho2
    have HGE : Hid _ := hge
    have HZ : Hid _ := hz
    have HB2 : Hid _ := hb2
    have HN : Hid _ := hn
    clear hz hn hlen ho2 hn2 hfl hb2 hp hge
    go_wp2
    go_ret
    exact ⟨⟨p, _, c, rfl, HN.out, HZ.out, fun a e => Nat.le_of_succ_le (HGE.out a e)⟩, bt (below_new _ _) (by have := HB2.out; rw [← World.size_alloc w (.cells #[.map (some mb)] 52)] at this; exact this)⟩
set_option maxRecDepth 100000 in
set_option maxHeartbeats 1000000 in
theorem ints_true (p q : Option Addr) (n m c d : Nat) (l : List Int) (w : World) (hn : n = l.length) (hm : m = l.length) (hl : l.length ≤ 1000) (hp : ZAt w p l) (hq : ZAt w q l) :
    Calls Try.prog 18 #[.slice p n c, .slice q m d] w fun e w' => e = .returned (.bool true) ∧ ∃ k, w' = w.drewN k := by
  subst hn hm
  go_enter Try.func18, Try.ntmps18
  go_wp2
  go_loopw [5] (fun i wr => ∃ k : Nat, k ≤ l.length ∧ i = .int .i64 k ∧ ∃ z, wr = w.drewN z) (fun i _ => l.length - (intOf i).toNat)
  case atStart => exact ⟨0, Nat.zero_le _, rfl, 0, rfl⟩
  case round =>
    obtain ⟨k, hk, rfl, z, rfl⟩ := hrel
    by_cases hlt : k < l.length
    · obtain ⟨b, o, rfl, hc⟩ := hp (by omega)
      obtain ⟨b2, o2, rfl, hc2⟩ := hq (by omega)
      have x1 := hc k hlt
      have x2 := hc2 k hlt
      generalize l.getD k 0 = x at x1 x2
      have hki : (k : Int) < (l.length : Int) := by omega
      clear hc hc2 hp hq
      go_wp2
      go_quiet (fail)
      go_wp2
      go_roundw
      case rel => exact ⟨k + 1, by omega, by go_num, z + nq, rfl⟩
      case measure => simp [intOf]; omega
    · go_wp2
      go_ret
      exact ⟨rfl, z, rfl⟩
end Go.Proofs.Ytlfcpgncgldieaa
