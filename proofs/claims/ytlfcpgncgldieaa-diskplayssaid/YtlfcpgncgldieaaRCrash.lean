/-
  rostrumref5.Disk: Crash: what becomes of the row of writes.
-/
import Derived.Test.YtlfcpgncgldieaaRApp4
namespace Go.Proofs.Ytlfcpgncgldieaa
namespace C
theorem pend_snoc {ws : List Wr} {k : Nat} {x : Wr} (h : ws[k]? = some x) : (pend (ws.take (k + 1))).length = (pend (ws.take k)).length + if x.safe = true then 0 else 1 := by
  rw [take_snoc h]
  unfold pend
  rw [List.filter_append, List.length_append]
  cases hs : x.safe <;> simp [hs]
end C
open Go.RowKit Go.Lib Go.Maps
open C (upd upd_same upd_other)
set_option linter.unusedVariables false

/-- The slice of a write that was not safe, behind a fall. -/
def cutV (keep torn : Int) (n : Nat) (u : Value) : Value :=
  if (n : Int) < keep then u else if (n : Int) = keep ∧ 0 < torn then (match u with | .slice p m c => if torn < (m : Int) then .slice p torn.toNat c else u | _ => u) else .slice none 0 0
def crE (keep torn : Int) (n : Nat) (x : RW) : RW := if x.1.safe = true then x else ({ x.1 with bytes := C.cutW keep torn n x.1.bytes, safe := true }, cutV keep torn n x.2)
def crR (keep torn : Int) : Nat → List RW → List RW
  | _, [] => []
  | n, x :: r => crE keep torn n x :: crR keep torn (n + if x.1.safe = true then 0 else 1) r
theorem crR_fst (keep torn : Int) : ∀ (ls : List RW) (n : Nat), (crR keep torn n ls).map Prod.fst = C.crashL keep torn n (ls.map Prod.fst)
  | [], _ => rfl
  | x :: r, n => by
    rw [crR, List.map_cons, List.map_cons, C.crashL, crE]
    by_cases h : x.1.safe = true
    · simp only [h, if_true, Nat.add_zero]; rw [crR_fst keep torn r n]
    · rw [if_neg h, if_neg h, if_neg h, crR_fst keep torn r (n + 1)]
theorem crR_snoc (keep torn : Int) : ∀ (a : List RW) (n : Nat) (x : RW), crR keep torn n (a ++ [x]) = crR keep torn n a ++ [crE keep torn (n + (C.pend (a.map Prod.fst)).length) x]
  | [], n, x => by simp [crR, C.pend]
  | y :: a, n, x => by
    rw [List.cons_append, crR, crR_snoc keep torn a, crR, List.cons_append, List.map_cons]
    congr 4
    by_cases h : y.1.safe = true
    · simp [C.pend, h]
    · simp [C.pend, h]; omega
theorem crR_len (keep torn : Int) : ∀ (ls : List RW) (n : Nat), (crR keep torn n ls).length = ls.length
  | [], _ => rfl
  | x :: r, n => by rw [crR, List.length_cons, List.length_cons, crR_len]
theorem cutV_block {keep torn : Int} {n : Nat} {u : Value} {b : Nat} (h : (cutV keep torn n u).ownBlock = some b) : u.ownBlock = some b := by
  unfold cutV at h
  split at h
  · exact h
  split at h
  · split at h
    · split at h
      · rename_i p m c _
        cases p <;> exact h
      · exact h
    · exact h
  · cases h
theorem crE_block {keep torn : Int} {n : Nat} {x : RW} {b : Nat} (h : (crE keep torn n x).2.ownBlock = some b) : x.2.ownBlock = some b := by
  unfold crE at h
  split at h
  · exact h
  · exact cutV_block h
theorem crR_mem {keep torn : Int} : ∀ {ls : List RW} {n : Nat} {p : RW}, p ∈ crR keep torn n ls → ∃ x ∈ ls, ∃ m, p = crE keep torn m x
  | [], _, _, h => by cases h
  | x :: r, n, p, h => by
    rw [crR] at h
    rcases List.mem_cons.1 h with rfl | h
    · exact ⟨x, by simp, n, rfl⟩
    · obtain ⟨y, hy, m, e⟩ := crR_mem h
      exact ⟨y, by simp [hy], m, e⟩
theorem crR_inj {keep torn : Int} : ∀ {ls : List RW} {n : Nat}, (ls.Pairwise fun p q => ∀ b, p.2.ownBlock = some b → q.2.ownBlock ≠ some b) → (crR keep torn n ls).Pairwise fun p q => ∀ b, p.2.ownBlock = some b → q.2.ownBlock ≠ some b
  | [], _, _ => List.Pairwise.nil
  | x :: r, n, h => by
    obtain ⟨h1, h2⟩ := List.pairwise_cons.1 h
    rw [crR]
    refine List.pairwise_cons.2 ⟨fun q hq b hb hb2 => ?_, crR_inj h2⟩
    obtain ⟨y, hy, m, rfl⟩ := crR_mem hq
    exact h1 y hy b (crE_block hb) (crE_block hb2)
theorem Own.short {w : World} {p : Option Addr} {m c t : Nat} {l : List UInt8} (h : Own w 0 (.slice p m c) l) (ht : t < m) : Own w 0 (.slice p t c) (l.take t) := by
  have h0 := h
  have hlen : m = l.length := by
    obtain ⟨p', c', hv, _⟩ := Own.part h
    cases hv; rfl
  rcases h.2 with ⟨h1, h2⟩ | ⟨g, cap, cur, hv, hb, hg, hn, hm, hs, ht'⟩
  · omega
  · cases hv
    refine ⟨by simp [bytesV], Or.inr ⟨g, c, cur, ?_, hb, hg, ?_, hm, hs, ?_⟩⟩
    · rw [List.length_take]; congr 1; omega
    · rw [List.length_take]; omega
    · rw [Nat.mul_one] at ht' ⊢
      rw [List.length_take, Nat.min_eq_left (by omega)]
      have := congrArg (List.take t) ht'
      rw [List.take_take, Nat.min_eq_left (by omega)] at this
      rw [this]
      simp [bytesV, List.map_take]
theorem cutV_own {w : World} {keep torn : Int} {n : Nat} {u : Value} {l : List UInt8} (h : Own w 0 u l) : Own w 0 (cutV keep torn n u) (C.cutW keep torn n l) := by
  obtain ⟨p, c, hv, _⟩ := Own.part h
  subst hv
  unfold cutV C.cutW C.stay
  by_cases h1 : (n : Int) < keep
  · rw [if_pos h1, if_pos h1, List.take_length]; exact h
  rw [if_neg h1, if_neg h1]
  by_cases h2 : (n : Int) = keep
  · rw [if_pos h2]
    by_cases h3 : 0 < torn
    · rw [if_pos ⟨h2, h3⟩]
      simp only
      by_cases h4 : torn < (l.length : Int)
      · rw [if_pos h4, Nat.min_eq_left (by omega)]
        exact Own.short h (by omega)
      · rw [if_neg h4, Nat.min_eq_right (by omega), List.take_length]; exact h
    · rw [if_neg (fun h => h3 h.2), show torn.toNat = 0 by omega, Nat.zero_min, List.take_zero]
      exact Own.nil _ _
  · rw [if_neg (fun h => h2 h.1), if_neg h2, List.take_zero]
    exact Own.nil _ _
theorem crR_own {w : World} {keep torn : Int} {ls : List RW} {n : Nat} (h : ∀ p ∈ ls, Own w 0 p.2 p.1.bytes) : ∀ p ∈ crR keep torn n ls, Own w 0 p.2 p.1.bytes := fun p hp => by
  obtain ⟨x, hx, m, rfl⟩ := crR_mem hp
  unfold crE
  split
  · exact h x hx
  · exact cutV_own (h x hx)
end Go.Proofs.Ytlfcpgncgldieaa
