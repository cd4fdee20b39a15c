/-
  A slice of bytes by its three words; string and bytes.
-/
import Derived.Test.YtebfhomopdnkkaaBClone
import Derived.Lib.ConvBytes
namespace Go.Proofs.Ytebfhomopdnkkaa
open Go.RowKit Go.Lib
set_option linter.unusedVariables false

/-- A slice's address, length, capacity: it holds these bytes. -/
def Is (w : World) (p : Option Addr) (n c : Nat) (l : List UInt8) : Prop := n = l.length ∧ (Part.mk p l c).ok w
theorem Is.below {w w' : World} {p : Option Addr} {n c : Nat} {l : List UInt8} (h : Is w p n c l) (hb : Below w.heap.size w w') : Is w' p n c l := ⟨h.1, h.2.below hb⟩
theorem Is.nil (w : World) : Is w none 0 0 [] := ⟨rfl, ok_nil _ _ _⟩
theorem Own.is {w : World} {base : Nat} {v : Value} {l : List UInt8} (h : Own w base v l) : ∃ p n c, v = .slice p n c ∧ Is w p n c l := by
  obtain ⟨p, c, hv, hok⟩ := Own.part h
  exact ⟨p, _, c, hv, rfl, hok⟩
theorem Is.len {w : World} {p : Option Addr} {n c : Nat} {l : List UInt8} (h : Is w p n c l) : n = l.length := h.1
theorem clone_is (p : Option Addr) (n c : Nat) (l : List UInt8) (w : World) (hx : Is w p n c l) (hl : l.length ≤ 100000000) :
    Calls Try.prog 31 #[.slice p n c] w fun e w' => (∃ p' n' c', e = .returned (.slice p' n' c') ∧ Is w' p' n' c' l) ∧ Below w.heap.size w w' := by
  obtain ⟨rfl, hok⟩ := hx
  refine (clone_any p l c w hok hl).mono ?_
  rintro e w' ⟨⟨v, rfl, ho⟩, hb⟩
  obtain ⟨p', n', c', rfl, hi⟩ := Own.is ho
  exact ⟨⟨p', n', c', rfl, hi⟩, hb⟩
/-- string(x). -/
theorem conv_is {w : World} {p : Option Addr} {n c : Nat} {l : List UInt8} (h : Is w p n c l) : (convert 32 9 (.slice p n c)).run Try.prog w = .ok (.string ⟨l.toArray⟩) w := by
  obtain ⟨rfl, hok⟩ := h; exact conv_str (x := ⟨p, l, c⟩) hok
/-- []byte(s). -/
theorem conv_bytes (w : World) (s : ByteArray) (hs : s.size ≤ maxLen) : ∃ p n c w1, (convert 9 32 (.string s)).run Try.prog w = .ok (.slice p n c) w1 ∧ Is w1 p n c s.data.toList ∧ Below w.heap.size w w1 := by
  refine ⟨_, _, _, _, Lib.run_convert_string_bytes w 9 32 5 s Try.underlying9 Try.underlying32 Try.underlying5, ⟨by simp, by simpa using hs, fun hl => ⟨_, 0, rfl, fun i hi => ?_⟩⟩, ⟨rfl, rfl, rfl, by rw [bytesWorld_size]; omega, fun k hk => bytesWorld_at_old _ _ _ _ hk⟩⟩
  rw [Nat.zero_add]
  exact bytesWorld_cell _ _ _ _ (by simpa using hi)
end Go.Proofs.Ytebfhomopdnkkaa
