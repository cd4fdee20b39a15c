/-
  The statements' own look at the document's example ('awake').
-/
import Derived.Test.YtopiaiemhnbbnaaDoorWRef
namespace Go.Proofs.YtopiaiemhnbbnaaDoor
open Go.RowKit Go.Lib
set_option linter.unusedVariables false

theorem bt {A B C : World} (h : Below A.heap.size A B) (k : Below B.heap.size B C) : Below A.heap.size A C := h.trans (k.mono h.size)
theorem of_at (p : Option Addr) (ps : List Part) (cap : Nat) (n : Int) (w : World) (hT : Tabs w) (hl : ps.length ≤ maxLen) (hP : PAt w p ps) (hA : ∀ x ∈ ps, x.ok w) (h : ((C.crc (joined ps)).toNat : Int) = n) :
    Calls Tryd.prog 8 #[.slice p ps.length cap] w fun e w' => e = .returned (.int .u32 n) ∧ w' = w :=
  (of_any p ps cap w hT hl hP hA).mono fun e w' ⟨he, hb⟩ => ⟨by rw [he, h], hb⟩
/-- Parts in a new block. -/
theorem pat_new (w : World) (ps : List Part) (t : TypeId) (m : Nat × Nat) : PAt (w.alloc (.cells (ps.map Part.v).toArray t m)) (some ⟨w.heap.size, 0, none⟩) ps := fun hl => by
  refine ⟨_, 0, rfl, fun i x hx => ?_⟩
  rw [World.cell?_alloc_mark]
  simp [hx]
theorem bat_new (w : World) (l : List UInt8) (t : TypeId) (m : Nat × Nat) : BAt (w.alloc (.cells (l.map fun b => Value.int .u8 (b.toNat : Nat)).toArray t m)) (some ⟨w.heap.size, 0, none⟩) l := fun hl => by
  refine ⟨_, 0, rfl, fun i hi => ?_⟩
  rw [World.cell?_alloc_mark]
  simp [hi]
theorem below_new (w : World) (o : Obj) : Below w.heap.size w (w.alloc o) := (Below.refl _ _).alloc (Nat.le_refl _) _

theorem Part.ok.below {w w' : World} {x : Part} (h : x.ok w) (hb : Below w.heap.size w w') : x.ok w' := ⟨h.1, h.2.below hb⟩
/-- The sum of parts that have just been laid in a row. -/
theorem of_new (w1 : World) (ps : List Part) (r : Int) (n B cap : Nat) (vs : Array Value) (hB : B = w1.heap.size) (hv : vs = (ps.map Part.v).toArray) (hn : n = ps.length) (hT : Tabs w1) (hl : ps.length ≤ maxLen) (hA : ∀ x ∈ ps, x.ok w1) (hr : ((C.crc (joined ps)).toNat : Int) = r) :
    Calls Tryd.prog 8 #[.slice (some ⟨B, 0, none⟩) n cap] (w1.alloc (.cells vs 22)) fun e w' => e = .returned (.int .u32 r) ∧ w' = w1.alloc (.cells vs 22) := by
  subst hB hv hn
  exact of_at _ ps cap r _ (hT.below (below_new _ _)) hl (pat_new _ _ _ _) (fun x hx => (hA x hx).below (below_new _ _)) hr

theorem of_newB (w1 : World) (ps : List Part) (r : Int) (n B cap : Nat) (vs : Array Value) (hB : B = w1.heap.size) (hv : vs = (ps.map Part.v).toArray) (hn : n = ps.length) (hT : Tabs w1) (hl : ps.length ≤ 9) (hA : ∀ x ∈ ps, x.ok w1) (hr : ((C.crc (joined ps)).toNat : Int) = r) :
    Calls Tryd.prog 8 #[.slice (some ⟨B, 0, none⟩) n cap] (w1.alloc (.cells vs 22)) fun e w' => e = .returned (.int .u32 r) ∧ Below w1.heap.size w1 w' :=
  (of_new w1 ps r n B cap vs hB hv hn hT (Nat.le_trans hl (by decide)) hA hr).mono fun _ _ ⟨he, hw⟩ => ⟨he, by rw [hw]; exact below_new _ _⟩
theorem ok_one {w : World} {x : Part} (h : x.ok w) : ∀ y ∈ [x], y.ok w := fun y hy => by
  simp only [List.mem_singleton] at hy; subst hy; exact h
theorem ok_cons {w : World} {x : Part} {ps : List Part} (h : x.ok w) (hp : ∀ y ∈ ps, y.ok w) : ∀ y ∈ x :: ps, y.ok w := fun y hy => by
  rcases List.mem_cons.1 hy with rfl | hy
  · exact h
  · exact hp y hy
theorem ok_nil (w : World) (p : Option Addr) (c : Nat) : (Part.mk p [] c).ok w := ⟨Nat.zero_le _, BAt.nil _ _⟩
def nine : List UInt8 := [49, 50, 51, 52, 53, 54, 55, 56, 57]
theorem crc_nine : ((C.crc nine).toNat : Int) = 3421780262 := by decide +kernel
theorem crc_nil : ((C.crc []).toNat : Int) = 0 := by decide +kernel
set_option maxHeartbeats 1000000 in
theorem awake_any (w : World) (hT : Tabs w) : Calls Tryd.prog 7 #[] w fun e w' => e = .returned (.bool true) ∧ Below w.heap.size w w' := by
  have kc := fun (w : World) (C : Array Value) (n c : Nat) => Lib.run_convert_bytes_const (P := Tryd.prog) w 22 5 C n c Tryd.underlying22 Tryd.underlying5
  go_enter Tryd.func7, Tryd.ntmps7
  go_wp2_with fail
  refine (of_new _ [⟨some ⟨w.heap.size, 0, none⟩, nine, 9⟩] 3421780262 1 _ 1 _ (by simp) rfl rfl (hT.below (below_new _ _)) (show (1 : Nat) ≤ maxLen by decide) (fun x hx => ?_) crc_nine).mono ?_
  · simp only [List.mem_singleton] at hx
    subst hx
    exact ⟨show nine.length ≤ maxLen by decide, bat_new w nine _ _⟩
  rintro e w1 ⟨rfl, rfl⟩
  go_wp2_with fail
  refine (of_at none [] 0 0 _ (hT.below ((below_new _ _).alloc (by simp) _)) (by decide) (fun h => absurd h (by decide)) (fun x hx => by cases hx) crc_nil).mono ?_
  rintro e w1 ⟨rfl, rfl⟩
  go_wp2
  go_ret
  exact ⟨rfl, (below_new _ _).alloc (by simp) _⟩
end Go.Proofs.YtopiaiemhnbbnaaDoor
