/-
  The laws' own start: awake.
-/
import Derived.Test.YtnkfabonggofgaaYObjs
namespace Go.Proofs.Ytnkfabonggofgaa
open Go.RowKit Go.Lib
set_option linter.unusedVariables false

set_option maxRecDepth 100000 in
set_option maxHeartbeats 4000000 in
theorem awake10_any (w : World) : Calls Try.prog 7 #[] w fun e w' => e = .returned (.bool true) ∧ Below w.heap.size w w' := by
  have kE1 : ∀ w, (Op.equalIn 10000 35 (.agg #[.int .i64 5, .int .i64 0, .int .i64 0, .int .i64 0, .int .i64 0, .int .i64 0, .int .i64 0]) (.agg #[.int .i64 5, .int .i64 0, .int .i64 0, .int .i64 0, .int .i64 0, .int .i64 0, .int .i64 0])).run Try.prog w = .ok true w :=
    fun w => eq7_arrs (a := ⟨5, 0, 0, 0, 0, 0, 0⟩) (b := ⟨5, 0, 0, 0, 0, 0, 0⟩) (by decide) w
  have kE2 : ∀ w, (Op.equalIn 10000 35 (.agg #[.int .i64 0, .int .i64 2, .int .i64 0, .int .i64 0, .int .i64 0, .int .i64 0, .int .i64 0]) (.agg #[.int .i64 0, .int .i64 2, .int .i64 0, .int .i64 0, .int .i64 0, .int .i64 0, .int .i64 0])).run Try.prog w = .ok true w :=
    fun w => eq7_arrs (a := ⟨0, 2, 0, 0, 0, 0, 0⟩) (b := ⟨0, 2, 0, 0, 0, 0, 0⟩) (by decide) w
  go_enter Try.func7, Try.ntmps7
  go_wp2_with fail
  refine (t_new (Tas.nil (Below.refl _ w))).mono ?_
  rintro e w1 ⟨g, rfl, h1, -⟩
  have H1 : Hid (Tas w w1 ([] ++ ⟨g, C.zeroT, false⟩ :: [])) := h1
  clear h1
  go_wp2_with fail
  refine (t_add [] [] g C.zeroT ⟨⟨5, 0, 0, 0, 0, 0, 0⟩, C.zero77⟩ 0 5 0 H1.out (by decide) (by rfl)).mono ?_
  rintro e w2 ⟨rfl, h2, -⟩
  have H2 : Hid (Tas w w2 ([] ++ ⟨g, ⟨⟨5, 0, 0, 0, 0, 0, 0⟩, C.zero77⟩, false⟩ :: [])) := h2
  clear h2 H1
  go_wp2_with fail
  refine (t_add [] [] g ⟨⟨5, 0, 0, 0, 0, 0, 0⟩, C.zero77⟩ ⟨⟨5, 0, 0, 0, 0, 0, 0⟩, ⟨0, 2, 0, 0, 0, 0, 0⟩⟩ 1 (-2) 0 H2.out (by decide) (by rfl)).mono ?_
  rintro e w3 ⟨rfl, h3, -⟩
  have H3 : Hid (Tas w w3 ([] ++ ⟨g, ⟨⟨5, 0, 0, 0, 0, 0, 0⟩, ⟨0, 2, 0, 0, 0, 0, 0⟩⟩, false⟩ :: [])) := h3
  clear h3 H2
  go_wp2_with fail
  refine (t_value [] [] g _ 3 H3.out (by decide)).mono ?_
  rintro e w4 ⟨rfl, hw⟩
  subst hw
  go_wp2_with fail
  refine (t_up [] [] g _ H3.out).mono ?_
  rintro e w5 ⟨rfl, h5⟩
  simp only [V7.v]
  have H5 : Hid _ := h5
  clear h5
  go_wp2_with fail
  refine (t_down [] [] g _ (H3.out.below H5.out)).mono ?_
  rintro e w6 ⟨rfl, h6⟩
  simp only [V7.v]
  have H6 : Hid _ := h6
  clear h6
  go_wp2
  go_ret
  exact ⟨rfl, bt H3.out.bel (bt H5.out H6.out)⟩
end Go.Proofs.Ytnkfabonggofgaa
