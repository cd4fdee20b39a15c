/-
  The library's contracts that the proofs of this seat use, laid at its program.
-/
import Derived.Shelf.SlMaps.Equal
import Derived.Shelf.SlMaps.Clone
import Derived.Shelf.SlMaps.DeleteFunc
import Derived.Test.YtoglhhoniojbaaaProg
namespace Go.Proofs
open Go.Shelf
def Try.eqF_ren : Go.Shelf.Ren := ⟨fun | 7 => 42 | n => n, fun | 23 => 62 | 29 => 62 | 26 => 9 | 27 => 49 | 31 => 49 | 32 => 48 | 4 => 4 | 3 => 3 | 0 => 0 | 37 => 110 | n => n, fun | n => n⟩
theorem Try.eqF : Go.Proofs.SlLaysEq.n7 Try.prog Try.eqF_ren := {
  mixed := by kernel_rfl
  f7 := ⟨Try.f42.name, by decide, Try.func42.trans (congrArg some (by kernel_rfl))⟩
  t0 := Try.underlying0
  a0 := Try.isAgg0
  z0 := Try.sizeOf0
  v0 := Try.zeroValue0
  t3 := Try.underlying3
  a3 := Try.isAgg3
  z3 := Try.sizeOf3
  v3 := Try.zeroValue3
  t4 := Try.underlying4
  a4 := Try.isAgg4
  z4 := Try.sizeOf4
  v4 := Try.zeroValue4
  t23 := Try.underlying62
  a23 := Try.isAgg62
  z23 := Try.sizeOf62
  v23 := Try.zeroValue62
  a26 := Try.isAgg9
  z26 := Try.sizeOf9
  a27 := Try.isAgg49
  z27 := Try.sizeOf49
  t29 := Try.underlying62
  a29 := Try.isAgg62
  z29 := Try.sizeOf62
  v29 := Try.zeroValue62
  a31 := Try.isAgg49
  z31 := Try.sizeOf49
  t32 := Try.underlying48
  a32 := Try.isAgg48
  z32 := Try.sizeOf48
  v32 := Try.zeroValue48
  t37 := Try.underlying110
  a37 := Try.isAgg110
  z37 := Try.sizeOf110 }
def Try.clA_ren : Go.Shelf.Ren := ⟨fun | 5 => 40 | 7 => 68 | n => n, fun | 23 => 61 | 25 => 31 | 3 => 70 | 4 => 4 | 20 => 20 | n => n, fun | n => n⟩
theorem Try.clA : Go.Proofs.SlLaysW.n5 Try.prog Try.clA_ren := {
  mixed := by kernel_rfl
  f5 := ⟨Try.f40.name, by decide, Try.func40.trans (congrArg some (by kernel_rfl))⟩
  f7 := Try.func68.trans (congrArg some (by kernel_rfl))
  t4 := Try.underlying4
  a4 := Try.isAgg4
  z4 := Try.sizeOf4
  v4 := Try.zeroValue4
  t20 := Try.underlying20
  a20 := Try.isAgg20
  z20 := Try.sizeOf20
  v20 := Try.zeroValue20
  t23 := Try.underlying61
  a23 := Try.isAgg61
  z23 := Try.sizeOf61
  v23 := Try.zeroValue61 }
def Try.clG_ren : Go.Shelf.Ren := ⟨fun | 5 => 41 | 7 => 68 | n => n, fun | 23 => 63 | 25 => 9 | 3 => 28 | 4 => 4 | 20 => 20 | n => n, fun | n => n⟩
theorem Try.clG : Go.Proofs.SlLaysW.n5 Try.prog Try.clG_ren := {
  mixed := by kernel_rfl
  f5 := ⟨Try.f41.name, by decide, Try.func41.trans (congrArg some (by kernel_rfl))⟩
  f7 := Try.func68.trans (congrArg some (by kernel_rfl))
  t4 := Try.underlying4
  a4 := Try.isAgg4
  z4 := Try.sizeOf4
  v4 := Try.zeroValue4
  t20 := Try.underlying20
  a20 := Try.isAgg20
  z20 := Try.sizeOf20
  v20 := Try.zeroValue20
  t23 := Try.underlying63
  a23 := Try.isAgg63
  z23 := Try.sizeOf63
  v23 := Try.zeroValue63 }
end Go.Proofs
