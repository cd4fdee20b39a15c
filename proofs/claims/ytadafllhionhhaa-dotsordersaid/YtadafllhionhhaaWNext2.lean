/-
  vec.Next: one more.
-/
import Derived.Test.YtadafllhionhhaaWNext
namespace Go.Proofs.Ytadafllhionhhaa
open Go.RowKit Go.Lib
set_option linter.unusedVariables false

end Go.Proofs.Ytadafllhionhhaa
