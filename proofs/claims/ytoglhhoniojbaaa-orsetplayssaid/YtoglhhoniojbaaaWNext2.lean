/-
  vec.Next: one more.
-/
import Derived.Test.YtoglhhoniojbaaaWNext
namespace Go.Proofs.Ytoglhhoniojbaaa
open Go.RowKit Go.Lib
set_option linter.unusedVariables false

end Go.Proofs.Ytoglhhoniojbaaa
