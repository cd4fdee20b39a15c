/-
  bytes.Clone.
-/
import Derived.Test.YtoglhhoniojbaaaBKit
import Derived.Lib.SliceRun
namespace Go.Proofs.Ytoglhhoniojbaaa
open Go.RowKit Go.Lib
set_option linter.unusedVariables false

end Go.Proofs.Ytoglhhoniojbaaa
