/-
  vec.Next: one more.
-/
import Derived.Test.YtglmmhgmdhdleaaWNext
namespace Go.Proofs.Ytglmmhgmdhdleaa
open Go.RowKit Go.Lib
set_option linter.unusedVariables false

end Go.Proofs.Ytglmmhgmdhdleaa
