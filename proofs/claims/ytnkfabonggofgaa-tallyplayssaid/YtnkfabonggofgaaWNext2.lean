/-
  vec.Next: one more.
-/
import Derived.Test.YtnkfabonggofgaaWNext
namespace Go.Proofs.Ytnkfabonggofgaa
open Go.RowKit Go.Lib
set_option linter.unusedVariables false

end Go.Proofs.Ytnkfabonggofgaa
