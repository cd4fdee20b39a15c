/-
  vec.Next: one more.
-/
import Derived.Test.YtebfhomopdnkkaaWNext
namespace Go.Proofs.Ytebfhomopdnkkaa
open Go.RowKit Go.Lib
set_option linter.unusedVariables false

end Go.Proofs.Ytebfhomopdnkkaa
