/-
  Two clocks compared by '=='.
-/
import Derived.Test.YtebfhomopdnkkaaWVec
import Derived.Laws.StructEq
import Derived.ChangeKeysEq
namespace Go.Proofs.Ytebfhomopdnkkaa
open Go.RowKit Go.Lib
set_option linter.unusedVariables false

end Go.Proofs.Ytebfhomopdnkkaa
