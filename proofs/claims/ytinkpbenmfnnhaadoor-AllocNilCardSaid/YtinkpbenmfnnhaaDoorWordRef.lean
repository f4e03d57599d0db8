/- The walks of the document's own header functions (demesneref01), and of Of. Conditions: as each theorem states them (the numbers are those of a uint8, of a uint64). -/
import Derived.Test.YtinkpbenmfnnhaaDoorWordC
namespace Go.Proofs.YtinkpbenmfnnhaaDoor.Wd
set_option linter.unusedVariables false
set_option linter.unusedSimpArgs false
open Go.RowKit

theorem ret_u64 {a b : Int} (h : a = b) : Ending.returned (.int .u64 a) = .returned (.int .u64 b) := by rw [h]
theorem ret_bool {a b : Bool} (h : a = b) : Ending.returned (.bool a) = .returned (.bool b) := by rw [h]

end Go.Proofs.YtinkpbenmfnnhaaDoor.Wd
