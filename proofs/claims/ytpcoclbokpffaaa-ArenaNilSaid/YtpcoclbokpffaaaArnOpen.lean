/- Closed facts of the program of layer 2. Conditions: none. -/
import Derived.Test.YtpcoclbokpffaaaRows
import Derived.Test.YtpcoclbokpffaaaLaw
import Derived.ProofKit
namespace Go.Proofs.Ytpcoclbokpffaaa
open Go.ChangeShapes Go.WideShapes Go.ChangeAt Go.RowKit

theorem Try.own : ownKnob Try.prog.godebug = none := by kernel_rfl
theorem Try.laidOut : laidOutB Try.prog = true := by kernel_rfl

end Go.Proofs.Ytpcoclbokpffaaa
