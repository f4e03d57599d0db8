/- Two closed facts on the program, that each law's frame names. Conditions: none. -/
import Derived.Test.YtmbhhadghiojeaaGreatRows
import Derived.ProofKit
import Derived.ChangeOld
import Derived.OpenShut
import Derived.Carry
namespace Go.Proofs.YtmbhhadghiojeaaGreat

theorem Tryz.own : ownKnob Tryz.prog.godebug = none := by kernel_rfl
theorem Tryz.laidOut : laidOutB Tryz.prog = true := by kernel_rfl

end Go.Proofs.YtmbhhadghiojeaaGreat
