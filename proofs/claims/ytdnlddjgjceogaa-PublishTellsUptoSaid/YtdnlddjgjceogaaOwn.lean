/- Two closed facts on the program, that each law's frame names. Conditions: none. -/
import Derived.Test.YtdnlddjgjceogaaRows
import Derived.ProofKit
import Derived.ChangeOld
import Derived.OpenShut
import Derived.Carry
namespace Go.Proofs.Ytdnlddjgjceogaa

theorem Try.own : ownKnob Try.prog.godebug = none := by kernel_rfl
theorem Try.laidOut : laidOutB Try.prog = true := by kernel_rfl

end Go.Proofs.Ytdnlddjgjceogaa
