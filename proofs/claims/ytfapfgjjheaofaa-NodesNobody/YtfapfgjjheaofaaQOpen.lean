/- Two closed facts about the program as it was laid. -/
import Derived.Test.YtfapfgjjheaofaaRows
import Derived.Test.YtfapfgjjheaofaaLaw
import Derived.ProofKit
import Derived.OpenShut
import Derived.ShutString
import Derived.ChangeOld
import Derived.SizedLaws
namespace Go.Proofs.Ytfapfgjjheaofaa

theorem own : ownKnob Try.prog.godebug = none := by kernel_rfl
theorem laidOut : laidOutB Try.prog = true := by kernel_rfl

end Go.Proofs.Ytfapfgjjheaofaa
