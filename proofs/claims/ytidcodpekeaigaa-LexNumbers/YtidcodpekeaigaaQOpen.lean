/- Two closed facts about the program as it was laid. -/
import Derived.Test.YtidcodpekeaigaaRows
import Derived.Test.YtidcodpekeaigaaLaw
import Derived.ProofKit
import Derived.OpenShut
import Derived.ShutString
import Derived.ChangeOld
import Derived.SizedLaws
namespace Go.Proofs.Ytidcodpekeaigaa

theorem own : ownKnob Try.prog.godebug = none := by kernel_rfl
theorem laidOut : laidOutB Try.prog = true := by kernel_rfl

end Go.Proofs.Ytidcodpekeaigaa
