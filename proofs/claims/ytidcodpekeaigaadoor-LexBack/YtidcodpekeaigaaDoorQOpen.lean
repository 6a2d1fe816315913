/- Two closed facts about the program as it was laid. -/
import Derived.Test.YtidcodpekeaigaaDoorRows
import Derived.Test.YtidcodpekeaigaaDoorLaw
import Derived.ProofKit
import Derived.OpenShut
import Derived.ShutString
import Derived.ChangeOld
import Derived.SizedLaws
namespace Go.Proofs.YtidcodpekeaigaaDoor

theorem own : ownKnob Tryd.prog.godebug = none := by kernel_rfl
theorem laidOut : laidOutB Tryd.prog = true := by kernel_rfl

end Go.Proofs.YtidcodpekeaigaaDoor
