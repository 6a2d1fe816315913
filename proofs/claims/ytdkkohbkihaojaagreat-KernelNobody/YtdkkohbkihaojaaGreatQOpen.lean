/- Two closed facts about the program as it was laid. -/
import Derived.Test.YtdkkohbkihaojaaGreatRows
import Derived.Test.YtdkkohbkihaojaaGreatLaw
import Derived.ProofKit
import Derived.OpenShut
import Derived.ShutString
import Derived.ChangeOld
import Derived.SizedLaws
namespace Go.Proofs.YtdkkohbkihaojaaGreat

theorem own : ownKnob Tryz.prog.godebug = none := by kernel_rfl
theorem laidOut : laidOutB Tryz.prog = true := by kernel_rfl

end Go.Proofs.YtdkkohbkihaojaaGreat
