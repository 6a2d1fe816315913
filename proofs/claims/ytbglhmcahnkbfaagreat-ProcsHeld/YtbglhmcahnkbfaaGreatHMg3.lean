/- Texts of this seat, merged. -/
import Derived.Test.YtbglhmcahnkbfaaGreatRows
import Derived.Test.YtbglhmcahnkbfaaGreatHMg1
import Derived.Test.YtbglhmcahnkbfaaGreatHMg2
import Derived.ProofKit
import Derived.OpenShut
import Derived.ShutString
import Derived.ChangeOld
import Derived.SizedLaws

/- An argument of type []byte, opened: the numbers that it holds, how they lie, and how many there can be. -/
namespace Go.Proofs.YtbglhmcahnkbfaaGreat
open Go.ChangeShapes Go.WideShapes Go.ChangeAt Go.RowKit Lend

theorem own : ownKnob Tryz.prog.godebug = none := by kernel_rfl
theorem laidOut : laidOutB Tryz.prog = true := by kernel_rfl
end Go.Proofs.YtbglhmcahnkbfaaGreat
