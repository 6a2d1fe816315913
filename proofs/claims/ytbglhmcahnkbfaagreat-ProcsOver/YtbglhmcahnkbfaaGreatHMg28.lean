/- Texts of this seat, merged. -/
import Derived.Test.YtbglhmcahnkbfaaGreatHMg27
import Derived.Deep.RegionLaw
import Derived.BigRegion

/- append onto an owned row as a step of a region that draws its order. -/
namespace Go.Proofs.YtbglhmcahnkbfaaGreat
open Go.RowKit
set_option linter.unusedVariables false

end Go.Proofs.YtbglhmcahnkbfaaGreat

/- The document's grow. -/
namespace Go.Proofs.YtbglhmcahnkbfaaGreat
open Go.RowKit
set_option linter.unusedVariables false
set_option maxRecDepth 20000

end Go.Proofs.YtbglhmcahnkbfaaGreat
