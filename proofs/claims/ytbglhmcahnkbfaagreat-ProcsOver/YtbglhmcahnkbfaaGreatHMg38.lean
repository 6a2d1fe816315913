/- Texts of this seat, merged. -/
import Derived.Test.YtbglhmcahnkbfaaGreatHMg37
import Derived.Test.YtbglhmcahnkbfaaGreatHMg33
import Derived.Test.YtbglhmcahnkbfaaGreatHMg22
import Derived.Test.YtbglhmcahnkbfaaGreatHMg18
import Derived.Deep.DeepCutAuto
import Derived.Test.YtbglhmcahnkbfaaGreatHMg21

/- What a node's look tells, of any node. (Written by gen_np23.py.) -/
namespace Go.Proofs.YtbglhmcahnkbfaaGreat
open Go.RowKit Go.ChangeMaps Go.MapKept
set_option linter.unusedVariables false
set_option maxRecDepth 20000

end Go.Proofs.YtbglhmcahnkbfaaGreat

/- What Look of the program's system tells. -/
namespace Go.Proofs.YtbglhmcahnkbfaaGreat
open Go.RowKit Go.ChangeMaps Go.MapKept
set_option linter.unusedVariables false
set_option maxRecDepth 20000

end Go.Proofs.YtbglhmcahnkbfaaGreat

/- Blocks of the program's system, with what it tells. (Written by gen_np25.py.) -/
namespace Go.Proofs.YtbglhmcahnkbfaaGreat
open Go.RowKit Go.ChangeMaps Go.MapKept
set_option linter.unusedVariables false
set_option maxRecDepth 20000

end Go.Proofs.YtbglhmcahnkbfaaGreat
