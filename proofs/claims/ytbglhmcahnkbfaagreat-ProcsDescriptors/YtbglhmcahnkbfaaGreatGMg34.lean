/- Texts of this seat, merged. -/
import Derived.Test.YtbglhmcahnkbfaaGreatGMg32
import Derived.Test.YtbglhmcahnkbfaaGreatGMg23
import Derived.Test.YtbglhmcahnkbfaaGreatGMg28
import Derived.Test.YtbglhmcahnkbfaaGreatGMg26
import Derived.Test.YtbglhmcahnkbfaaGreatGMg33

/- What the calls of names do (program): ofOne, ofTwo, Name, find, Stat, Truncate. (Written by gen_tp11.py.) -/
namespace Go.Proofs.YtbglhmcahnkbfaaGreat
open Go.RowKit Go.ChangeMaps Go.MapKept
set_option linter.unusedVariables false
set_option maxRecDepth 20000

end Go.Proofs.YtbglhmcahnkbfaaGreat
