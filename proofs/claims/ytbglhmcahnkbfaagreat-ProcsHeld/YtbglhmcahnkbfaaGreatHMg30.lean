/- Texts of this seat, merged. -/
import Derived.Test.YtbglhmcahnkbfaaGreatHMg1
import Derived.Lib.AppendZeros
import Derived.Lib.AppendZerosOnto

/- 'append(b, make([]byte, k)...)' to bytes that are owned: noughts behind them. -/
namespace Go.Proofs.YtbglhmcahnkbfaaGreat
open Go.RowKit
set_option linter.unusedVariables false

end Go.Proofs.YtbglhmcahnkbfaaGreat
