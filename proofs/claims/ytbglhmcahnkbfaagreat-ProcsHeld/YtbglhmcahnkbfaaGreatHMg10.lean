/- Texts of this seat, merged. -/
import Derived.Test.YtbglhmcahnkbfaaGreatChecked
import Derived.Test.YtbglhmcahnkbfaaGreatHMg1
import Derived.Laws.BytesArg

/- What bytes.Equal does with bytes that are the same: it tells so; nothing turns. -/
namespace Go.Proofs.YtbglhmcahnkbfaaGreat
open Go.RowKit
set_option maxRecDepth 20000

end Go.Proofs.YtbglhmcahnkbfaaGreat
