/- Texts of this seat, merged. -/
import Derived.Test.YtbglhmcahnkbfaaGreatChecked
import Derived.Test.YtbglhmcahnkbfaaGreatHMg1

/- What bytes.Clone (and slices.Clone of bytes) does: nil of nil; else a new row with the same bytes; nothing old turns. -/
namespace Go.Proofs.YtbglhmcahnkbfaaGreat
open Go.RowKit
set_option maxRecDepth 20000

theorem Tryz.cinfo5 : (Tryz.prog.info? 5).map (fun i => (i.zero, i.size, i.bytes)) = some (some (.int .u8 0), 1, 1) := by kernel_rfl

end Go.Proofs.YtbglhmcahnkbfaaGreat
