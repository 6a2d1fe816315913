/- What wire.Put does, for every slice of bytes and every int: the bytes, and behind them those of the number (0, if it is below 0), in a new row; nothing old turns. -/
import Derived.Test.YtkmnhpnlkmiiiaaDoorPutn
namespace Go.Proofs.YtkmnhpnlkmiiiaaDoor
open Go.RowKit Num
set_option maxRecDepth 20000

end Go.Proofs.YtkmnhpnlkmiiiaaDoor
