/- What disk.New does, in the words of a disk. -/
import Derived.Test.YtkmnhpnlkmiiiaaDoorDNew2
import Derived.Test.YtkmnhpnlkmiiiaaDoorDsk
namespace Go.Proofs.YtkmnhpnlkmiiiaaDoor
open Go.RowKit
set_option linter.unusedVariables false

end Go.Proofs.YtkmnhpnlkmiiiaaDoor
