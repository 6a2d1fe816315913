/- Texts of this seat, merged. -/
import Derived.Test.YtbglhmcahnkbfaaGreatHMg22
import Derived.Test.YtbglhmcahnkbfaaGreatHMg36
import Derived.Test.YtbglhmcahnkbfaaGreatHMg31
import Derived.Sort.Walk0

/- The names of a directory, sorted, as the program tells them. -/
namespace Go.Proofs.YtbglhmcahnkbfaaGreat
open Go.RowKit Go.ChangeMaps Go.MapKept Go.Maps Go.Sort
set_option linter.unusedVariables false
set_option maxRecDepth 20000

section
variable {H : Type} {D : DataW H} {w : World} {b n : Nat} {R : Value → Option (DataW H × List MemPlace)}
end

end Go.Proofs.YtbglhmcahnkbfaaGreat
