/- Texts of this seat, merged. -/
import Derived.Test.YtbglhmcahnkbfaaGreatHMg8
import Derived.OwnWalk

/- What the program's Read and Write do. -/
namespace Go.Proofs.YtbglhmcahnkbfaaGreat.Pi
open Go.RowKit Lend
set_option linter.unusedVariables false
set_option maxRecDepth 20000

end Go.Proofs.YtbglhmcahnkbfaaGreat.Pi

/- What the program's Look does: the pipes that are there, by their numbers. -/
namespace Go.Proofs.YtbglhmcahnkbfaaGreat.Pi
open Go.RowKit Lend
set_option linter.unusedVariables false
set_option maxRecDepth 20000

/-- What Look tells of one. -/
def infoCells (i : Nat) (x : Pp) : List Value := [.int .i64 i, .int .i64 x.r, .int .i64 x.w, .int .i64 x.q.length]
/-- How many of the first n are there. -/
def countP (P : Nat → Pp) : Nat → Nat
  | 0 => 0
  | n + 1 => if (P n).there then countP P n + 1 else countP P n
/-- What Look tells of the first n. -/
def looks (P : Nat → Pp) : Nat → List Value
  | 0 => []
  | n + 1 => if (P n).there then looks P n ++ infoCells n (P n) else looks P n
end Go.Proofs.YtbglhmcahnkbfaaGreat.Pi
