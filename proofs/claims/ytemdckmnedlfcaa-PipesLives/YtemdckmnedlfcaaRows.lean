/-
  No cell of these rows narrows 'for every input' (looked for: loops, veiled, ifaces, maps, wideKeys, modest, calm, conditions, laid).
  DERIVED. THE GIVEN ROWS OF THIS SEAT. 5 by the template 'for every input the law returns true; each argument reads behind the call as it read before'; 0 by the template 'total and deterministic' (their statements: YtemdckmnedlfcaaTotals.lean).
  GIVEN WITH THE SEED: the statements are not yours to turn. If you find one false, say at which input.
  Laid BY PROGRAM, IN A SANDBOX (cutbox-rows.mjs): the forced cells as the released guide's own fill.sh prints them over the translation 80b6b4455cbb86fd… (all of the seat's roots in one cut). By AI agents, Wed Nov 11 2026. No macro, syntax, notation, axiom, sorry.
-/
import Derived.Test.YtemdckmnedlfcaaChecked
import GoSem.Claim
import GoSem.ClaimJoined
import GoSem.ClaimMapViews
import Derived.JoinedTies
import Derived.KernelRfl
namespace Go.Proofs.Ytemdckmnedlfcaa
/- THE CELL 'sum', in the pinned program and in every row, IS THE sha256 OF THE DUMP (.gsa) THAT YtemdckmnedlfcaaProg.lean LOADS. Nothing in Lean hashes anything: it is a label: what it is worth is what the hold of that sum in a sandbox is worth. -/
noncomputable def Try.pinned : Pinned := { name := "ytemdckmnedlfcaa", sum := "80b6b4455cbb86fddb27011b7a705e92a4af4a8543c986642b7b081aa6d94df3", checked := Try.checked }
namespace Rows
def none {H : Type} : Left H := { results := [], args := [] }

/-- 'dredgerlaw07.PipesLives': WHATEVER THE INPUT: true; the input reads as it did. -/
def pipesLivesSpec : ChangeSpec := { name := "pipesLives", fn := fun _ => fun
  | [d1, d2] => { results := [.lit (.bool true)], args := [d1, d2] }
  | _ => none }
def pipesLivesRow : OpenClaim := { program := "ytemdckmnedlfcaa", sum := "80b6b4455cbb86fddb27011b7a705e92a4af4a8543c986642b7b081aa6d94df3", func := "dredger/dredgerlaw07.PipesLives", spec := "pipesLives", apart := false }
def PipesLivesSaid : Prop := pipesLivesRow.holds Try.pinned (OpenSpec.ofChange pipesLivesSpec)

/-- ITS FALSE NEIGHBOUR: 'it returns false'. Refute it at one input. -/
def pipesLivesWrong : ChangeSpec := { name := "pipesLives", fn := fun _ => fun
  | [d1, d2] => { results := [.lit (.bool false)], args := [d1, d2] }
  | _ => none }
def PipesLivesWrongFalsely : Prop := pipesLivesRow.holds Try.pinned (OpenSpec.ofChange pipesLivesWrong)

/-- 'dredgerlaw07.PipesOrder': WHATEVER THE INPUT: true; the input reads as it did. -/
def pipesOrderSpec : ChangeSpec := { name := "pipesOrder", fn := fun _ => fun
  | [d] => { results := [.lit (.bool true)], args := [d] }
  | _ => none }
def pipesOrderRow : OpenClaim := { program := "ytemdckmnedlfcaa", sum := "80b6b4455cbb86fddb27011b7a705e92a4af4a8543c986642b7b081aa6d94df3", func := "dredger/dredgerlaw07.PipesOrder", spec := "pipesOrder", apart := false }
def PipesOrderSaid : Prop := pipesOrderRow.holds Try.pinned (OpenSpec.ofChange pipesOrderSpec)

/-- ITS FALSE NEIGHBOUR: 'it returns false'. Refute it at one input. -/
def pipesOrderWrong : ChangeSpec := { name := "pipesOrder", fn := fun _ => fun
  | [d] => { results := [.lit (.bool false)], args := [d] }
  | _ => none }
def PipesOrderWrongFalsely : Prop := pipesOrderRow.holds Try.pinned (OpenSpec.ofChange pipesOrderWrong)

/-- 'dredgerlaw07.PipesEnds': WHATEVER THE INPUT: true; the input reads as it did. -/
def pipesEndsSpec : ChangeSpec := { name := "pipesEnds", fn := fun _ => fun
  | [d1, d2] => { results := [.lit (.bool true)], args := [d1, d2] }
  | _ => none }
def pipesEndsRow : OpenClaim := { program := "ytemdckmnedlfcaa", sum := "80b6b4455cbb86fddb27011b7a705e92a4af4a8543c986642b7b081aa6d94df3", func := "dredger/dredgerlaw07.PipesEnds", spec := "pipesEnds", apart := false }
def PipesEndsSaid : Prop := pipesEndsRow.holds Try.pinned (OpenSpec.ofChange pipesEndsSpec)

/-- ITS FALSE NEIGHBOUR: 'it returns false'. Refute it at one input. -/
def pipesEndsWrong : ChangeSpec := { name := "pipesEnds", fn := fun _ => fun
  | [d1, d2] => { results := [.lit (.bool false)], args := [d1, d2] }
  | _ => none }
def PipesEndsWrongFalsely : Prop := pipesEndsRow.holds Try.pinned (OpenSpec.ofChange pipesEndsWrong)

/-- 'dredgerlaw07.PipesCount': WHATEVER THE INPUT: true; the input reads as it did. -/
def pipesCountSpec : ChangeSpec := { name := "pipesCount", fn := fun _ => fun
  | [d] => { results := [.lit (.bool true)], args := [d] }
  | _ => none }
def pipesCountRow : OpenClaim := { program := "ytemdckmnedlfcaa", sum := "80b6b4455cbb86fddb27011b7a705e92a4af4a8543c986642b7b081aa6d94df3", func := "dredger/dredgerlaw07.PipesCount", spec := "pipesCount", apart := false }
def PipesCountSaid : Prop := pipesCountRow.holds Try.pinned (OpenSpec.ofChange pipesCountSpec)

/-- ITS FALSE NEIGHBOUR: 'it returns false'. Refute it at one input. -/
def pipesCountWrong : ChangeSpec := { name := "pipesCount", fn := fun _ => fun
  | [d] => { results := [.lit (.bool false)], args := [d] }
  | _ => none }
def PipesCountWrongFalsely : Prop := pipesCountRow.holds Try.pinned (OpenSpec.ofChange pipesCountWrong)

/-- 'dredgerlaw07.PipesNobody': WHATEVER THE INPUT: true; the input reads as it did. -/
def pipesNobodySpec : ChangeSpec := { name := "pipesNobody", fn := fun _ => fun
  | [d] => { results := [.lit (.bool true)], args := [d] }
  | _ => none }
def pipesNobodyRow : OpenClaim := { program := "ytemdckmnedlfcaa", sum := "80b6b4455cbb86fddb27011b7a705e92a4af4a8543c986642b7b081aa6d94df3", func := "dredger/dredgerlaw07.PipesNobody", spec := "pipesNobody", apart := false }
def PipesNobodySaid : Prop := pipesNobodyRow.holds Try.pinned (OpenSpec.ofChange pipesNobodySpec)

/-- ITS FALSE NEIGHBOUR: 'it returns false'. Refute it at one input. -/
def pipesNobodyWrong : ChangeSpec := { name := "pipesNobody", fn := fun _ => fun
  | [d] => { results := [.lit (.bool false)], args := [d] }
  | _ => none }
def PipesNobodyWrongFalsely : Prop := pipesNobodyRow.holds Try.pinned (OpenSpec.ofChange pipesNobodyWrong)

/- THE SECOND FORM. 'bulk': how many values and letters a reading holds, each counted each time it is reached (what is shared counts as often as it is met; a slice's spare places count too). A statement '..UptoSaid' is the law's where the arguments, and the package variables that the reading takes, are together of bulk at most 1048576: NARROWER than '..Said'. Prove '..Said' where nothing that the law and all that it calls make is longer than what came in: it says more and counts as full. Else prove '..UptoSaid'. A law counts once. -/
mutual
def uptoBulk {H : Type} : DataW H → Nat
  | .lit (.string bytes) => bytes.length + 1
  | .lit _ => 1
  | .nil => 1
  | .ptr d => uptoBulk d + 1
  | .slice elems spare => uptoBulkAll elems + uptoBulkAll spare + 1
  | .agg parts => uptoBulkAll parts + 1
  | .iface _ d => uptoBulk d + 1
  | .map entries => uptoBulkEntries entries + 1
  | .held _ => 1
def uptoBulkAll {H : Type} : List (DataW H) → Nat
  | [] => 0
  | d :: r => uptoBulk d + uptoBulkAll r
def uptoBulkEntries {H : Type} : List (Lit × DataW H) → Nat
  | [] => 0
  | x :: r => uptoBulkEntry x + uptoBulkEntries r
def uptoBulkEntry {H : Type} : Lit × DataW H → Nat
  | (.string bytes, d) => bytes.length + uptoBulk d + 1
  | (_, d) => uptoBulk d + 1
 end
def uptoSmall : (H : Type) → List (DataW H) → Bool := fun _ ds => decide (uptoBulkAll ds ≤ 1048576)
def OpenSpec.upto (s : _root_.Go.ChangeSpec) : _root_.Go.OpenSpec := { _root_.Go.OpenSpec.ofChange s with cond := some uptoSmall }

/-- 'dredgerlaw07.PipesLives', WHERE WHAT IT READS IS OF BULK AT MOST 1048576: true; the input reads as it did. -/
def pipesLivesUptoRow : OpenClaim := { program := "ytemdckmnedlfcaa", sum := "80b6b4455cbb86fddb27011b7a705e92a4af4a8543c986642b7b081aa6d94df3", func := "dredger/dredgerlaw07.PipesLives", spec := "pipesLives", apart := false, narrowed := true }
def PipesLivesUptoSaid : Prop := pipesLivesUptoRow.holds Try.pinned (OpenSpec.upto pipesLivesSpec)

/-- 'dredgerlaw07.PipesOrder', WHERE WHAT IT READS IS OF BULK AT MOST 1048576: true; the input reads as it did. -/
def pipesOrderUptoRow : OpenClaim := { program := "ytemdckmnedlfcaa", sum := "80b6b4455cbb86fddb27011b7a705e92a4af4a8543c986642b7b081aa6d94df3", func := "dredger/dredgerlaw07.PipesOrder", spec := "pipesOrder", apart := false, narrowed := true }
def PipesOrderUptoSaid : Prop := pipesOrderUptoRow.holds Try.pinned (OpenSpec.upto pipesOrderSpec)

/-- 'dredgerlaw07.PipesEnds', WHERE WHAT IT READS IS OF BULK AT MOST 1048576: true; the input reads as it did. -/
def pipesEndsUptoRow : OpenClaim := { program := "ytemdckmnedlfcaa", sum := "80b6b4455cbb86fddb27011b7a705e92a4af4a8543c986642b7b081aa6d94df3", func := "dredger/dredgerlaw07.PipesEnds", spec := "pipesEnds", apart := false, narrowed := true }
def PipesEndsUptoSaid : Prop := pipesEndsUptoRow.holds Try.pinned (OpenSpec.upto pipesEndsSpec)

/-- 'dredgerlaw07.PipesCount', WHERE WHAT IT READS IS OF BULK AT MOST 1048576: true; the input reads as it did. -/
def pipesCountUptoRow : OpenClaim := { program := "ytemdckmnedlfcaa", sum := "80b6b4455cbb86fddb27011b7a705e92a4af4a8543c986642b7b081aa6d94df3", func := "dredger/dredgerlaw07.PipesCount", spec := "pipesCount", apart := false, narrowed := true }
def PipesCountUptoSaid : Prop := pipesCountUptoRow.holds Try.pinned (OpenSpec.upto pipesCountSpec)

/-- 'dredgerlaw07.PipesNobody', WHERE WHAT IT READS IS OF BULK AT MOST 1048576: true; the input reads as it did. -/
def pipesNobodyUptoRow : OpenClaim := { program := "ytemdckmnedlfcaa", sum := "80b6b4455cbb86fddb27011b7a705e92a4af4a8543c986642b7b081aa6d94df3", func := "dredger/dredgerlaw07.PipesNobody", spec := "pipesNobody", apart := false, narrowed := true }
def PipesNobodyUptoSaid : Prop := pipesNobodyUptoRow.holds Try.pinned (OpenSpec.upto pipesNobodySpec)

end Rows
end Go.Proofs.Ytemdckmnedlfcaa
