/-
  NARROWER THAN 'FOR EVERY INPUT', by the rows' own cells (each row's printed sentence says how): DrawWeights: loops · DrawPicks: loops · DrawAll: loops.
  DERIVED. THE GIVEN ROWS OF THIS SEAT. 6 by the template 'for every input the law returns true; each argument reads behind the call as it read before'; 0 by the template 'total and deterministic' (their statements: YtmieoihjgckfhaaTotals.lean).
  GIVEN WITH THE SEED: the statements are not yours to turn. If you find one false, say at which input.
  Laid BY PROGRAM, IN A SANDBOX (cutbox-rows.mjs): the forced cells as the released guide's own fill.sh prints them over the translation 3d19455fcbe41be9… (all of the seat's roots in one cut). By AI agents, Wed Nov 11 2026. No macro, syntax, notation, axiom, sorry.
-/
import Derived.Test.YtmieoihjgckfhaaChecked
import GoSem.Claim
import GoSem.ClaimJoined
import GoSem.ClaimMapViews
import Derived.JoinedTies
import Derived.KernelRfl
namespace Go.Proofs.Ytmieoihjgckfhaa
/- THE CELL 'sum', in the pinned program and in every row, IS THE sha256 OF THE DUMP (.gsa) THAT YtmieoihjgckfhaaProg.lean LOADS. Nothing in Lean hashes anything: it is a label: what it is worth is what the hold of that sum in a sandbox is worth. -/
noncomputable def Try.pinned : Pinned := { name := "ytmieoihjgckfhaa", sum := "3d19455fcbe41be9483fdce2fe4430517da32d3803ad22d2d55fb3310c8167c7", checked := Try.checked }
namespace Rows
def none {H : Type} : Left H := { results := [], args := [] }

/-- 'dredgerlaw19.DrawNext': WHATEVER THE INPUT: true; the input reads as it did. -/
def drawNextSpec : ChangeSpec := { name := "drawNext", fn := fun _ => fun
  | [d1, d2] => { results := [.lit (.bool true)], args := [d1, d2] }
  | _ => none }
def drawNextRow : OpenClaim := { program := "ytmieoihjgckfhaa", sum := "3d19455fcbe41be9483fdce2fe4430517da32d3803ad22d2d55fb3310c8167c7", func := "dredger/dredgerlaw19.DrawNext", spec := "drawNext", plainKeys := false, apart := false }
def DrawNextSaid : Prop := drawNextRow.holds Try.pinned (OpenSpec.ofChange drawNextSpec)

/-- ITS FALSE NEIGHBOUR: 'it returns false'. Refute it at one input. -/
def drawNextWrong : ChangeSpec := { name := "drawNext", fn := fun _ => fun
  | [d1, d2] => { results := [.lit (.bool false)], args := [d1, d2] }
  | _ => none }
def DrawNextWrongFalsely : Prop := drawNextRow.holds Try.pinned (OpenSpec.ofChange drawNextWrong)

/-- 'dredgerlaw19.DrawWeights': WHATEVER THE INPUT: true; the input reads as it did. -/
def drawWeightsSpec : ChangeSpec := { name := "drawWeights", fn := fun _ => fun
  | [d1, d2, d3, d4] => { results := [.lit (.bool true)], args := [d1, d2, d3, d4] }
  | _ => none }
def drawWeightsRow : OpenClaim := { program := "ytmieoihjgckfhaa", sum := "3d19455fcbe41be9483fdce2fe4430517da32d3803ad22d2d55fb3310c8167c7", func := "dredger/dredgerlaw19.DrawWeights", spec := "drawWeights", loops := true, plainKeys := false, apart := false }
def DrawWeightsSaid : Prop := drawWeightsRow.holds Try.pinned (OpenSpec.ofChange drawWeightsSpec)

/-- ITS FALSE NEIGHBOUR: 'it returns false'. Refute it at one input. -/
def drawWeightsWrong : ChangeSpec := { name := "drawWeights", fn := fun _ => fun
  | [d1, d2, d3, d4] => { results := [.lit (.bool false)], args := [d1, d2, d3, d4] }
  | _ => none }
def DrawWeightsWrongFalsely : Prop := drawWeightsRow.holds Try.pinned (OpenSpec.ofChange drawWeightsWrong)

/-- 'dredgerlaw19.DrawPicks': WHATEVER THE INPUT: true; the input reads as it did. -/
def drawPicksSpec : ChangeSpec := { name := "drawPicks", fn := fun _ => fun
  | [d1, d2, d3, d4] => { results := [.lit (.bool true)], args := [d1, d2, d3, d4] }
  | _ => none }
def drawPicksRow : OpenClaim := { program := "ytmieoihjgckfhaa", sum := "3d19455fcbe41be9483fdce2fe4430517da32d3803ad22d2d55fb3310c8167c7", func := "dredger/dredgerlaw19.DrawPicks", spec := "drawPicks", loops := true, plainKeys := false, apart := false }
def DrawPicksSaid : Prop := drawPicksRow.holds Try.pinned (OpenSpec.ofChange drawPicksSpec)

/-- ITS FALSE NEIGHBOUR: 'it returns false'. Refute it at one input. -/
def drawPicksWrong : ChangeSpec := { name := "drawPicks", fn := fun _ => fun
  | [d1, d2, d3, d4] => { results := [.lit (.bool false)], args := [d1, d2, d3, d4] }
  | _ => none }
def DrawPicksWrongFalsely : Prop := drawPicksRow.holds Try.pinned (OpenSpec.ofChange drawPicksWrong)

/-- 'dredgerlaw19.DrawAll': WHATEVER THE INPUT: true; the input reads as it did. -/
def drawAllSpec : ChangeSpec := { name := "drawAll", fn := fun _ => fun
  | [d1, d2, d3] => { results := [.lit (.bool true)], args := [d1, d2, d3] }
  | _ => none }
def drawAllRow : OpenClaim := { program := "ytmieoihjgckfhaa", sum := "3d19455fcbe41be9483fdce2fe4430517da32d3803ad22d2d55fb3310c8167c7", func := "dredger/dredgerlaw19.DrawAll", spec := "drawAll", loops := true, plainKeys := false, apart := false }
def DrawAllSaid : Prop := drawAllRow.holds Try.pinned (OpenSpec.ofChange drawAllSpec)

/-- ITS FALSE NEIGHBOUR: 'it returns false'. Refute it at one input. -/
def drawAllWrong : ChangeSpec := { name := "drawAll", fn := fun _ => fun
  | [d1, d2, d3] => { results := [.lit (.bool false)], args := [d1, d2, d3] }
  | _ => none }
def DrawAllWrongFalsely : Prop := drawAllRow.holds Try.pinned (OpenSpec.ofChange drawAllWrong)

/-- 'dredgerlaw19.DrawNoughts': WHATEVER THE INPUT: true; the input reads as it did. -/
def drawNoughtsSpec : ChangeSpec := { name := "drawNoughts", fn := fun _ => fun
  | [d1, d2, d3] => { results := [.lit (.bool true)], args := [d1, d2, d3] }
  | _ => none }
def drawNoughtsRow : OpenClaim := { program := "ytmieoihjgckfhaa", sum := "3d19455fcbe41be9483fdce2fe4430517da32d3803ad22d2d55fb3310c8167c7", func := "dredger/dredgerlaw19.DrawNoughts", spec := "drawNoughts", plainKeys := false, apart := false }
def DrawNoughtsSaid : Prop := drawNoughtsRow.holds Try.pinned (OpenSpec.ofChange drawNoughtsSpec)

/-- ITS FALSE NEIGHBOUR: 'it returns false'. Refute it at one input. -/
def drawNoughtsWrong : ChangeSpec := { name := "drawNoughts", fn := fun _ => fun
  | [d1, d2, d3] => { results := [.lit (.bool false)], args := [d1, d2, d3] }
  | _ => none }
def DrawNoughtsWrongFalsely : Prop := drawNoughtsRow.holds Try.pinned (OpenSpec.ofChange drawNoughtsWrong)

/-- 'dredgerlaw19.DrawNobody': WHATEVER THE INPUT: true; the input reads as it did. -/
def drawNobodySpec : ChangeSpec := { name := "drawNobody", fn := fun _ => fun
  | [d] => { results := [.lit (.bool true)], args := [d] }
  | _ => none }
def drawNobodyRow : OpenClaim := { program := "ytmieoihjgckfhaa", sum := "3d19455fcbe41be9483fdce2fe4430517da32d3803ad22d2d55fb3310c8167c7", func := "dredger/dredgerlaw19.DrawNobody", spec := "drawNobody", plainKeys := false, apart := false }
def DrawNobodySaid : Prop := drawNobodyRow.holds Try.pinned (OpenSpec.ofChange drawNobodySpec)

/-- ITS FALSE NEIGHBOUR: 'it returns false'. Refute it at one input. -/
def drawNobodyWrong : ChangeSpec := { name := "drawNobody", fn := fun _ => fun
  | [d] => { results := [.lit (.bool false)], args := [d] }
  | _ => none }
def DrawNobodyWrongFalsely : Prop := drawNobodyRow.holds Try.pinned (OpenSpec.ofChange drawNobodyWrong)

/- THE SECOND FORM. 'bulk': how many values and letters a reading holds, each counted each time it is reached (what is shared counts as often as it is met; a slice's spare places count too). A statement '..UptoSaid' is the law's where the arguments, and the package variables that the reading takes, are together of bulk at most 1048576: NARROWER than '..Said'. Prove '..Said' where nothing that the law and all that it calls make is longer than what came in: it says more and counts as full. Else prove '..UptoSaid'. A law counts once. -/
mutual
def uptoBulk {H : Type} : DataW H → Nat
  | .lit (.string bytes) => bytes.length + 1
  | .lit _ => 1
  | .nil => 1
  | .ptr d => uptoBulk d + 1
  | .slice elems spare => uptoBulkAll elems + uptoBulkAll spare + 1
  | .agg parts => uptoBulkAll parts + 1
  | .iface _ d => uptoBulk d + 1
  | .map entries => uptoBulkEntries entries + 1
  | .held _ => 1
def uptoBulkAll {H : Type} : List (DataW H) → Nat
  | [] => 0
  | d :: r => uptoBulk d + uptoBulkAll r
def uptoBulkEntries {H : Type} : List (Lit × DataW H) → Nat
  | [] => 0
  | x :: r => uptoBulkEntry x + uptoBulkEntries r
def uptoBulkEntry {H : Type} : Lit × DataW H → Nat
  | (.string bytes, d) => bytes.length + uptoBulk d + 1
  | (_, d) => uptoBulk d + 1
 end
def uptoSmall : (H : Type) → List (DataW H) → Bool := fun _ ds => decide (uptoBulkAll ds ≤ 1048576)
def OpenSpec.upto (s : _root_.Go.ChangeSpec) : _root_.Go.OpenSpec := { _root_.Go.OpenSpec.ofChange s with cond := some uptoSmall }

/-- 'dredgerlaw19.DrawNext', WHERE WHAT IT READS IS OF BULK AT MOST 1048576: true; the input reads as it did. -/
def drawNextUptoRow : OpenClaim := { program := "ytmieoihjgckfhaa", sum := "3d19455fcbe41be9483fdce2fe4430517da32d3803ad22d2d55fb3310c8167c7", func := "dredger/dredgerlaw19.DrawNext", spec := "drawNext", plainKeys := false, apart := false, narrowed := true }
def DrawNextUptoSaid : Prop := drawNextUptoRow.holds Try.pinned (OpenSpec.upto drawNextSpec)

/-- 'dredgerlaw19.DrawWeights', WHERE WHAT IT READS IS OF BULK AT MOST 1048576: true; the input reads as it did. -/
def drawWeightsUptoRow : OpenClaim := { program := "ytmieoihjgckfhaa", sum := "3d19455fcbe41be9483fdce2fe4430517da32d3803ad22d2d55fb3310c8167c7", func := "dredger/dredgerlaw19.DrawWeights", spec := "drawWeights", loops := true, plainKeys := false, apart := false, narrowed := true }
def DrawWeightsUptoSaid : Prop := drawWeightsUptoRow.holds Try.pinned (OpenSpec.upto drawWeightsSpec)

/-- 'dredgerlaw19.DrawPicks', WHERE WHAT IT READS IS OF BULK AT MOST 1048576: true; the input reads as it did. -/
def drawPicksUptoRow : OpenClaim := { program := "ytmieoihjgckfhaa", sum := "3d19455fcbe41be9483fdce2fe4430517da32d3803ad22d2d55fb3310c8167c7", func := "dredger/dredgerlaw19.DrawPicks", spec := "drawPicks", loops := true, plainKeys := false, apart := false, narrowed := true }
def DrawPicksUptoSaid : Prop := drawPicksUptoRow.holds Try.pinned (OpenSpec.upto drawPicksSpec)

/-- 'dredgerlaw19.DrawAll', WHERE WHAT IT READS IS OF BULK AT MOST 1048576: true; the input reads as it did. -/
def drawAllUptoRow : OpenClaim := { program := "ytmieoihjgckfhaa", sum := "3d19455fcbe41be9483fdce2fe4430517da32d3803ad22d2d55fb3310c8167c7", func := "dredger/dredgerlaw19.DrawAll", spec := "drawAll", loops := true, plainKeys := false, apart := false, narrowed := true }
def DrawAllUptoSaid : Prop := drawAllUptoRow.holds Try.pinned (OpenSpec.upto drawAllSpec)

/-- 'dredgerlaw19.DrawNoughts', WHERE WHAT IT READS IS OF BULK AT MOST 1048576: true; the input reads as it did. -/
def drawNoughtsUptoRow : OpenClaim := { program := "ytmieoihjgckfhaa", sum := "3d19455fcbe41be9483fdce2fe4430517da32d3803ad22d2d55fb3310c8167c7", func := "dredger/dredgerlaw19.DrawNoughts", spec := "drawNoughts", plainKeys := false, apart := false, narrowed := true }
def DrawNoughtsUptoSaid : Prop := drawNoughtsUptoRow.holds Try.pinned (OpenSpec.upto drawNoughtsSpec)

/-- 'dredgerlaw19.DrawNobody', WHERE WHAT IT READS IS OF BULK AT MOST 1048576: true; the input reads as it did. -/
def drawNobodyUptoRow : OpenClaim := { program := "ytmieoihjgckfhaa", sum := "3d19455fcbe41be9483fdce2fe4430517da32d3803ad22d2d55fb3310c8167c7", func := "dredger/dredgerlaw19.DrawNobody", spec := "drawNobody", plainKeys := false, apart := false, narrowed := true }
def DrawNobodyUptoSaid : Prop := drawNobodyUptoRow.holds Try.pinned (OpenSpec.upto drawNobodySpec)

end Rows
end Go.Proofs.Ytmieoihjgckfhaa
