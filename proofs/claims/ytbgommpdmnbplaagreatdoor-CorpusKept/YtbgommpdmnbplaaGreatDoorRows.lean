/-
  NARROWER THAN 'FOR EVERY INPUT', by the rows' own cells (each row's printed sentence says how): CorpusLives: laid · CorpusGets: laid · CorpusKept: laid · CorpusFull: laid · CorpusPoints: laid · CorpusNobody: laid.
  DERIVED. THE GIVEN ROWS OF THIS SEAT. 6 by the template 'for every input the law returns true; each argument reads behind the call as it read before'; 0 by the template 'total and deterministic' (their statements: YtbgommpdmnbplaaGreatDoorTotals.lean).
  GIVEN WITH THE SEED: the statements are not yours to turn. If you find one false, say at which input.
  Laid BY PROGRAM, IN A SANDBOX (cutbox-rows.mjs): the forced cells as the released guide's own fill.sh prints them over the translation 98d1368c2f3b5941… (all of the seat's roots in one cut). By AI agents, Wed Nov 11 2026. No macro, syntax, notation, axiom, sorry.
-/
import Derived.Test.YtbgommpdmnbplaaGreatDoorChecked
import GoSem.Claim
import GoSem.ClaimJoined
import GoSem.ClaimMapViews
import Derived.JoinedTies
import Derived.KernelRfl
namespace Go.Proofs.YtbgommpdmnbplaaGreatDoor
/- THE CELL 'sum', in the pinned program and in every row, IS THE sha256 OF THE DUMP (.gsa) THAT YtbgommpdmnbplaaGreatDoorProg.lean LOADS. Nothing in Lean hashes anything: it is a label: what it is worth is what the hold of that sum in a sandbox is worth. -/
noncomputable def Tryz.pinned : Pinned := { name := "ytbgommpdmnbplaagreatdoor", sum := "98d1368c2f3b59410a98454d1576e321c584e2650f3cfc8af914ffa2d562ca5e", checked := Tryz.checked }
namespace Rows
def none {H : Type} : Left H := { results := [], args := [] }

/- WHAT THE LISTED PACKAGE-LEVEL VARIABLES READ AS WHEN THE CALL BEGINS. Each datum BY PROGRAM (the guide's laid-datum.mjs) off the statement by which the dump's own 'gosem.cut.vars' lays the variable. In a bare row this is a premise. The card (YtbgommpdmnbplaaGreatDoorCards.lean) ties it to the program's text. -/
def laid_errors_errorType {H : Type} : DataW H := .iface "internal/reflectlite.rtype" (.agg [.ptr (.lit (.string [101, 114, 114, 111, 114]))])
def laid_dredger_wire_quarter {H : Type} : DataW H := .agg [.lit (.int .u32 0), .lit (.int .u32 274646895), .lit (.int .u32 549293790), .lit (.int .u32 820201905), .lit (.int .u32 1098587580), .lit (.int .u32 1361435347), .lit (.int .u32 1640403810), .lit (.int .u32 1905808397), .lit (.int .u32 2197175160), .lit (.int .u32 2460548119), .lit (.int .u32 2722870694), .lit (.int .u32 2987750089), .lit (.int .u32 3280807620), .lit (.int .u32 3553878443), .lit (.int .u32 3811616794), .lit (.int .u32 4084100981)]

/-- 'dredgerlaw04.CorpusLives': WHATEVER THE INPUT: true; the input reads as it did. -/
def corpusLivesSpec : ChangeSpec := { name := "corpusLives", fn := fun _ => fun
  | [d1, d2] => { results := [.lit (.bool true)], args := [d1, d2] }
  | _ => none }
def corpusLivesRow : OpenClaim := { program := "ytbgommpdmnbplaagreatdoor", sum := "98d1368c2f3b59410a98454d1576e321c584e2650f3cfc8af914ffa2d562ca5e", func := "dredger/dredgerlaw04.CorpusLives", spec := "corpusLives", inPlace := ["internal/reflectlite.ValueOf", "(internal/reflectlite.Value).Type", "(internal/reflectlite.Value).IsNil", "internal/reflectlite.TypeOf", "(internal/reflectlite.Value).Elem", "(internal/reflectlite.Value).Set", "slices.overlaps[dredger/api.Sent]", "maps.clone"], unfollowed := true, recurses := true, named := ["errors.errorType", "dredger/wire.quarter"], apart := false, laid := [("errors.errorType", laid_errors_errorType), ("dredger/wire.quarter", laid_dredger_wire_quarter)] }
def CorpusLivesSaid : Prop := corpusLivesRow.holds Tryz.pinned (OpenSpec.ofChange corpusLivesSpec)

/-- ITS FALSE NEIGHBOUR: 'it returns false'. Refute it at one input. -/
def corpusLivesWrong : ChangeSpec := { name := "corpusLives", fn := fun _ => fun
  | [d1, d2] => { results := [.lit (.bool false)], args := [d1, d2] }
  | _ => none }
def CorpusLivesWrongFalsely : Prop := corpusLivesRow.holds Tryz.pinned (OpenSpec.ofChange corpusLivesWrong)

/-- 'dredgerlaw04.CorpusGets': WHATEVER THE INPUT: true; the input reads as it did. -/
def corpusGetsSpec : ChangeSpec := { name := "corpusGets", fn := fun _ => fun
  | [d1, d2] => { results := [.lit (.bool true)], args := [d1, d2] }
  | _ => none }
def corpusGetsRow : OpenClaim := { program := "ytbgommpdmnbplaagreatdoor", sum := "98d1368c2f3b59410a98454d1576e321c584e2650f3cfc8af914ffa2d562ca5e", func := "dredger/dredgerlaw04.CorpusGets", spec := "corpusGets", inPlace := ["internal/reflectlite.ValueOf", "(internal/reflectlite.Value).Type", "(internal/reflectlite.Value).IsNil", "internal/reflectlite.TypeOf", "(internal/reflectlite.Value).Elem", "(internal/reflectlite.Value).Set", "slices.overlaps[dredger/api.Sent]", "maps.clone"], unfollowed := true, recurses := true, named := ["errors.errorType", "dredger/wire.quarter"], apart := false, laid := [("errors.errorType", laid_errors_errorType), ("dredger/wire.quarter", laid_dredger_wire_quarter)] }
def CorpusGetsSaid : Prop := corpusGetsRow.holds Tryz.pinned (OpenSpec.ofChange corpusGetsSpec)

/-- ITS FALSE NEIGHBOUR: 'it returns false'. Refute it at one input. -/
def corpusGetsWrong : ChangeSpec := { name := "corpusGets", fn := fun _ => fun
  | [d1, d2] => { results := [.lit (.bool false)], args := [d1, d2] }
  | _ => none }
def CorpusGetsWrongFalsely : Prop := corpusGetsRow.holds Tryz.pinned (OpenSpec.ofChange corpusGetsWrong)

/-- 'dredgerlaw04.CorpusKept': WHATEVER THE INPUT: true; the input reads as it did. -/
def corpusKeptSpec : ChangeSpec := { name := "corpusKept", fn := fun _ => fun
  | [d1, d2, d3, d4] => { results := [.lit (.bool true)], args := [d1, d2, d3, d4] }
  | _ => none }
def corpusKeptRow : OpenClaim := { program := "ytbgommpdmnbplaagreatdoor", sum := "98d1368c2f3b59410a98454d1576e321c584e2650f3cfc8af914ffa2d562ca5e", func := "dredger/dredgerlaw04.CorpusKept", spec := "corpusKept", inPlace := ["internal/reflectlite.ValueOf", "(internal/reflectlite.Value).Type", "(internal/reflectlite.Value).IsNil", "internal/reflectlite.TypeOf", "(internal/reflectlite.Value).Elem", "(internal/reflectlite.Value).Set", "slices.overlaps[dredger/api.Sent]", "maps.clone"], unfollowed := true, recurses := true, named := ["errors.errorType", "dredger/wire.quarter"], apart := false, laid := [("errors.errorType", laid_errors_errorType), ("dredger/wire.quarter", laid_dredger_wire_quarter)] }
def CorpusKeptSaid : Prop := corpusKeptRow.holds Tryz.pinned (OpenSpec.ofChange corpusKeptSpec)

/-- ITS FALSE NEIGHBOUR: 'it returns false'. Refute it at one input. -/
def corpusKeptWrong : ChangeSpec := { name := "corpusKept", fn := fun _ => fun
  | [d1, d2, d3, d4] => { results := [.lit (.bool false)], args := [d1, d2, d3, d4] }
  | _ => none }
def CorpusKeptWrongFalsely : Prop := corpusKeptRow.holds Tryz.pinned (OpenSpec.ofChange corpusKeptWrong)

/-- 'dredgerlaw04.CorpusFull': WHATEVER THE INPUT: true; the input reads as it did. -/
def corpusFullSpec : ChangeSpec := { name := "corpusFull", fn := fun _ => fun
  | [d1, d2] => { results := [.lit (.bool true)], args := [d1, d2] }
  | _ => none }
def corpusFullRow : OpenClaim := { program := "ytbgommpdmnbplaagreatdoor", sum := "98d1368c2f3b59410a98454d1576e321c584e2650f3cfc8af914ffa2d562ca5e", func := "dredger/dredgerlaw04.CorpusFull", spec := "corpusFull", inPlace := ["internal/reflectlite.ValueOf", "(internal/reflectlite.Value).Type", "(internal/reflectlite.Value).IsNil", "internal/reflectlite.TypeOf", "(internal/reflectlite.Value).Elem", "(internal/reflectlite.Value).Set", "slices.overlaps[dredger/api.Sent]", "maps.clone"], unfollowed := true, recurses := true, named := ["errors.errorType", "dredger/wire.quarter"], apart := false, laid := [("errors.errorType", laid_errors_errorType), ("dredger/wire.quarter", laid_dredger_wire_quarter)] }
def CorpusFullSaid : Prop := corpusFullRow.holds Tryz.pinned (OpenSpec.ofChange corpusFullSpec)

/-- ITS FALSE NEIGHBOUR: 'it returns false'. Refute it at one input. -/
def corpusFullWrong : ChangeSpec := { name := "corpusFull", fn := fun _ => fun
  | [d1, d2] => { results := [.lit (.bool false)], args := [d1, d2] }
  | _ => none }
def CorpusFullWrongFalsely : Prop := corpusFullRow.holds Tryz.pinned (OpenSpec.ofChange corpusFullWrong)

/-- 'dredgerlaw04.CorpusPoints': WHATEVER THE INPUT: true; the input reads as it did. -/
def corpusPointsSpec : ChangeSpec := { name := "corpusPoints", fn := fun _ => fun
  | [d] => { results := [.lit (.bool true)], args := [d] }
  | _ => none }
def corpusPointsRow : OpenClaim := { program := "ytbgommpdmnbplaagreatdoor", sum := "98d1368c2f3b59410a98454d1576e321c584e2650f3cfc8af914ffa2d562ca5e", func := "dredger/dredgerlaw04.CorpusPoints", spec := "corpusPoints", inPlace := ["internal/reflectlite.ValueOf", "(internal/reflectlite.Value).Type", "(internal/reflectlite.Value).IsNil", "internal/reflectlite.TypeOf", "(internal/reflectlite.Value).Elem", "(internal/reflectlite.Value).Set", "slices.overlaps[dredger/api.Sent]", "maps.clone"], unfollowed := true, recurses := true, named := ["errors.errorType", "dredger/wire.quarter"], apart := false, laid := [("errors.errorType", laid_errors_errorType), ("dredger/wire.quarter", laid_dredger_wire_quarter)] }
def CorpusPointsSaid : Prop := corpusPointsRow.holds Tryz.pinned (OpenSpec.ofChange corpusPointsSpec)

/-- ITS FALSE NEIGHBOUR: 'it returns false'. Refute it at one input. -/
def corpusPointsWrong : ChangeSpec := { name := "corpusPoints", fn := fun _ => fun
  | [d] => { results := [.lit (.bool false)], args := [d] }
  | _ => none }
def CorpusPointsWrongFalsely : Prop := corpusPointsRow.holds Tryz.pinned (OpenSpec.ofChange corpusPointsWrong)

/-- 'dredgerlaw04.CorpusNobody': WHATEVER THE INPUT: true; the input reads as it did. -/
def corpusNobodySpec : ChangeSpec := { name := "corpusNobody", fn := fun _ => fun
  | [d] => { results := [.lit (.bool true)], args := [d] }
  | _ => none }
def corpusNobodyRow : OpenClaim := { program := "ytbgommpdmnbplaagreatdoor", sum := "98d1368c2f3b59410a98454d1576e321c584e2650f3cfc8af914ffa2d562ca5e", func := "dredger/dredgerlaw04.CorpusNobody", spec := "corpusNobody", inPlace := ["maps.clone", "slices.overlaps[dredger/api.Sent]", "internal/reflectlite.ValueOf", "(internal/reflectlite.Value).Type", "(internal/reflectlite.Value).IsNil", "internal/reflectlite.TypeOf", "(internal/reflectlite.Value).Elem", "(internal/reflectlite.Value).Set"], unfollowed := true, recurses := true, named := ["dredger/wire.quarter", "errors.errorType"], apart := false, laid := [("errors.errorType", laid_errors_errorType), ("dredger/wire.quarter", laid_dredger_wire_quarter)] }
def CorpusNobodySaid : Prop := corpusNobodyRow.holds Tryz.pinned (OpenSpec.ofChange corpusNobodySpec)

/-- ITS FALSE NEIGHBOUR: 'it returns false'. Refute it at one input. -/
def corpusNobodyWrong : ChangeSpec := { name := "corpusNobody", fn := fun _ => fun
  | [d] => { results := [.lit (.bool false)], args := [d] }
  | _ => none }
def CorpusNobodyWrongFalsely : Prop := corpusNobodyRow.holds Tryz.pinned (OpenSpec.ofChange corpusNobodyWrong)

/- THE SECOND FORM. 'bulk': how many values and letters a reading holds, each counted each time it is reached (what is shared counts as often as it is met; a slice's spare places count too). A statement '..UptoSaid' is the law's where the arguments, and the package variables that the reading takes, are together of bulk at most 1048576: NARROWER than '..Said'. Prove '..Said' where nothing that the law and all that it calls make is longer than what came in: it says more and counts as full. Else prove '..UptoSaid'. A law counts once. -/
mutual
def uptoBulk {H : Type} : DataW H → Nat
  | .lit (.string bytes) => bytes.length + 1
  | .lit _ => 1
  | .nil => 1
  | .ptr d => uptoBulk d + 1
  | .slice elems spare => uptoBulkAll elems + uptoBulkAll spare + 1
  | .agg parts => uptoBulkAll parts + 1
  | .iface _ d => uptoBulk d + 1
  | .map entries => uptoBulkEntries entries + 1
  | .held _ => 1
def uptoBulkAll {H : Type} : List (DataW H) → Nat
  | [] => 0
  | d :: r => uptoBulk d + uptoBulkAll r
def uptoBulkEntries {H : Type} : List (Lit × DataW H) → Nat
  | [] => 0
  | x :: r => uptoBulkEntry x + uptoBulkEntries r
def uptoBulkEntry {H : Type} : Lit × DataW H → Nat
  | (.string bytes, d) => bytes.length + uptoBulk d + 1
  | (_, d) => uptoBulk d + 1
 end
def uptoSmall : (H : Type) → List (DataW H) → Bool := fun _ ds => decide (uptoBulkAll ds ≤ 1048576)
def OpenSpec.upto (s : _root_.Go.ChangeSpec) : _root_.Go.OpenSpec := { _root_.Go.OpenSpec.ofChange s with cond := some uptoSmall }

/-- 'dredgerlaw04.CorpusLives', WHERE WHAT IT READS IS OF BULK AT MOST 1048576: true; the input reads as it did. -/
def corpusLivesUptoRow : OpenClaim := { program := "ytbgommpdmnbplaagreatdoor", sum := "98d1368c2f3b59410a98454d1576e321c584e2650f3cfc8af914ffa2d562ca5e", func := "dredger/dredgerlaw04.CorpusLives", spec := "corpusLives", inPlace := ["internal/reflectlite.ValueOf", "(internal/reflectlite.Value).Type", "(internal/reflectlite.Value).IsNil", "internal/reflectlite.TypeOf", "(internal/reflectlite.Value).Elem", "(internal/reflectlite.Value).Set", "slices.overlaps[dredger/api.Sent]", "maps.clone"], unfollowed := true, recurses := true, named := ["errors.errorType", "dredger/wire.quarter"], apart := false, laid := [("errors.errorType", laid_errors_errorType), ("dredger/wire.quarter", laid_dredger_wire_quarter)], narrowed := true }
def CorpusLivesUptoSaid : Prop := corpusLivesUptoRow.holds Tryz.pinned (OpenSpec.upto corpusLivesSpec)

/-- 'dredgerlaw04.CorpusGets', WHERE WHAT IT READS IS OF BULK AT MOST 1048576: true; the input reads as it did. -/
def corpusGetsUptoRow : OpenClaim := { program := "ytbgommpdmnbplaagreatdoor", sum := "98d1368c2f3b59410a98454d1576e321c584e2650f3cfc8af914ffa2d562ca5e", func := "dredger/dredgerlaw04.CorpusGets", spec := "corpusGets", inPlace := ["internal/reflectlite.ValueOf", "(internal/reflectlite.Value).Type", "(internal/reflectlite.Value).IsNil", "internal/reflectlite.TypeOf", "(internal/reflectlite.Value).Elem", "(internal/reflectlite.Value).Set", "slices.overlaps[dredger/api.Sent]", "maps.clone"], unfollowed := true, recurses := true, named := ["errors.errorType", "dredger/wire.quarter"], apart := false, laid := [("errors.errorType", laid_errors_errorType), ("dredger/wire.quarter", laid_dredger_wire_quarter)], narrowed := true }
def CorpusGetsUptoSaid : Prop := corpusGetsUptoRow.holds Tryz.pinned (OpenSpec.upto corpusGetsSpec)

/-- 'dredgerlaw04.CorpusKept', WHERE WHAT IT READS IS OF BULK AT MOST 1048576: true; the input reads as it did. -/
def corpusKeptUptoRow : OpenClaim := { program := "ytbgommpdmnbplaagreatdoor", sum := "98d1368c2f3b59410a98454d1576e321c584e2650f3cfc8af914ffa2d562ca5e", func := "dredger/dredgerlaw04.CorpusKept", spec := "corpusKept", inPlace := ["internal/reflectlite.ValueOf", "(internal/reflectlite.Value).Type", "(internal/reflectlite.Value).IsNil", "internal/reflectlite.TypeOf", "(internal/reflectlite.Value).Elem", "(internal/reflectlite.Value).Set", "slices.overlaps[dredger/api.Sent]", "maps.clone"], unfollowed := true, recurses := true, named := ["errors.errorType", "dredger/wire.quarter"], apart := false, laid := [("errors.errorType", laid_errors_errorType), ("dredger/wire.quarter", laid_dredger_wire_quarter)], narrowed := true }
def CorpusKeptUptoSaid : Prop := corpusKeptUptoRow.holds Tryz.pinned (OpenSpec.upto corpusKeptSpec)

/-- 'dredgerlaw04.CorpusFull', WHERE WHAT IT READS IS OF BULK AT MOST 1048576: true; the input reads as it did. -/
def corpusFullUptoRow : OpenClaim := { program := "ytbgommpdmnbplaagreatdoor", sum := "98d1368c2f3b59410a98454d1576e321c584e2650f3cfc8af914ffa2d562ca5e", func := "dredger/dredgerlaw04.CorpusFull", spec := "corpusFull", inPlace := ["internal/reflectlite.ValueOf", "(internal/reflectlite.Value).Type", "(internal/reflectlite.Value).IsNil", "internal/reflectlite.TypeOf", "(internal/reflectlite.Value).Elem", "(internal/reflectlite.Value).Set", "slices.overlaps[dredger/api.Sent]", "maps.clone"], unfollowed := true, recurses := true, named := ["errors.errorType", "dredger/wire.quarter"], apart := false, laid := [("errors.errorType", laid_errors_errorType), ("dredger/wire.quarter", laid_dredger_wire_quarter)], narrowed := true }
def CorpusFullUptoSaid : Prop := corpusFullUptoRow.holds Tryz.pinned (OpenSpec.upto corpusFullSpec)

/-- 'dredgerlaw04.CorpusPoints', WHERE WHAT IT READS IS OF BULK AT MOST 1048576: true; the input reads as it did. -/
def corpusPointsUptoRow : OpenClaim := { program := "ytbgommpdmnbplaagreatdoor", sum := "98d1368c2f3b59410a98454d1576e321c584e2650f3cfc8af914ffa2d562ca5e", func := "dredger/dredgerlaw04.CorpusPoints", spec := "corpusPoints", inPlace := ["internal/reflectlite.ValueOf", "(internal/reflectlite.Value).Type", "(internal/reflectlite.Value).IsNil", "internal/reflectlite.TypeOf", "(internal/reflectlite.Value).Elem", "(internal/reflectlite.Value).Set", "slices.overlaps[dredger/api.Sent]", "maps.clone"], unfollowed := true, recurses := true, named := ["errors.errorType", "dredger/wire.quarter"], apart := false, laid := [("errors.errorType", laid_errors_errorType), ("dredger/wire.quarter", laid_dredger_wire_quarter)], narrowed := true }
def CorpusPointsUptoSaid : Prop := corpusPointsUptoRow.holds Tryz.pinned (OpenSpec.upto corpusPointsSpec)

/-- 'dredgerlaw04.CorpusNobody', WHERE WHAT IT READS IS OF BULK AT MOST 1048576: true; the input reads as it did. -/
def corpusNobodyUptoRow : OpenClaim := { program := "ytbgommpdmnbplaagreatdoor", sum := "98d1368c2f3b59410a98454d1576e321c584e2650f3cfc8af914ffa2d562ca5e", func := "dredger/dredgerlaw04.CorpusNobody", spec := "corpusNobody", inPlace := ["maps.clone", "slices.overlaps[dredger/api.Sent]", "internal/reflectlite.ValueOf", "(internal/reflectlite.Value).Type", "(internal/reflectlite.Value).IsNil", "internal/reflectlite.TypeOf", "(internal/reflectlite.Value).Elem", "(internal/reflectlite.Value).Set"], unfollowed := true, recurses := true, named := ["dredger/wire.quarter", "errors.errorType"], apart := false, laid := [("errors.errorType", laid_errors_errorType), ("dredger/wire.quarter", laid_dredger_wire_quarter)], narrowed := true }
def CorpusNobodyUptoSaid : Prop := corpusNobodyUptoRow.holds Tryz.pinned (OpenSpec.upto corpusNobodySpec)

end Rows
end Go.Proofs.YtbgommpdmnbplaaGreatDoor
