/-
  No cell of these rows narrows 'for every input' (looked for: loops, veiled, ifaces, maps, wideKeys, modest, calm, conditions, laid).
  DERIVED. THE GIVEN ROWS OF THIS SEAT. 6 by the template 'for every input the law returns true; each argument reads behind the call as it read before'; 0 by the template 'total and deterministic' (their statements: YtnmgapnblmikeaaTotals.lean).
  GIVEN WITH THE SEED: the statements are not yours to turn. If you find one false, say at which input.
  Laid BY PROGRAM, IN A SANDBOX (cutbox-rows.mjs): the forced cells as the released guide's own fill.sh prints them over the translation 42deabe4f603c657… (all of the seat's roots in one cut). By AI agents, Wed Nov 11 2026. No macro, syntax, notation, axiom, sorry.
-/
import Derived.Test.YtnmgapnblmikeaaChecked
import GoSem.Claim
import GoSem.ClaimJoined
import GoSem.ClaimMapViews
import Derived.JoinedTies
import Derived.KernelRfl
namespace Go.Proofs.Ytnmgapnblmikeaa
/- THE CELL 'sum', in the pinned program and in every row, IS THE sha256 OF THE DUMP (.gsa) THAT YtnmgapnblmikeaaProg.lean LOADS. Nothing in Lean hashes anything: it is a label: what it is worth is what the hold of that sum in a sandbox is worth. -/
noncomputable def Try.pinned : Pinned := { name := "ytnmgapnblmikeaa", sum := "42deabe4f603c6570dc12bf92b86ab48cb8acf785ba95b3b88a71d10b9fb41eb", checked := Try.checked }
namespace Rows
def none {H : Type} : Left H := { results := [], args := [] }

/-- 'dredgerlaw05.MemLives': WHATEVER THE INPUT: true; the input reads as it did. -/
def memLivesSpec : ChangeSpec := { name := "memLives", fn := fun _ => fun
  | [d] => { results := [.lit (.bool true)], args := [d] }
  | _ => none }
def memLivesRow : OpenClaim := { program := "ytnmgapnblmikeaa", sum := "42deabe4f603c6570dc12bf92b86ab48cb8acf785ba95b3b88a71d10b9fb41eb", func := "dredger/dredgerlaw05.MemLives", spec := "memLives", inPlace := ["internal/bytealg.IndexByte"], apart := false }
def MemLivesSaid : Prop := memLivesRow.holds Try.pinned (OpenSpec.ofChange memLivesSpec)

/-- ITS FALSE NEIGHBOUR: 'it returns false'. Refute it at one input. -/
def memLivesWrong : ChangeSpec := { name := "memLives", fn := fun _ => fun
  | [d] => { results := [.lit (.bool false)], args := [d] }
  | _ => none }
def MemLivesWrongFalsely : Prop := memLivesRow.holds Try.pinned (OpenSpec.ofChange memLivesWrong)

/-- 'dredgerlaw05.MemNumbers': WHATEVER THE INPUT: true; the input reads as it did. -/
def memNumbersSpec : ChangeSpec := { name := "memNumbers", fn := fun _ => fun
  | [d1, d2, d3] => { results := [.lit (.bool true)], args := [d1, d2, d3] }
  | _ => none }
def memNumbersRow : OpenClaim := { program := "ytnmgapnblmikeaa", sum := "42deabe4f603c6570dc12bf92b86ab48cb8acf785ba95b3b88a71d10b9fb41eb", func := "dredger/dredgerlaw05.MemNumbers", spec := "memNumbers", apart := false }
def MemNumbersSaid : Prop := memNumbersRow.holds Try.pinned (OpenSpec.ofChange memNumbersSpec)

/-- ITS FALSE NEIGHBOUR: 'it returns false'. Refute it at one input. -/
def memNumbersWrong : ChangeSpec := { name := "memNumbers", fn := fun _ => fun
  | [d1, d2, d3] => { results := [.lit (.bool false)], args := [d1, d2, d3] }
  | _ => none }
def MemNumbersWrongFalsely : Prop := memNumbersRow.holds Try.pinned (OpenSpec.ofChange memNumbersWrong)

/-- 'dredgerlaw05.MemTold': WHATEVER THE INPUT: true; the input reads as it did. -/
def memToldSpec : ChangeSpec := { name := "memTold", fn := fun _ => fun
  | [d1, d2, d3] => { results := [.lit (.bool true)], args := [d1, d2, d3] }
  | _ => none }
def memToldRow : OpenClaim := { program := "ytnmgapnblmikeaa", sum := "42deabe4f603c6570dc12bf92b86ab48cb8acf785ba95b3b88a71d10b9fb41eb", func := "dredger/dredgerlaw05.MemTold", spec := "memTold", apart := false }
def MemToldSaid : Prop := memToldRow.holds Try.pinned (OpenSpec.ofChange memToldSpec)

/-- ITS FALSE NEIGHBOUR: 'it returns false'. Refute it at one input. -/
def memToldWrong : ChangeSpec := { name := "memTold", fn := fun _ => fun
  | [d1, d2, d3] => { results := [.lit (.bool false)], args := [d1, d2, d3] }
  | _ => none }
def MemToldWrongFalsely : Prop := memToldRow.holds Try.pinned (OpenSpec.ofChange memToldWrong)

/-- 'dredgerlaw05.MemBack': WHATEVER THE INPUT: true; the input reads as it did. -/
def memBackSpec : ChangeSpec := { name := "memBack", fn := fun _ => fun
  | [d1, d2] => { results := [.lit (.bool true)], args := [d1, d2] }
  | _ => none }
def memBackRow : OpenClaim := { program := "ytnmgapnblmikeaa", sum := "42deabe4f603c6570dc12bf92b86ab48cb8acf785ba95b3b88a71d10b9fb41eb", func := "dredger/dredgerlaw05.MemBack", spec := "memBack", apart := false }
def MemBackSaid : Prop := memBackRow.holds Try.pinned (OpenSpec.ofChange memBackSpec)

/-- ITS FALSE NEIGHBOUR: 'it returns false'. Refute it at one input. -/
def memBackWrong : ChangeSpec := { name := "memBack", fn := fun _ => fun
  | [d1, d2] => { results := [.lit (.bool false)], args := [d1, d2] }
  | _ => none }
def MemBackWrongFalsely : Prop := memBackRow.holds Try.pinned (OpenSpec.ofChange memBackWrong)

/-- 'dredgerlaw05.MemPaths': WHATEVER THE INPUT: true; the input reads as it did. -/
def memPathsSpec : ChangeSpec := { name := "memPaths", fn := fun _ => fun
  | [d1, d2] => { results := [.lit (.bool true)], args := [d1, d2] }
  | _ => none }
def memPathsRow : OpenClaim := { program := "ytnmgapnblmikeaa", sum := "42deabe4f603c6570dc12bf92b86ab48cb8acf785ba95b3b88a71d10b9fb41eb", func := "dredger/dredgerlaw05.MemPaths", spec := "memPaths", inPlace := ["internal/bytealg.IndexByteString", "internal/bytealg.IndexString", "internal/bytealg.IndexByte"], named := ["internal/bytealg.MaxLen"], apart := false }
def MemPathsSaid : Prop := memPathsRow.holds Try.pinned (OpenSpec.ofChange memPathsSpec)

/-- ITS FALSE NEIGHBOUR: 'it returns false'. Refute it at one input. -/
def memPathsWrong : ChangeSpec := { name := "memPaths", fn := fun _ => fun
  | [d1, d2] => { results := [.lit (.bool false)], args := [d1, d2] }
  | _ => none }
def MemPathsWrongFalsely : Prop := memPathsRow.holds Try.pinned (OpenSpec.ofChange memPathsWrong)

/-- 'dredgerlaw05.MemNobody': WHATEVER THE INPUT: true; the input reads as it did. -/
def memNobodySpec : ChangeSpec := { name := "memNobody", fn := fun _ => fun
  | [d1, d2] => { results := [.lit (.bool true)], args := [d1, d2] }
  | _ => none }
def memNobodyRow : OpenClaim := { program := "ytnmgapnblmikeaa", sum := "42deabe4f603c6570dc12bf92b86ab48cb8acf785ba95b3b88a71d10b9fb41eb", func := "dredger/dredgerlaw05.MemNobody", spec := "memNobody", inPlace := ["internal/bytealg.IndexByte"], apart := false }
def MemNobodySaid : Prop := memNobodyRow.holds Try.pinned (OpenSpec.ofChange memNobodySpec)

/-- ITS FALSE NEIGHBOUR: 'it returns false'. Refute it at one input. -/
def memNobodyWrong : ChangeSpec := { name := "memNobody", fn := fun _ => fun
  | [d1, d2] => { results := [.lit (.bool false)], args := [d1, d2] }
  | _ => none }
def MemNobodyWrongFalsely : Prop := memNobodyRow.holds Try.pinned (OpenSpec.ofChange memNobodyWrong)

/- THE SECOND FORM. 'bulk': how many values and letters a reading holds, each counted each time it is reached (what is shared counts as often as it is met; a slice's spare places count too). A statement '..UptoSaid' is the law's where the arguments, and the package variables that the reading takes, are together of bulk at most 1048576: NARROWER than '..Said'. Prove '..Said' where nothing that the law and all that it calls make is longer than what came in: it says more and counts as full. Else prove '..UptoSaid'. A law counts once. -/
mutual
def uptoBulk {H : Type} : DataW H → Nat
  | .lit (.string bytes) => bytes.length + 1
  | .lit _ => 1
  | .nil => 1
  | .ptr d => uptoBulk d + 1
  | .slice elems spare => uptoBulkAll elems + uptoBulkAll spare + 1
  | .agg parts => uptoBulkAll parts + 1
  | .iface _ d => uptoBulk d + 1
  | .map entries => uptoBulkEntries entries + 1
  | .held _ => 1
def uptoBulkAll {H : Type} : List (DataW H) → Nat
  | [] => 0
  | d :: r => uptoBulk d + uptoBulkAll r
def uptoBulkEntries {H : Type} : List (Lit × DataW H) → Nat
  | [] => 0
  | x :: r => uptoBulkEntry x + uptoBulkEntries r
def uptoBulkEntry {H : Type} : Lit × DataW H → Nat
  | (.string bytes, d) => bytes.length + uptoBulk d + 1
  | (_, d) => uptoBulk d + 1
 end
def uptoSmall : (H : Type) → List (DataW H) → Bool := fun _ ds => decide (uptoBulkAll ds ≤ 1048576)
def OpenSpec.upto (s : _root_.Go.ChangeSpec) : _root_.Go.OpenSpec := { _root_.Go.OpenSpec.ofChange s with cond := some uptoSmall }

/-- 'dredgerlaw05.MemLives', WHERE WHAT IT READS IS OF BULK AT MOST 1048576: true; the input reads as it did. -/
def memLivesUptoRow : OpenClaim := { program := "ytnmgapnblmikeaa", sum := "42deabe4f603c6570dc12bf92b86ab48cb8acf785ba95b3b88a71d10b9fb41eb", func := "dredger/dredgerlaw05.MemLives", spec := "memLives", inPlace := ["internal/bytealg.IndexByte"], apart := false, narrowed := true }
def MemLivesUptoSaid : Prop := memLivesUptoRow.holds Try.pinned (OpenSpec.upto memLivesSpec)

/-- 'dredgerlaw05.MemNumbers', WHERE WHAT IT READS IS OF BULK AT MOST 1048576: true; the input reads as it did. -/
def memNumbersUptoRow : OpenClaim := { program := "ytnmgapnblmikeaa", sum := "42deabe4f603c6570dc12bf92b86ab48cb8acf785ba95b3b88a71d10b9fb41eb", func := "dredger/dredgerlaw05.MemNumbers", spec := "memNumbers", apart := false, narrowed := true }
def MemNumbersUptoSaid : Prop := memNumbersUptoRow.holds Try.pinned (OpenSpec.upto memNumbersSpec)

/-- 'dredgerlaw05.MemTold', WHERE WHAT IT READS IS OF BULK AT MOST 1048576: true; the input reads as it did. -/
def memToldUptoRow : OpenClaim := { program := "ytnmgapnblmikeaa", sum := "42deabe4f603c6570dc12bf92b86ab48cb8acf785ba95b3b88a71d10b9fb41eb", func := "dredger/dredgerlaw05.MemTold", spec := "memTold", apart := false, narrowed := true }
def MemToldUptoSaid : Prop := memToldUptoRow.holds Try.pinned (OpenSpec.upto memToldSpec)

/-- 'dredgerlaw05.MemBack', WHERE WHAT IT READS IS OF BULK AT MOST 1048576: true; the input reads as it did. -/
def memBackUptoRow : OpenClaim := { program := "ytnmgapnblmikeaa", sum := "42deabe4f603c6570dc12bf92b86ab48cb8acf785ba95b3b88a71d10b9fb41eb", func := "dredger/dredgerlaw05.MemBack", spec := "memBack", apart := false, narrowed := true }
def MemBackUptoSaid : Prop := memBackUptoRow.holds Try.pinned (OpenSpec.upto memBackSpec)

/-- 'dredgerlaw05.MemPaths', WHERE WHAT IT READS IS OF BULK AT MOST 1048576: true; the input reads as it did. -/
def memPathsUptoRow : OpenClaim := { program := "ytnmgapnblmikeaa", sum := "42deabe4f603c6570dc12bf92b86ab48cb8acf785ba95b3b88a71d10b9fb41eb", func := "dredger/dredgerlaw05.MemPaths", spec := "memPaths", inPlace := ["internal/bytealg.IndexByteString", "internal/bytealg.IndexString", "internal/bytealg.IndexByte"], named := ["internal/bytealg.MaxLen"], apart := false, narrowed := true }
def MemPathsUptoSaid : Prop := memPathsUptoRow.holds Try.pinned (OpenSpec.upto memPathsSpec)

/-- 'dredgerlaw05.MemNobody', WHERE WHAT IT READS IS OF BULK AT MOST 1048576: true; the input reads as it did. -/
def memNobodyUptoRow : OpenClaim := { program := "ytnmgapnblmikeaa", sum := "42deabe4f603c6570dc12bf92b86ab48cb8acf785ba95b3b88a71d10b9fb41eb", func := "dredger/dredgerlaw05.MemNobody", spec := "memNobody", inPlace := ["internal/bytealg.IndexByte"], apart := false, narrowed := true }
def MemNobodyUptoSaid : Prop := memNobodyUptoRow.holds Try.pinned (OpenSpec.upto memNobodySpec)

end Rows
end Go.Proofs.Ytnmgapnblmikeaa
