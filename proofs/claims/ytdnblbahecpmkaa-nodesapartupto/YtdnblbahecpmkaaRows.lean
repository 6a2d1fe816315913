/-
  No cell of these rows narrows 'for every input' (looked for: loops, veiled, ifaces, maps, wideKeys, modest, calm, conditions, laid).
  DERIVED. THE GIVEN ROWS OF THIS SEAT. 4 by the template 'for every input the law returns true; each argument reads behind the call as it read before'; 0 by the template 'total and deterministic' (their statements: YtdnblbahecpmkaaTotals.lean).
  GIVEN WITH THE SEED: the statements are not yours to turn. If you find one false, say at which input.
  Laid BY PROGRAM, IN A SANDBOX (cutbox-rows.mjs): the forced cells as the released guide's own fill.sh prints them over the translation b25eb8171530d6f5… (all of the seat's roots in one cut). By AI agents, Wed Nov 11 2026. No macro, syntax, notation, axiom, sorry.
-/
import Derived.Test.YtdnblbahecpmkaaChecked
import GoSem.Claim
import GoSem.ClaimJoined
import GoSem.ClaimMapViews
import Derived.JoinedTies
import Derived.KernelRfl
namespace Go.Proofs.Ytdnblbahecpmkaa
/- THE CELL 'sum', in the pinned program and in every row, IS THE sha256 OF THE DUMP (.gsa) THAT YtdnblbahecpmkaaProg.lean LOADS. Nothing in Lean hashes anything: it is a label: what it is worth is what the hold of that sum in a sandbox is worth. -/
noncomputable def Try.pinned : Pinned := { name := "ytdnblbahecpmkaa", sum := "b25eb8171530d6f5e4c18c18e949f0f53fc6267dfbf02fd5faa8a942b4ea8579", checked := Try.checked }
namespace Rows
def none {H : Type} : Left H := { results := [], args := [] }

/-- 'dredgerlaw06.NodesBytes': WHATEVER THE INPUT: true; the input reads as it did. -/
def nodesBytesSpec : ChangeSpec := { name := "nodesBytes", fn := fun _ => fun
  | [d] => { results := [.lit (.bool true)], args := [d] }
  | _ => none }
def nodesBytesRow : OpenClaim := { program := "ytdnblbahecpmkaa", sum := "b25eb8171530d6f5e4c18c18e949f0f53fc6267dfbf02fd5faa8a942b4ea8579", func := "dredger/dredgerlaw06.NodesBytes", spec := "nodesBytes", inPlace := ["internal/bytealg.IndexByteString", "internal/bytealg.IndexString"], named := ["internal/bytealg.MaxLen"], apart := false }
def NodesBytesSaid : Prop := nodesBytesRow.holds Try.pinned (OpenSpec.ofChange nodesBytesSpec)

/-- ITS FALSE NEIGHBOUR: 'it returns false'. Refute it at one input. -/
def nodesBytesWrong : ChangeSpec := { name := "nodesBytes", fn := fun _ => fun
  | [d] => { results := [.lit (.bool false)], args := [d] }
  | _ => none }
def NodesBytesWrongFalsely : Prop := nodesBytesRow.holds Try.pinned (OpenSpec.ofChange nodesBytesWrong)

/-- 'dredgerlaw06.NodesApart': WHATEVER THE INPUT: true; the input reads as it did. -/
def nodesApartSpec : ChangeSpec := { name := "nodesApart", fn := fun _ => fun
  | [d1, d2] => { results := [.lit (.bool true)], args := [d1, d2] }
  | _ => none }
def nodesApartRow : OpenClaim := { program := "ytdnblbahecpmkaa", sum := "b25eb8171530d6f5e4c18c18e949f0f53fc6267dfbf02fd5faa8a942b4ea8579", func := "dredger/dredgerlaw06.NodesApart", spec := "nodesApart", inPlace := ["internal/bytealg.IndexByteString", "internal/bytealg.IndexString"], named := ["internal/bytealg.MaxLen"], apart := false }
def NodesApartSaid : Prop := nodesApartRow.holds Try.pinned (OpenSpec.ofChange nodesApartSpec)

/-- ITS FALSE NEIGHBOUR: 'it returns false'. Refute it at one input. -/
def nodesApartWrong : ChangeSpec := { name := "nodesApart", fn := fun _ => fun
  | [d1, d2] => { results := [.lit (.bool false)], args := [d1, d2] }
  | _ => none }
def NodesApartWrongFalsely : Prop := nodesApartRow.holds Try.pinned (OpenSpec.ofChange nodesApartWrong)

/-- 'dredgerlaw08.FilesOffsets': WHATEVER THE INPUT: true; the input reads as it did. -/
def filesOffsetsSpec : ChangeSpec := { name := "filesOffsets", fn := fun _ => fun
  | [d1, d2, d3] => { results := [.lit (.bool true)], args := [d1, d2, d3] }
  | _ => none }
def filesOffsetsRow : OpenClaim := { program := "ytdnblbahecpmkaa", sum := "b25eb8171530d6f5e4c18c18e949f0f53fc6267dfbf02fd5faa8a942b4ea8579", func := "dredger/dredgerlaw08.FilesOffsets", spec := "filesOffsets", inPlace := ["internal/bytealg.IndexByteString", "internal/bytealg.IndexString"], unfollowed := true, recurses := true, named := ["internal/bytealg.MaxLen"], apart := false }
def FilesOffsetsSaid : Prop := filesOffsetsRow.holds Try.pinned (OpenSpec.ofChange filesOffsetsSpec)

/-- ITS FALSE NEIGHBOUR: 'it returns false'. Refute it at one input. -/
def filesOffsetsWrong : ChangeSpec := { name := "filesOffsets", fn := fun _ => fun
  | [d1, d2, d3] => { results := [.lit (.bool false)], args := [d1, d2, d3] }
  | _ => none }
def FilesOffsetsWrongFalsely : Prop := filesOffsetsRow.holds Try.pinned (OpenSpec.ofChange filesOffsetsWrong)

/-- 'dredgerlaw08.FilesAppend': WHATEVER THE INPUT: true; the input reads as it did. -/
def filesAppendSpec : ChangeSpec := { name := "filesAppend", fn := fun _ => fun
  | [d1, d2, d3] => { results := [.lit (.bool true)], args := [d1, d2, d3] }
  | _ => none }
def filesAppendRow : OpenClaim := { program := "ytdnblbahecpmkaa", sum := "b25eb8171530d6f5e4c18c18e949f0f53fc6267dfbf02fd5faa8a942b4ea8579", func := "dredger/dredgerlaw08.FilesAppend", spec := "filesAppend", inPlace := ["internal/bytealg.IndexByteString", "internal/bytealg.IndexString"], unfollowed := true, recurses := true, named := ["internal/bytealg.MaxLen"], apart := false }
def FilesAppendSaid : Prop := filesAppendRow.holds Try.pinned (OpenSpec.ofChange filesAppendSpec)

/-- ITS FALSE NEIGHBOUR: 'it returns false'. Refute it at one input. -/
def filesAppendWrong : ChangeSpec := { name := "filesAppend", fn := fun _ => fun
  | [d1, d2, d3] => { results := [.lit (.bool false)], args := [d1, d2, d3] }
  | _ => none }
def FilesAppendWrongFalsely : Prop := filesAppendRow.holds Try.pinned (OpenSpec.ofChange filesAppendWrong)

/- THE SECOND FORM. 'bulk': how many values and letters a reading holds, each counted each time it is reached (what is shared counts as often as it is met; a slice's spare places count too). A statement '..UptoSaid' is the law's where the arguments, and the package variables that the reading takes, are together of bulk at most 1048576: NARROWER than '..Said'. Prove '..Said' where nothing that the law and all that it calls make is longer than what came in: it says more and counts as full. Else prove '..UptoSaid'. A law counts once. -/
mutual
def uptoBulk {H : Type} : DataW H → Nat
  | .lit (.string bytes) => bytes.length + 1
  | .lit _ => 1
  | .nil => 1
  | .ptr d => uptoBulk d + 1
  | .slice elems spare => uptoBulkAll elems + uptoBulkAll spare + 1
  | .agg parts => uptoBulkAll parts + 1
  | .iface _ d => uptoBulk d + 1
  | .map entries => uptoBulkEntries entries + 1
  | .held _ => 1
def uptoBulkAll {H : Type} : List (DataW H) → Nat
  | [] => 0
  | d :: r => uptoBulk d + uptoBulkAll r
def uptoBulkEntries {H : Type} : List (Lit × DataW H) → Nat
  | [] => 0
  | x :: r => uptoBulkEntry x + uptoBulkEntries r
def uptoBulkEntry {H : Type} : Lit × DataW H → Nat
  | (.string bytes, d) => bytes.length + uptoBulk d + 1
  | (_, d) => uptoBulk d + 1
 end
def uptoSmall : (H : Type) → List (DataW H) → Bool := fun _ ds => decide (uptoBulkAll ds ≤ 1048576)
def OpenSpec.upto (s : _root_.Go.ChangeSpec) : _root_.Go.OpenSpec := { _root_.Go.OpenSpec.ofChange s with cond := some uptoSmall }

/-- 'dredgerlaw06.NodesBytes', WHERE WHAT IT READS IS OF BULK AT MOST 1048576: true; the input reads as it did. -/
def nodesBytesUptoRow : OpenClaim := { program := "ytdnblbahecpmkaa", sum := "b25eb8171530d6f5e4c18c18e949f0f53fc6267dfbf02fd5faa8a942b4ea8579", func := "dredger/dredgerlaw06.NodesBytes", spec := "nodesBytes", inPlace := ["internal/bytealg.IndexByteString", "internal/bytealg.IndexString"], named := ["internal/bytealg.MaxLen"], apart := false, narrowed := true }
def NodesBytesUptoSaid : Prop := nodesBytesUptoRow.holds Try.pinned (OpenSpec.upto nodesBytesSpec)

/-- 'dredgerlaw06.NodesApart', WHERE WHAT IT READS IS OF BULK AT MOST 1048576: true; the input reads as it did. -/
def nodesApartUptoRow : OpenClaim := { program := "ytdnblbahecpmkaa", sum := "b25eb8171530d6f5e4c18c18e949f0f53fc6267dfbf02fd5faa8a942b4ea8579", func := "dredger/dredgerlaw06.NodesApart", spec := "nodesApart", inPlace := ["internal/bytealg.IndexByteString", "internal/bytealg.IndexString"], named := ["internal/bytealg.MaxLen"], apart := false, narrowed := true }
def NodesApartUptoSaid : Prop := nodesApartUptoRow.holds Try.pinned (OpenSpec.upto nodesApartSpec)

/-- 'dredgerlaw08.FilesOffsets', WHERE WHAT IT READS IS OF BULK AT MOST 1048576: true; the input reads as it did. -/
def filesOffsetsUptoRow : OpenClaim := { program := "ytdnblbahecpmkaa", sum := "b25eb8171530d6f5e4c18c18e949f0f53fc6267dfbf02fd5faa8a942b4ea8579", func := "dredger/dredgerlaw08.FilesOffsets", spec := "filesOffsets", inPlace := ["internal/bytealg.IndexByteString", "internal/bytealg.IndexString"], unfollowed := true, recurses := true, named := ["internal/bytealg.MaxLen"], apart := false, narrowed := true }
def FilesOffsetsUptoSaid : Prop := filesOffsetsUptoRow.holds Try.pinned (OpenSpec.upto filesOffsetsSpec)

/-- 'dredgerlaw08.FilesAppend', WHERE WHAT IT READS IS OF BULK AT MOST 1048576: true; the input reads as it did. -/
def filesAppendUptoRow : OpenClaim := { program := "ytdnblbahecpmkaa", sum := "b25eb8171530d6f5e4c18c18e949f0f53fc6267dfbf02fd5faa8a942b4ea8579", func := "dredger/dredgerlaw08.FilesAppend", spec := "filesAppend", inPlace := ["internal/bytealg.IndexByteString", "internal/bytealg.IndexString"], unfollowed := true, recurses := true, named := ["internal/bytealg.MaxLen"], apart := false, narrowed := true }
def FilesAppendUptoSaid : Prop := filesAppendUptoRow.holds Try.pinned (OpenSpec.upto filesAppendSpec)

end Rows
end Go.Proofs.Ytdnblbahecpmkaa
