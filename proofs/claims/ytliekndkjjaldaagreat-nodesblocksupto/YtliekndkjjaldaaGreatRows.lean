/-
  No cell of these rows narrows 'for every input' (looked for: loops, veiled, ifaces, maps, wideKeys, modest, calm, conditions, laid).
  DERIVED. THE GIVEN ROWS OF THIS SEAT. 3 by the template 'for every input the law returns true; each argument reads behind the call as it read before'; 0 by the template 'total and deterministic' (their statements: YtliekndkjjaldaaGreatTotals.lean).
  GIVEN WITH THE SEED: the statements are not yours to turn. If you find one false, say at which input.
  Laid BY PROGRAM, IN A SANDBOX (cutbox-rows.mjs): the forced cells as the released guide's own fill.sh prints them over the translation 01afe6c8f54b91fb… (all of the seat's roots in one cut). By AI agents, Wed Nov 11 2026. No macro, syntax, notation, axiom, sorry.
-/
import Derived.Test.YtliekndkjjaldaaGreatChecked
import GoSem.Claim
import GoSem.ClaimJoined
import GoSem.ClaimMapViews
import Derived.JoinedTies
import Derived.KernelRfl
namespace Go.Proofs.YtliekndkjjaldaaGreat
/- THE CELL 'sum', in the pinned program and in every row, IS THE sha256 OF THE DUMP (.gsa) THAT YtliekndkjjaldaaGreatProg.lean LOADS. Nothing in Lean hashes anything: it is a label: what it is worth is what the hold of that sum in a sandbox is worth. -/
noncomputable def Tryz.pinned : Pinned := { name := "ytliekndkjjaldaagreat", sum := "01afe6c8f54b91fb86cb5260a1de2a3011cf0e7c29388853f1c1992d1eaa26cb", checked := Tryz.checked }
namespace Rows
def none {H : Type} : Left H := { results := [], args := [] }

/-- 'dredgerlaw06.NodesLives': WHATEVER THE INPUT: true; the input reads as it did. -/
def nodesLivesSpec : ChangeSpec := { name := "nodesLives", fn := fun _ => fun
  | [d1, d2] => { results := [.lit (.bool true)], args := [d1, d2] }
  | _ => none }
def nodesLivesRow : OpenClaim := { program := "ytliekndkjjaldaagreat", sum := "01afe6c8f54b91fb86cb5260a1de2a3011cf0e7c29388853f1c1992d1eaa26cb", func := "dredger/dredgerlaw06.NodesLives", spec := "nodesLives", inPlace := ["internal/bytealg.IndexByteString", "internal/bytealg.IndexString"], unfollowed := true, recurses := true, named := ["internal/bytealg.MaxLen"], apart := false }
def NodesLivesSaid : Prop := nodesLivesRow.holds Tryz.pinned (OpenSpec.ofChange nodesLivesSpec)

/-- ITS FALSE NEIGHBOUR: 'it returns false'. Refute it at one input. -/
def nodesLivesWrong : ChangeSpec := { name := "nodesLives", fn := fun _ => fun
  | [d1, d2] => { results := [.lit (.bool false)], args := [d1, d2] }
  | _ => none }
def NodesLivesWrongFalsely : Prop := nodesLivesRow.holds Tryz.pinned (OpenSpec.ofChange nodesLivesWrong)

/-- 'dredgerlaw06.NodesLinks': WHATEVER THE INPUT: true; the input reads as it did. -/
def nodesLinksSpec : ChangeSpec := { name := "nodesLinks", fn := fun _ => fun
  | [d] => { results := [.lit (.bool true)], args := [d] }
  | _ => none }
def nodesLinksRow : OpenClaim := { program := "ytliekndkjjaldaagreat", sum := "01afe6c8f54b91fb86cb5260a1de2a3011cf0e7c29388853f1c1992d1eaa26cb", func := "dredger/dredgerlaw06.NodesLinks", spec := "nodesLinks", inPlace := ["internal/bytealg.IndexByteString", "internal/bytealg.IndexString"], unfollowed := true, recurses := true, named := ["internal/bytealg.MaxLen"], apart := false }
def NodesLinksSaid : Prop := nodesLinksRow.holds Tryz.pinned (OpenSpec.ofChange nodesLinksSpec)

/-- ITS FALSE NEIGHBOUR: 'it returns false'. Refute it at one input. -/
def nodesLinksWrong : ChangeSpec := { name := "nodesLinks", fn := fun _ => fun
  | [d] => { results := [.lit (.bool false)], args := [d] }
  | _ => none }
def NodesLinksWrongFalsely : Prop := nodesLinksRow.holds Tryz.pinned (OpenSpec.ofChange nodesLinksWrong)

/-- 'dredgerlaw06.NodesBlocks': WHATEVER THE INPUT: true; the input reads as it did. -/
def nodesBlocksSpec : ChangeSpec := { name := "nodesBlocks", fn := fun _ => fun
  | [d] => { results := [.lit (.bool true)], args := [d] }
  | _ => none }
def nodesBlocksRow : OpenClaim := { program := "ytliekndkjjaldaagreat", sum := "01afe6c8f54b91fb86cb5260a1de2a3011cf0e7c29388853f1c1992d1eaa26cb", func := "dredger/dredgerlaw06.NodesBlocks", spec := "nodesBlocks", inPlace := ["internal/bytealg.IndexByteString", "internal/bytealg.IndexString"], unfollowed := true, recurses := true, named := ["internal/bytealg.MaxLen"], apart := false }
def NodesBlocksSaid : Prop := nodesBlocksRow.holds Tryz.pinned (OpenSpec.ofChange nodesBlocksSpec)

/-- ITS FALSE NEIGHBOUR: 'it returns false'. Refute it at one input. -/
def nodesBlocksWrong : ChangeSpec := { name := "nodesBlocks", fn := fun _ => fun
  | [d] => { results := [.lit (.bool false)], args := [d] }
  | _ => none }
def NodesBlocksWrongFalsely : Prop := nodesBlocksRow.holds Tryz.pinned (OpenSpec.ofChange nodesBlocksWrong)

/- THE SECOND FORM. 'bulk': how many values and letters a reading holds, each counted each time it is reached (what is shared counts as often as it is met; a slice's spare places count too). A statement '..UptoSaid' is the law's where the arguments, and the package variables that the reading takes, are together of bulk at most 1048576: NARROWER than '..Said'. Prove '..Said' where nothing that the law and all that it calls make is longer than what came in: it says more and counts as full. Else prove '..UptoSaid'. A law counts once. -/
mutual
def uptoBulk {H : Type} : DataW H → Nat
  | .lit (.string bytes) => bytes.length + 1
  | .lit _ => 1
  | .nil => 1
  | .ptr d => uptoBulk d + 1
  | .slice elems spare => uptoBulkAll elems + uptoBulkAll spare + 1
  | .agg parts => uptoBulkAll parts + 1
  | .iface _ d => uptoBulk d + 1
  | .map entries => uptoBulkEntries entries + 1
  | .held _ => 1
def uptoBulkAll {H : Type} : List (DataW H) → Nat
  | [] => 0
  | d :: r => uptoBulk d + uptoBulkAll r
def uptoBulkEntries {H : Type} : List (Lit × DataW H) → Nat
  | [] => 0
  | x :: r => uptoBulkEntry x + uptoBulkEntries r
def uptoBulkEntry {H : Type} : Lit × DataW H → Nat
  | (.string bytes, d) => bytes.length + uptoBulk d + 1
  | (_, d) => uptoBulk d + 1
 end
def uptoSmall : (H : Type) → List (DataW H) → Bool := fun _ ds => decide (uptoBulkAll ds ≤ 1048576)
def OpenSpec.upto (s : _root_.Go.ChangeSpec) : _root_.Go.OpenSpec := { _root_.Go.OpenSpec.ofChange s with cond := some uptoSmall }

/-- 'dredgerlaw06.NodesLives', WHERE WHAT IT READS IS OF BULK AT MOST 1048576: true; the input reads as it did. -/
def nodesLivesUptoRow : OpenClaim := { program := "ytliekndkjjaldaagreat", sum := "01afe6c8f54b91fb86cb5260a1de2a3011cf0e7c29388853f1c1992d1eaa26cb", func := "dredger/dredgerlaw06.NodesLives", spec := "nodesLives", inPlace := ["internal/bytealg.IndexByteString", "internal/bytealg.IndexString"], unfollowed := true, recurses := true, named := ["internal/bytealg.MaxLen"], apart := false, narrowed := true }
def NodesLivesUptoSaid : Prop := nodesLivesUptoRow.holds Tryz.pinned (OpenSpec.upto nodesLivesSpec)

/-- 'dredgerlaw06.NodesLinks', WHERE WHAT IT READS IS OF BULK AT MOST 1048576: true; the input reads as it did. -/
def nodesLinksUptoRow : OpenClaim := { program := "ytliekndkjjaldaagreat", sum := "01afe6c8f54b91fb86cb5260a1de2a3011cf0e7c29388853f1c1992d1eaa26cb", func := "dredger/dredgerlaw06.NodesLinks", spec := "nodesLinks", inPlace := ["internal/bytealg.IndexByteString", "internal/bytealg.IndexString"], unfollowed := true, recurses := true, named := ["internal/bytealg.MaxLen"], apart := false, narrowed := true }
def NodesLinksUptoSaid : Prop := nodesLinksUptoRow.holds Tryz.pinned (OpenSpec.upto nodesLinksSpec)

/-- 'dredgerlaw06.NodesBlocks', WHERE WHAT IT READS IS OF BULK AT MOST 1048576: true; the input reads as it did. -/
def nodesBlocksUptoRow : OpenClaim := { program := "ytliekndkjjaldaagreat", sum := "01afe6c8f54b91fb86cb5260a1de2a3011cf0e7c29388853f1c1992d1eaa26cb", func := "dredger/dredgerlaw06.NodesBlocks", spec := "nodesBlocks", inPlace := ["internal/bytealg.IndexByteString", "internal/bytealg.IndexString"], unfollowed := true, recurses := true, named := ["internal/bytealg.MaxLen"], apart := false, narrowed := true }
def NodesBlocksUptoSaid : Prop := nodesBlocksUptoRow.holds Tryz.pinned (OpenSpec.upto nodesBlocksSpec)

end Rows
end Go.Proofs.YtliekndkjjaldaaGreat
