/-
  No cell of these rows narrows 'for every input' (looked for: loops, veiled, ifaces, maps, wideKeys, modest, calm, conditions, laid).
  DERIVED. THE GIVEN ROWS OF THIS SEAT. 4 by the template 'for every input the law returns true; each argument reads behind the call as it read before'; 0 by the template 'total and deterministic' (their statements: YtbglhmcahnkbfaaGreatTotals.lean).
  GIVEN WITH THE SEED: the statements are not yours to turn. If you find one false, say at which input.
  Laid BY PROGRAM, IN A SANDBOX (cutbox-rows.mjs): the forced cells as the released guide's own fill.sh prints them over the translation 190a6ce6e6a60146… (all of the seat's roots in one cut). By AI agents, Wed Nov 11 2026. No macro, syntax, notation, axiom, sorry.
-/
import Derived.Test.YtbglhmcahnkbfaaGreatChecked
import GoSem.Claim
import GoSem.ClaimJoined
import GoSem.ClaimMapViews
import Derived.JoinedTies
import Derived.KernelRfl
namespace Go.Proofs.YtbglhmcahnkbfaaGreat
/- THE CELL 'sum', in the pinned program and in every row, IS THE sha256 OF THE DUMP (.gsa) THAT YtbglhmcahnkbfaaGreatProg.lean LOADS. Nothing in Lean hashes anything: it is a label: what it is worth is what the hold of that sum in a sandbox is worth. -/
noncomputable def Tryz.pinned : Pinned := { name := "ytbglhmcahnkbfaagreat", sum := "190a6ce6e6a6014660ed2362e7e43d5882de3c40595285f8a5bcee015bf4ba07", checked := Tryz.checked }
namespace Rows
def none {H : Type} : Left H := { results := [], args := [] }

/-- 'dredgerlaw09.ProcsLives': WHATEVER THE INPUT: true; the input reads as it did. -/
def procsLivesSpec : ChangeSpec := { name := "procsLives", fn := fun _ => fun
  | [d1, d2] => { results := [.lit (.bool true)], args := [d1, d2] }
  | _ => none }
def procsLivesRow : OpenClaim := { program := "ytbglhmcahnkbfaagreat", sum := "190a6ce6e6a6014660ed2362e7e43d5882de3c40595285f8a5bcee015bf4ba07", func := "dredger/dredgerlaw09.ProcsLives", spec := "procsLives", inPlace := ["internal/bytealg.IndexByteString", "internal/bytealg.IndexString"], unfollowed := true, recurses := true, named := ["internal/bytealg.MaxLen"], apart := false }
def ProcsLivesSaid : Prop := procsLivesRow.holds Tryz.pinned (OpenSpec.ofChange procsLivesSpec)

/-- ITS FALSE NEIGHBOUR: 'it returns false'. Refute it at one input. -/
def procsLivesWrong : ChangeSpec := { name := "procsLives", fn := fun _ => fun
  | [d1, d2] => { results := [.lit (.bool false)], args := [d1, d2] }
  | _ => none }
def ProcsLivesWrongFalsely : Prop := procsLivesRow.holds Tryz.pinned (OpenSpec.ofChange procsLivesWrong)

/-- 'dredgerlaw09.ProcsHeld': WHATEVER THE INPUT: true; the input reads as it did. -/
def procsHeldSpec : ChangeSpec := { name := "procsHeld", fn := fun _ => fun
  | [d] => { results := [.lit (.bool true)], args := [d] }
  | _ => none }
def procsHeldRow : OpenClaim := { program := "ytbglhmcahnkbfaagreat", sum := "190a6ce6e6a6014660ed2362e7e43d5882de3c40595285f8a5bcee015bf4ba07", func := "dredger/dredgerlaw09.ProcsHeld", spec := "procsHeld", inPlace := ["internal/bytealg.IndexByteString", "internal/bytealg.IndexString"], unfollowed := true, recurses := true, named := ["internal/bytealg.MaxLen"], apart := false }
def ProcsHeldSaid : Prop := procsHeldRow.holds Tryz.pinned (OpenSpec.ofChange procsHeldSpec)

/-- ITS FALSE NEIGHBOUR: 'it returns false'. Refute it at one input. -/
def procsHeldWrong : ChangeSpec := { name := "procsHeld", fn := fun _ => fun
  | [d] => { results := [.lit (.bool false)], args := [d] }
  | _ => none }
def ProcsHeldWrongFalsely : Prop := procsHeldRow.holds Tryz.pinned (OpenSpec.ofChange procsHeldWrong)

/-- 'dredgerlaw09.ProcsOver': WHATEVER THE INPUT: true; the input reads as it did. -/
def procsOverSpec : ChangeSpec := { name := "procsOver", fn := fun _ => fun
  | [d] => { results := [.lit (.bool true)], args := [d] }
  | _ => none }
def procsOverRow : OpenClaim := { program := "ytbglhmcahnkbfaagreat", sum := "190a6ce6e6a6014660ed2362e7e43d5882de3c40595285f8a5bcee015bf4ba07", func := "dredger/dredgerlaw09.ProcsOver", spec := "procsOver", inPlace := ["internal/bytealg.IndexByteString", "internal/bytealg.IndexString"], unfollowed := true, recurses := true, named := ["internal/bytealg.MaxLen"], apart := false }
def ProcsOverSaid : Prop := procsOverRow.holds Tryz.pinned (OpenSpec.ofChange procsOverSpec)

/-- ITS FALSE NEIGHBOUR: 'it returns false'. Refute it at one input. -/
def procsOverWrong : ChangeSpec := { name := "procsOver", fn := fun _ => fun
  | [d] => { results := [.lit (.bool false)], args := [d] }
  | _ => none }
def ProcsOverWrongFalsely : Prop := procsOverRow.holds Tryz.pinned (OpenSpec.ofChange procsOverWrong)

/-- 'dredgerlaw09.ProcsDescriptors': WHATEVER THE INPUT: true; the input reads as it did. -/
def procsDescriptorsSpec : ChangeSpec := { name := "procsDescriptors", fn := fun _ => fun
  | [d] => { results := [.lit (.bool true)], args := [d] }
  | _ => none }
def procsDescriptorsRow : OpenClaim := { program := "ytbglhmcahnkbfaagreat", sum := "190a6ce6e6a6014660ed2362e7e43d5882de3c40595285f8a5bcee015bf4ba07", func := "dredger/dredgerlaw09.ProcsDescriptors", spec := "procsDescriptors", inPlace := ["internal/bytealg.IndexByteString", "internal/bytealg.IndexString"], unfollowed := true, recurses := true, named := ["internal/bytealg.MaxLen"], apart := false }
def ProcsDescriptorsSaid : Prop := procsDescriptorsRow.holds Tryz.pinned (OpenSpec.ofChange procsDescriptorsSpec)

/-- ITS FALSE NEIGHBOUR: 'it returns false'. Refute it at one input. -/
def procsDescriptorsWrong : ChangeSpec := { name := "procsDescriptors", fn := fun _ => fun
  | [d] => { results := [.lit (.bool false)], args := [d] }
  | _ => none }
def ProcsDescriptorsWrongFalsely : Prop := procsDescriptorsRow.holds Tryz.pinned (OpenSpec.ofChange procsDescriptorsWrong)

/- THE SECOND FORM. 'bulk': how many values and letters a reading holds, each counted each time it is reached (what is shared counts as often as it is met; a slice's spare places count too). A statement '..UptoSaid' is the law's where the arguments, and the package variables that the reading takes, are together of bulk at most 1048576: NARROWER than '..Said'. Prove '..Said' where nothing that the law and all that it calls make is longer than what came in: it says more and counts as full. Else prove '..UptoSaid'. A law counts once. -/
mutual
def uptoBulk {H : Type} : DataW H → Nat
  | .lit (.string bytes) => bytes.length + 1
  | .lit _ => 1
  | .nil => 1
  | .ptr d => uptoBulk d + 1
  | .slice elems spare => uptoBulkAll elems + uptoBulkAll spare + 1
  | .agg parts => uptoBulkAll parts + 1
  | .iface _ d => uptoBulk d + 1
  | .map entries => uptoBulkEntries entries + 1
  | .held _ => 1
def uptoBulkAll {H : Type} : List (DataW H) → Nat
  | [] => 0
  | d :: r => uptoBulk d + uptoBulkAll r
def uptoBulkEntries {H : Type} : List (Lit × DataW H) → Nat
  | [] => 0
  | x :: r => uptoBulkEntry x + uptoBulkEntries r
def uptoBulkEntry {H : Type} : Lit × DataW H → Nat
  | (.string bytes, d) => bytes.length + uptoBulk d + 1
  | (_, d) => uptoBulk d + 1
 end
def uptoSmall : (H : Type) → List (DataW H) → Bool := fun _ ds => decide (uptoBulkAll ds ≤ 1048576)
def OpenSpec.upto (s : _root_.Go.ChangeSpec) : _root_.Go.OpenSpec := { _root_.Go.OpenSpec.ofChange s with cond := some uptoSmall }

/-- 'dredgerlaw09.ProcsLives', WHERE WHAT IT READS IS OF BULK AT MOST 1048576: true; the input reads as it did. -/
def procsLivesUptoRow : OpenClaim := { program := "ytbglhmcahnkbfaagreat", sum := "190a6ce6e6a6014660ed2362e7e43d5882de3c40595285f8a5bcee015bf4ba07", func := "dredger/dredgerlaw09.ProcsLives", spec := "procsLives", inPlace := ["internal/bytealg.IndexByteString", "internal/bytealg.IndexString"], unfollowed := true, recurses := true, named := ["internal/bytealg.MaxLen"], apart := false, narrowed := true }
def ProcsLivesUptoSaid : Prop := procsLivesUptoRow.holds Tryz.pinned (OpenSpec.upto procsLivesSpec)

/-- 'dredgerlaw09.ProcsHeld', WHERE WHAT IT READS IS OF BULK AT MOST 1048576: true; the input reads as it did. -/
def procsHeldUptoRow : OpenClaim := { program := "ytbglhmcahnkbfaagreat", sum := "190a6ce6e6a6014660ed2362e7e43d5882de3c40595285f8a5bcee015bf4ba07", func := "dredger/dredgerlaw09.ProcsHeld", spec := "procsHeld", inPlace := ["internal/bytealg.IndexByteString", "internal/bytealg.IndexString"], unfollowed := true, recurses := true, named := ["internal/bytealg.MaxLen"], apart := false, narrowed := true }
def ProcsHeldUptoSaid : Prop := procsHeldUptoRow.holds Tryz.pinned (OpenSpec.upto procsHeldSpec)

/-- 'dredgerlaw09.ProcsOver', WHERE WHAT IT READS IS OF BULK AT MOST 1048576: true; the input reads as it did. -/
def procsOverUptoRow : OpenClaim := { program := "ytbglhmcahnkbfaagreat", sum := "190a6ce6e6a6014660ed2362e7e43d5882de3c40595285f8a5bcee015bf4ba07", func := "dredger/dredgerlaw09.ProcsOver", spec := "procsOver", inPlace := ["internal/bytealg.IndexByteString", "internal/bytealg.IndexString"], unfollowed := true, recurses := true, named := ["internal/bytealg.MaxLen"], apart := false, narrowed := true }
def ProcsOverUptoSaid : Prop := procsOverUptoRow.holds Tryz.pinned (OpenSpec.upto procsOverSpec)

/-- 'dredgerlaw09.ProcsDescriptors', WHERE WHAT IT READS IS OF BULK AT MOST 1048576: true; the input reads as it did. -/
def procsDescriptorsUptoRow : OpenClaim := { program := "ytbglhmcahnkbfaagreat", sum := "190a6ce6e6a6014660ed2362e7e43d5882de3c40595285f8a5bcee015bf4ba07", func := "dredger/dredgerlaw09.ProcsDescriptors", spec := "procsDescriptors", inPlace := ["internal/bytealg.IndexByteString", "internal/bytealg.IndexString"], unfollowed := true, recurses := true, named := ["internal/bytealg.MaxLen"], apart := false, narrowed := true }
def ProcsDescriptorsUptoSaid : Prop := procsDescriptorsUptoRow.holds Tryz.pinned (OpenSpec.upto procsDescriptorsSpec)

end Rows
end Go.Proofs.YtbglhmcahnkbfaaGreat
