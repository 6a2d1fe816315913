/-
  No cell of these rows narrows 'for every input' (looked for: loops, veiled, ifaces, maps, wideKeys, modest, calm, conditions, laid).
  DERIVED. THE GIVEN ROWS OF THIS SEAT. 4 by the template 'for every input the law returns true; each argument reads behind the call as it read before'; 0 by the template 'total and deterministic' (their statements: YtpbhcmfbcnihiaaGreatTotals.lean).
  GIVEN WITH THE SEED: the statements are not yours to turn. If you find one false, say at which input.
  Laid BY PROGRAM, IN A SANDBOX (cutbox-rows.mjs): the forced cells as the released guide's own fill.sh prints them over the translation 9b373d0ef46a6470… (all of the seat's roots in one cut). By AI agents, Wed Nov 11 2026. No macro, syntax, notation, axiom, sorry.
-/
import Derived.Test.YtpbhcmfbcnihiaaGreatChecked
import GoSem.Claim
import GoSem.ClaimJoined
import GoSem.ClaimMapViews
import Derived.JoinedTies
import Derived.KernelRfl
namespace Go.Proofs.YtpbhcmfbcnihiaaGreat
/- THE CELL 'sum', in the pinned program and in every row, IS THE sha256 OF THE DUMP (.gsa) THAT YtpbhcmfbcnihiaaGreatProg.lean LOADS. Nothing in Lean hashes anything: it is a label: what it is worth is what the hold of that sum in a sandbox is worth. -/
noncomputable def Tryz.pinned : Pinned := { name := "ytpbhcmfbcnihiaagreat", sum := "9b373d0ef46a6470a5f663a235ae90cdb00f36d89675f9f5afed1d68226139c1", checked := Tryz.checked }
namespace Rows
def none {H : Type} : Left H := { results := [], args := [] }

/-- 'dredgerlaw18.BinaryWrites': WHATEVER THE INPUT: true; the input reads as it did. -/
def binaryWritesSpec : ChangeSpec := { name := "binaryWrites", fn := fun _ => fun
  | [d] => { results := [.lit (.bool true)], args := [d] }
  | _ => none }
def binaryWritesRow : OpenClaim := { program := "ytpbhcmfbcnihiaagreat", sum := "9b373d0ef46a6470a5f663a235ae90cdb00f36d89675f9f5afed1d68226139c1", func := "dredger/dredgerlaw18.BinaryWrites", spec := "binaryWrites", unfollowed := true, recurses := true, apart := false }
def BinaryWritesSaid : Prop := binaryWritesRow.holds Tryz.pinned (OpenSpec.ofChange binaryWritesSpec)

/-- ITS FALSE NEIGHBOUR: 'it returns false'. Refute it at one input. -/
def binaryWritesWrong : ChangeSpec := { name := "binaryWrites", fn := fun _ => fun
  | [d] => { results := [.lit (.bool false)], args := [d] }
  | _ => none }
def BinaryWritesWrongFalsely : Prop := binaryWritesRow.holds Tryz.pinned (OpenSpec.ofChange binaryWritesWrong)

/-- 'dredgerlaw18.BinaryReads': WHATEVER THE INPUT: true; the input reads as it did. -/
def binaryReadsSpec : ChangeSpec := { name := "binaryReads", fn := fun _ => fun
  | [d] => { results := [.lit (.bool true)], args := [d] }
  | _ => none }
def binaryReadsRow : OpenClaim := { program := "ytpbhcmfbcnihiaagreat", sum := "9b373d0ef46a6470a5f663a235ae90cdb00f36d89675f9f5afed1d68226139c1", func := "dredger/dredgerlaw18.BinaryReads", spec := "binaryReads", unfollowed := true, recurses := true, apart := false }
def BinaryReadsSaid : Prop := binaryReadsRow.holds Tryz.pinned (OpenSpec.ofChange binaryReadsSpec)

/-- ITS FALSE NEIGHBOUR: 'it returns false'. Refute it at one input. -/
def binaryReadsWrong : ChangeSpec := { name := "binaryReads", fn := fun _ => fun
  | [d] => { results := [.lit (.bool false)], args := [d] }
  | _ => none }
def BinaryReadsWrongFalsely : Prop := binaryReadsRow.holds Tryz.pinned (OpenSpec.ofChange binaryReadsWrong)

/-- 'dredgerlaw18.BinaryBack': WHATEVER THE INPUT: true; the input reads as it did. -/
def binaryBackSpec : ChangeSpec := { name := "binaryBack", fn := fun _ => fun
  | [d1, d2] => { results := [.lit (.bool true)], args := [d1, d2] }
  | _ => none }
def binaryBackRow : OpenClaim := { program := "ytpbhcmfbcnihiaagreat", sum := "9b373d0ef46a6470a5f663a235ae90cdb00f36d89675f9f5afed1d68226139c1", func := "dredger/dredgerlaw18.BinaryBack", spec := "binaryBack", unfollowed := true, recurses := true, apart := false }
def BinaryBackSaid : Prop := binaryBackRow.holds Tryz.pinned (OpenSpec.ofChange binaryBackSpec)

/-- ITS FALSE NEIGHBOUR: 'it returns false'. Refute it at one input. -/
def binaryBackWrong : ChangeSpec := { name := "binaryBack", fn := fun _ => fun
  | [d1, d2] => { results := [.lit (.bool false)], args := [d1, d2] }
  | _ => none }
def BinaryBackWrongFalsely : Prop := binaryBackRow.holds Tryz.pinned (OpenSpec.ofChange binaryBackWrong)

/-- 'dredgerlaw18.BinaryTorn': WHATEVER THE INPUT: true; the input reads as it did. -/
def binaryTornSpec : ChangeSpec := { name := "binaryTorn", fn := fun _ => fun
  | [d1, d2, d3] => { results := [.lit (.bool true)], args := [d1, d2, d3] }
  | _ => none }
def binaryTornRow : OpenClaim := { program := "ytpbhcmfbcnihiaagreat", sum := "9b373d0ef46a6470a5f663a235ae90cdb00f36d89675f9f5afed1d68226139c1", func := "dredger/dredgerlaw18.BinaryTorn", spec := "binaryTorn", unfollowed := true, recurses := true, apart := false }
def BinaryTornSaid : Prop := binaryTornRow.holds Tryz.pinned (OpenSpec.ofChange binaryTornSpec)

/-- ITS FALSE NEIGHBOUR: 'it returns false'. Refute it at one input. -/
def binaryTornWrong : ChangeSpec := { name := "binaryTorn", fn := fun _ => fun
  | [d1, d2, d3] => { results := [.lit (.bool false)], args := [d1, d2, d3] }
  | _ => none }
def BinaryTornWrongFalsely : Prop := binaryTornRow.holds Tryz.pinned (OpenSpec.ofChange binaryTornWrong)

/- THE SECOND FORM. 'bulk': how many values and letters a reading holds, each counted each time it is reached (what is shared counts as often as it is met; a slice's spare places count too). A statement '..UptoSaid' is the law's where the arguments, and the package variables that the reading takes, are together of bulk at most 1048576: NARROWER than '..Said'. Prove '..Said' where nothing that the law and all that it calls make is longer than what came in: it says more and counts as full. Else prove '..UptoSaid'. A law counts once. -/
mutual
def uptoBulk {H : Type} : DataW H → Nat
  | .lit (.string bytes) => bytes.length + 1
  | .lit _ => 1
  | .nil => 1
  | .ptr d => uptoBulk d + 1
  | .slice elems spare => uptoBulkAll elems + uptoBulkAll spare + 1
  | .agg parts => uptoBulkAll parts + 1
  | .iface _ d => uptoBulk d + 1
  | .map entries => uptoBulkEntries entries + 1
  | .held _ => 1
def uptoBulkAll {H : Type} : List (DataW H) → Nat
  | [] => 0
  | d :: r => uptoBulk d + uptoBulkAll r
def uptoBulkEntries {H : Type} : List (Lit × DataW H) → Nat
  | [] => 0
  | x :: r => uptoBulkEntry x + uptoBulkEntries r
def uptoBulkEntry {H : Type} : Lit × DataW H → Nat
  | (.string bytes, d) => bytes.length + uptoBulk d + 1
  | (_, d) => uptoBulk d + 1
 end
def uptoSmall : (H : Type) → List (DataW H) → Bool := fun _ ds => decide (uptoBulkAll ds ≤ 1048576)
def OpenSpec.upto (s : _root_.Go.ChangeSpec) : _root_.Go.OpenSpec := { _root_.Go.OpenSpec.ofChange s with cond := some uptoSmall }

/-- 'dredgerlaw18.BinaryWrites', WHERE WHAT IT READS IS OF BULK AT MOST 1048576: true; the input reads as it did. -/
def binaryWritesUptoRow : OpenClaim := { program := "ytpbhcmfbcnihiaagreat", sum := "9b373d0ef46a6470a5f663a235ae90cdb00f36d89675f9f5afed1d68226139c1", func := "dredger/dredgerlaw18.BinaryWrites", spec := "binaryWrites", unfollowed := true, recurses := true, apart := false, narrowed := true }
def BinaryWritesUptoSaid : Prop := binaryWritesUptoRow.holds Tryz.pinned (OpenSpec.upto binaryWritesSpec)

/-- 'dredgerlaw18.BinaryReads', WHERE WHAT IT READS IS OF BULK AT MOST 1048576: true; the input reads as it did. -/
def binaryReadsUptoRow : OpenClaim := { program := "ytpbhcmfbcnihiaagreat", sum := "9b373d0ef46a6470a5f663a235ae90cdb00f36d89675f9f5afed1d68226139c1", func := "dredger/dredgerlaw18.BinaryReads", spec := "binaryReads", unfollowed := true, recurses := true, apart := false, narrowed := true }
def BinaryReadsUptoSaid : Prop := binaryReadsUptoRow.holds Tryz.pinned (OpenSpec.upto binaryReadsSpec)

/-- 'dredgerlaw18.BinaryBack', WHERE WHAT IT READS IS OF BULK AT MOST 1048576: true; the input reads as it did. -/
def binaryBackUptoRow : OpenClaim := { program := "ytpbhcmfbcnihiaagreat", sum := "9b373d0ef46a6470a5f663a235ae90cdb00f36d89675f9f5afed1d68226139c1", func := "dredger/dredgerlaw18.BinaryBack", spec := "binaryBack", unfollowed := true, recurses := true, apart := false, narrowed := true }
def BinaryBackUptoSaid : Prop := binaryBackUptoRow.holds Tryz.pinned (OpenSpec.upto binaryBackSpec)

/-- 'dredgerlaw18.BinaryTorn', WHERE WHAT IT READS IS OF BULK AT MOST 1048576: true; the input reads as it did. -/
def binaryTornUptoRow : OpenClaim := { program := "ytpbhcmfbcnihiaagreat", sum := "9b373d0ef46a6470a5f663a235ae90cdb00f36d89675f9f5afed1d68226139c1", func := "dredger/dredgerlaw18.BinaryTorn", spec := "binaryTorn", unfollowed := true, recurses := true, apart := false, narrowed := true }
def BinaryTornUptoSaid : Prop := binaryTornUptoRow.holds Tryz.pinned (OpenSpec.upto binaryTornSpec)

end Rows
end Go.Proofs.YtpbhcmfbcnihiaaGreat
