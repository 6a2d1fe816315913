/-
  NARROWER THAN 'FOR EVERY INPUT', by the rows' own cells (each row's printed sentence says how): ProgSizes: loops · ProgSame: loops · ProgUses: loops.
  DERIVED. THE GIVEN ROWS OF THIS SEAT. 5 by the template 'for every input the law returns true; each argument reads behind the call as it read before'; 0 by the template 'total and deterministic' (their statements: YtkgejeamcgodhaaTotals.lean).
  GIVEN WITH THE SEED: the statements are not yours to turn. If you find one false, say at which input.
  Laid BY PROGRAM, IN A SANDBOX (cutbox-rows.mjs): the forced cells as the released guide's own fill.sh prints them over the translation 172644d0abfae08a… (all of the seat's roots in one cut). By AI agents, Wed Nov 11 2026. No macro, syntax, notation, axiom, sorry.
-/
import Derived.Test.YtkgejeamcgodhaaChecked
import GoSem.Claim
import GoSem.ClaimJoined
import GoSem.ClaimMapViews
import Derived.JoinedTies
import Derived.KernelRfl
namespace Go.Proofs.Ytkgejeamcgodhaa
/- THE CELL 'sum', in the pinned program and in every row, IS THE sha256 OF THE DUMP (.gsa) THAT YtkgejeamcgodhaaProg.lean LOADS. Nothing in Lean hashes anything: it is a label: what it is worth is what the hold of that sum in a sandbox is worth. -/
noncomputable def Try.pinned : Pinned := { name := "ytkgejeamcgodhaa", sum := "172644d0abfae08a6c4f9edabae2102ddba3338fe328adf533e5a86e5e1c15ed", checked := Try.checked }
namespace Rows
def none {H : Type} : Left H := { results := [], args := [] }

/-- 'dredgerlaw15.ProgCan': WHATEVER THE INPUT: true; the input reads as it did. -/
def progCanSpec : ChangeSpec := { name := "progCan", fn := fun _ => fun
  | [d] => { results := [.lit (.bool true)], args := [d] }
  | _ => none }
def progCanRow : OpenClaim := { program := "ytkgejeamcgodhaa", sum := "172644d0abfae08a6c4f9edabae2102ddba3338fe328adf533e5a86e5e1c15ed", func := "dredger/dredgerlaw15.ProgCan", spec := "progCan", unfollowed := true, recurses := true, apart := false }
def ProgCanSaid : Prop := progCanRow.holds Try.pinned (OpenSpec.ofChange progCanSpec)

/-- ITS FALSE NEIGHBOUR: 'it returns false'. Refute it at one input. -/
def progCanWrong : ChangeSpec := { name := "progCan", fn := fun _ => fun
  | [d] => { results := [.lit (.bool false)], args := [d] }
  | _ => none }
def ProgCanWrongFalsely : Prop := progCanRow.holds Try.pinned (OpenSpec.ofChange progCanWrong)

/-- 'dredgerlaw15.ProgSizes': WHATEVER THE INPUT: true; the input reads as it did. -/
def progSizesSpec : ChangeSpec := { name := "progSizes", fn := fun _ => fun
  | [d1, d2, d3] => { results := [.lit (.bool true)], args := [d1, d2, d3] }
  | _ => none }
def progSizesRow : OpenClaim := { program := "ytkgejeamcgodhaa", sum := "172644d0abfae08a6c4f9edabae2102ddba3338fe328adf533e5a86e5e1c15ed", func := "dredger/dredgerlaw15.ProgSizes", spec := "progSizes", unfollowed := true, recurses := true, loops := true, apart := false }
def ProgSizesSaid : Prop := progSizesRow.holds Try.pinned (OpenSpec.ofChange progSizesSpec)

/-- ITS FALSE NEIGHBOUR: 'it returns false'. Refute it at one input. -/
def progSizesWrong : ChangeSpec := { name := "progSizes", fn := fun _ => fun
  | [d1, d2, d3] => { results := [.lit (.bool false)], args := [d1, d2, d3] }
  | _ => none }
def ProgSizesWrongFalsely : Prop := progSizesRow.holds Try.pinned (OpenSpec.ofChange progSizesWrong)

/-- 'dredgerlaw15.ProgLeast': WHATEVER THE INPUT: true; the input reads as it did. -/
def progLeastSpec : ChangeSpec := { name := "progLeast", fn := fun _ => fun
  | [d1, d2] => { results := [.lit (.bool true)], args := [d1, d2] }
  | _ => none }
def progLeastRow : OpenClaim := { program := "ytkgejeamcgodhaa", sum := "172644d0abfae08a6c4f9edabae2102ddba3338fe328adf533e5a86e5e1c15ed", func := "dredger/dredgerlaw15.ProgLeast", spec := "progLeast", unfollowed := true, recurses := true, apart := false }
def ProgLeastSaid : Prop := progLeastRow.holds Try.pinned (OpenSpec.ofChange progLeastSpec)

/-- ITS FALSE NEIGHBOUR: 'it returns false'. Refute it at one input. -/
def progLeastWrong : ChangeSpec := { name := "progLeast", fn := fun _ => fun
  | [d1, d2] => { results := [.lit (.bool false)], args := [d1, d2] }
  | _ => none }
def ProgLeastWrongFalsely : Prop := progLeastRow.holds Try.pinned (OpenSpec.ofChange progLeastWrong)

/-- 'dredgerlaw15.ProgSame': WHATEVER THE INPUT: true; the input reads as it did. -/
def progSameSpec : ChangeSpec := { name := "progSame", fn := fun _ => fun
  | [d1, d2] => { results := [.lit (.bool true)], args := [d1, d2] }
  | _ => none }
def progSameRow : OpenClaim := { program := "ytkgejeamcgodhaa", sum := "172644d0abfae08a6c4f9edabae2102ddba3338fe328adf533e5a86e5e1c15ed", func := "dredger/dredgerlaw15.ProgSame", spec := "progSame", unfollowed := true, recurses := true, loops := true, apart := false }
def ProgSameSaid : Prop := progSameRow.holds Try.pinned (OpenSpec.ofChange progSameSpec)

/-- ITS FALSE NEIGHBOUR: 'it returns false'. Refute it at one input. -/
def progSameWrong : ChangeSpec := { name := "progSame", fn := fun _ => fun
  | [d1, d2] => { results := [.lit (.bool false)], args := [d1, d2] }
  | _ => none }
def ProgSameWrongFalsely : Prop := progSameRow.holds Try.pinned (OpenSpec.ofChange progSameWrong)

/-- 'dredgerlaw15.ProgUses': WHATEVER THE INPUT: true; the input reads as it did. -/
def progUsesSpec : ChangeSpec := { name := "progUses", fn := fun _ => fun
  | [d1, d2] => { results := [.lit (.bool true)], args := [d1, d2] }
  | _ => none }
def progUsesRow : OpenClaim := { program := "ytkgejeamcgodhaa", sum := "172644d0abfae08a6c4f9edabae2102ddba3338fe328adf533e5a86e5e1c15ed", func := "dredger/dredgerlaw15.ProgUses", spec := "progUses", unfollowed := true, recurses := true, loops := true, apart := false }
def ProgUsesSaid : Prop := progUsesRow.holds Try.pinned (OpenSpec.ofChange progUsesSpec)

/-- ITS FALSE NEIGHBOUR: 'it returns false'. Refute it at one input. -/
def progUsesWrong : ChangeSpec := { name := "progUses", fn := fun _ => fun
  | [d1, d2] => { results := [.lit (.bool false)], args := [d1, d2] }
  | _ => none }
def ProgUsesWrongFalsely : Prop := progUsesRow.holds Try.pinned (OpenSpec.ofChange progUsesWrong)

/- THE SECOND FORM. 'bulk': how many values and letters a reading holds, each counted each time it is reached (what is shared counts as often as it is met; a slice's spare places count too). A statement '..UptoSaid' is the law's where the arguments, and the package variables that the reading takes, are together of bulk at most 1048576: NARROWER than '..Said'. Prove '..Said' where nothing that the law and all that it calls make is longer than what came in: it says more and counts as full. Else prove '..UptoSaid'. A law counts once. -/
mutual
def uptoBulk {H : Type} : DataW H → Nat
  | .lit (.string bytes) => bytes.length + 1
  | .lit _ => 1
  | .nil => 1
  | .ptr d => uptoBulk d + 1
  | .slice elems spare => uptoBulkAll elems + uptoBulkAll spare + 1
  | .agg parts => uptoBulkAll parts + 1
  | .iface _ d => uptoBulk d + 1
  | .map entries => uptoBulkEntries entries + 1
  | .held _ => 1
def uptoBulkAll {H : Type} : List (DataW H) → Nat
  | [] => 0
  | d :: r => uptoBulk d + uptoBulkAll r
def uptoBulkEntries {H : Type} : List (Lit × DataW H) → Nat
  | [] => 0
  | x :: r => uptoBulkEntry x + uptoBulkEntries r
def uptoBulkEntry {H : Type} : Lit × DataW H → Nat
  | (.string bytes, d) => bytes.length + uptoBulk d + 1
  | (_, d) => uptoBulk d + 1
 end
def uptoSmall : (H : Type) → List (DataW H) → Bool := fun _ ds => decide (uptoBulkAll ds ≤ 1048576)
def OpenSpec.upto (s : _root_.Go.ChangeSpec) : _root_.Go.OpenSpec := { _root_.Go.OpenSpec.ofChange s with cond := some uptoSmall }

/-- 'dredgerlaw15.ProgCan', WHERE WHAT IT READS IS OF BULK AT MOST 1048576: true; the input reads as it did. -/
def progCanUptoRow : OpenClaim := { program := "ytkgejeamcgodhaa", sum := "172644d0abfae08a6c4f9edabae2102ddba3338fe328adf533e5a86e5e1c15ed", func := "dredger/dredgerlaw15.ProgCan", spec := "progCan", unfollowed := true, recurses := true, apart := false, narrowed := true }
def ProgCanUptoSaid : Prop := progCanUptoRow.holds Try.pinned (OpenSpec.upto progCanSpec)

/-- 'dredgerlaw15.ProgSizes', WHERE WHAT IT READS IS OF BULK AT MOST 1048576: true; the input reads as it did. -/
def progSizesUptoRow : OpenClaim := { program := "ytkgejeamcgodhaa", sum := "172644d0abfae08a6c4f9edabae2102ddba3338fe328adf533e5a86e5e1c15ed", func := "dredger/dredgerlaw15.ProgSizes", spec := "progSizes", unfollowed := true, recurses := true, loops := true, apart := false, narrowed := true }
def ProgSizesUptoSaid : Prop := progSizesUptoRow.holds Try.pinned (OpenSpec.upto progSizesSpec)

/-- 'dredgerlaw15.ProgLeast', WHERE WHAT IT READS IS OF BULK AT MOST 1048576: true; the input reads as it did. -/
def progLeastUptoRow : OpenClaim := { program := "ytkgejeamcgodhaa", sum := "172644d0abfae08a6c4f9edabae2102ddba3338fe328adf533e5a86e5e1c15ed", func := "dredger/dredgerlaw15.ProgLeast", spec := "progLeast", unfollowed := true, recurses := true, apart := false, narrowed := true }
def ProgLeastUptoSaid : Prop := progLeastUptoRow.holds Try.pinned (OpenSpec.upto progLeastSpec)

/-- 'dredgerlaw15.ProgSame', WHERE WHAT IT READS IS OF BULK AT MOST 1048576: true; the input reads as it did. -/
def progSameUptoRow : OpenClaim := { program := "ytkgejeamcgodhaa", sum := "172644d0abfae08a6c4f9edabae2102ddba3338fe328adf533e5a86e5e1c15ed", func := "dredger/dredgerlaw15.ProgSame", spec := "progSame", unfollowed := true, recurses := true, loops := true, apart := false, narrowed := true }
def ProgSameUptoSaid : Prop := progSameUptoRow.holds Try.pinned (OpenSpec.upto progSameSpec)

/-- 'dredgerlaw15.ProgUses', WHERE WHAT IT READS IS OF BULK AT MOST 1048576: true; the input reads as it did. -/
def progUsesUptoRow : OpenClaim := { program := "ytkgejeamcgodhaa", sum := "172644d0abfae08a6c4f9edabae2102ddba3338fe328adf533e5a86e5e1c15ed", func := "dredger/dredgerlaw15.ProgUses", spec := "progUses", unfollowed := true, recurses := true, loops := true, apart := false, narrowed := true }
def ProgUsesUptoSaid : Prop := progUsesUptoRow.holds Try.pinned (OpenSpec.upto progUsesSpec)

end Rows
end Go.Proofs.Ytkgejeamcgodhaa
