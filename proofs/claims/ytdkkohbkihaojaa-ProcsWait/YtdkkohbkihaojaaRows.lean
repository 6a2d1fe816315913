/-
  No cell of these rows narrows 'for every input' (looked for: loops, veiled, ifaces, maps, wideKeys, modest, calm, conditions, laid).
  DERIVED. THE GIVEN ROWS OF THIS SEAT. 3 by the template 'for every input the law returns true; each argument reads behind the call as it read before'; 0 by the template 'total and deterministic' (their statements: YtdkkohbkihaojaaTotals.lean).
  GIVEN WITH THE SEED: the statements are not yours to turn. If you find one false, say at which input.
  Laid BY PROGRAM, IN A SANDBOX (cutbox-rows.mjs): the forced cells as the released guide's own fill.sh prints them over the translation 7a407014956711e5… (all of the seat's roots in one cut). By AI agents, Wed Nov 11 2026. No macro, syntax, notation, axiom, sorry.
-/
import Derived.Test.YtdkkohbkihaojaaChecked
import GoSem.Claim
import GoSem.ClaimJoined
import GoSem.ClaimMapViews
import Derived.JoinedTies
import Derived.KernelRfl
namespace Go.Proofs.Ytdkkohbkihaojaa
/- THE CELL 'sum', in the pinned program and in every row, IS THE sha256 OF THE DUMP (.gsa) THAT YtdkkohbkihaojaaProg.lean LOADS. Nothing in Lean hashes anything: it is a label: what it is worth is what the hold of that sum in a sandbox is worth. -/
noncomputable def Try.pinned : Pinned := { name := "ytdkkohbkihaojaa", sum := "7a407014956711e5982d56e8fb734b4406fc41ab7d44adba6218041c282a2269", checked := Try.checked }
namespace Rows
def none {H : Type} : Left H := { results := [], args := [] }

/-- 'dredgerlaw06.NodesNobody': WHATEVER THE INPUT: true; the input reads as it did. -/
def nodesNobodySpec : ChangeSpec := { name := "nodesNobody", fn := fun _ => fun
  | [d1, d2] => { results := [.lit (.bool true)], args := [d1, d2] }
  | _ => none }
def nodesNobodyRow : OpenClaim := { program := "ytdkkohbkihaojaa", sum := "7a407014956711e5982d56e8fb734b4406fc41ab7d44adba6218041c282a2269", func := "dredger/dredgerlaw06.NodesNobody", spec := "nodesNobody", inPlace := ["internal/bytealg.IndexByteString", "internal/bytealg.IndexString"], unfollowed := true, recurses := true, named := ["internal/bytealg.MaxLen"], apart := false }
def NodesNobodySaid : Prop := nodesNobodyRow.holds Try.pinned (OpenSpec.ofChange nodesNobodySpec)

/-- ITS FALSE NEIGHBOUR: 'it returns false'. Refute it at one input. -/
def nodesNobodyWrong : ChangeSpec := { name := "nodesNobody", fn := fun _ => fun
  | [d1, d2] => { results := [.lit (.bool false)], args := [d1, d2] }
  | _ => none }
def NodesNobodyWrongFalsely : Prop := nodesNobodyRow.holds Try.pinned (OpenSpec.ofChange nodesNobodyWrong)

/-- 'dredgerlaw09.ProcsWait': WHATEVER THE INPUT: true; the input reads as it did. -/
def procsWaitSpec : ChangeSpec := { name := "procsWait", fn := fun _ => fun
  | [d1, d2] => { results := [.lit (.bool true)], args := [d1, d2] }
  | _ => none }
def procsWaitRow : OpenClaim := { program := "ytdkkohbkihaojaa", sum := "7a407014956711e5982d56e8fb734b4406fc41ab7d44adba6218041c282a2269", func := "dredger/dredgerlaw09.ProcsWait", spec := "procsWait", unfollowed := true, recurses := true, apart := false }
def ProcsWaitSaid : Prop := procsWaitRow.holds Try.pinned (OpenSpec.ofChange procsWaitSpec)

/-- ITS FALSE NEIGHBOUR: 'it returns false'. Refute it at one input. -/
def procsWaitWrong : ChangeSpec := { name := "procsWait", fn := fun _ => fun
  | [d1, d2] => { results := [.lit (.bool false)], args := [d1, d2] }
  | _ => none }
def ProcsWaitWrongFalsely : Prop := procsWaitRow.holds Try.pinned (OpenSpec.ofChange procsWaitWrong)

/-- 'dredgerlaw09.ProcsNobody': WHATEVER THE INPUT: true; the input reads as it did. -/
def procsNobodySpec : ChangeSpec := { name := "procsNobody", fn := fun _ => fun
  | [d1, d2] => { results := [.lit (.bool true)], args := [d1, d2] }
  | _ => none }
def procsNobodyRow : OpenClaim := { program := "ytdkkohbkihaojaa", sum := "7a407014956711e5982d56e8fb734b4406fc41ab7d44adba6218041c282a2269", func := "dredger/dredgerlaw09.ProcsNobody", spec := "procsNobody", unfollowed := true, recurses := true, apart := false }
def ProcsNobodySaid : Prop := procsNobodyRow.holds Try.pinned (OpenSpec.ofChange procsNobodySpec)

/-- ITS FALSE NEIGHBOUR: 'it returns false'. Refute it at one input. -/
def procsNobodyWrong : ChangeSpec := { name := "procsNobody", fn := fun _ => fun
  | [d1, d2] => { results := [.lit (.bool false)], args := [d1, d2] }
  | _ => none }
def ProcsNobodyWrongFalsely : Prop := procsNobodyRow.holds Try.pinned (OpenSpec.ofChange procsNobodyWrong)

/- THE SECOND FORM. 'bulk': how many values and letters a reading holds, each counted each time it is reached (what is shared counts as often as it is met; a slice's spare places count too). A statement '..UptoSaid' is the law's where the arguments, and the package variables that the reading takes, are together of bulk at most 1048576: NARROWER than '..Said'. Prove '..Said' where nothing that the law and all that it calls make is longer than what came in: it says more and counts as full. Else prove '..UptoSaid'. A law counts once. -/
mutual
def uptoBulk {H : Type} : DataW H → Nat
  | .lit (.string bytes) => bytes.length + 1
  | .lit _ => 1
  | .nil => 1
  | .ptr d => uptoBulk d + 1
  | .slice elems spare => uptoBulkAll elems + uptoBulkAll spare + 1
  | .agg parts => uptoBulkAll parts + 1
  | .iface _ d => uptoBulk d + 1
  | .map entries => uptoBulkEntries entries + 1
  | .held _ => 1
def uptoBulkAll {H : Type} : List (DataW H) → Nat
  | [] => 0
  | d :: r => uptoBulk d + uptoBulkAll r
def uptoBulkEntries {H : Type} : List (Lit × DataW H) → Nat
  | [] => 0
  | x :: r => uptoBulkEntry x + uptoBulkEntries r
def uptoBulkEntry {H : Type} : Lit × DataW H → Nat
  | (.string bytes, d) => bytes.length + uptoBulk d + 1
  | (_, d) => uptoBulk d + 1
 end
def uptoSmall : (H : Type) → List (DataW H) → Bool := fun _ ds => decide (uptoBulkAll ds ≤ 1048576)
def OpenSpec.upto (s : _root_.Go.ChangeSpec) : _root_.Go.OpenSpec := { _root_.Go.OpenSpec.ofChange s with cond := some uptoSmall }

/-- 'dredgerlaw06.NodesNobody', WHERE WHAT IT READS IS OF BULK AT MOST 1048576: true; the input reads as it did. -/
def nodesNobodyUptoRow : OpenClaim := { program := "ytdkkohbkihaojaa", sum := "7a407014956711e5982d56e8fb734b4406fc41ab7d44adba6218041c282a2269", func := "dredger/dredgerlaw06.NodesNobody", spec := "nodesNobody", inPlace := ["internal/bytealg.IndexByteString", "internal/bytealg.IndexString"], unfollowed := true, recurses := true, named := ["internal/bytealg.MaxLen"], apart := false, narrowed := true }
def NodesNobodyUptoSaid : Prop := nodesNobodyUptoRow.holds Try.pinned (OpenSpec.upto nodesNobodySpec)

/-- 'dredgerlaw09.ProcsWait', WHERE WHAT IT READS IS OF BULK AT MOST 1048576: true; the input reads as it did. -/
def procsWaitUptoRow : OpenClaim := { program := "ytdkkohbkihaojaa", sum := "7a407014956711e5982d56e8fb734b4406fc41ab7d44adba6218041c282a2269", func := "dredger/dredgerlaw09.ProcsWait", spec := "procsWait", unfollowed := true, recurses := true, apart := false, narrowed := true }
def ProcsWaitUptoSaid : Prop := procsWaitUptoRow.holds Try.pinned (OpenSpec.upto procsWaitSpec)

/-- 'dredgerlaw09.ProcsNobody', WHERE WHAT IT READS IS OF BULK AT MOST 1048576: true; the input reads as it did. -/
def procsNobodyUptoRow : OpenClaim := { program := "ytdkkohbkihaojaa", sum := "7a407014956711e5982d56e8fb734b4406fc41ab7d44adba6218041c282a2269", func := "dredger/dredgerlaw09.ProcsNobody", spec := "procsNobody", unfollowed := true, recurses := true, apart := false, narrowed := true }
def ProcsNobodyUptoSaid : Prop := procsNobodyUptoRow.holds Try.pinned (OpenSpec.upto procsNobodySpec)

end Rows
end Go.Proofs.Ytdkkohbkihaojaa
