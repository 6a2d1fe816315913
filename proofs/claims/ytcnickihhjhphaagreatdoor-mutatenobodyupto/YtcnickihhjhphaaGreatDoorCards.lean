/-
  DERIVED. GIVEN WITH THE SEED: THE CARDS: each row of YtcnickihhjhphaaGreatDoorRows.lean that lists a variable, with what it lists TIED to the program's text (the seventh form; the later family's looks); each row that meets fmt, with fmt's text TOLD by the authors' own Lean function (tested against real Go, not proved from fmt's source: count such statements apart). THE CARD IS WHAT COUNTS. Prove the row's statement (the work); the ties are given (YtcnickihhjhphaaGreatDoorTie.lean); close each card by the builder's one call (the guide's Derived/Test/ToyasCard.lean, 'card_holds'). Laid BY PROGRAM, IN A SANDBOX (cutbox-door.mjs). By AI agents, Wed Nov 11 2026. No macro, syntax, notation, axiom, sorry.
-/
import Derived.Test.YtcnickihhjhphaaGreatDoorRows
import GoSem.ClaimSeven
namespace Go.Proofs.YtcnickihhjhphaaGreatDoor
namespace Rows

/-- THE TIED CARD OF 'dredgerlaw21.MutateNobody'. -/
def mutateNobodyCard : Claim7 := { stood := { row := mutateNobodyRow, standIns := [], harness := (true, "f272d2dea1ff914e40f438fd8ed784ec70f3532b52f1bdabe131683185d94268"), looks := true }, kinds := [], alts := [], laidByText := true, laidKinds := [.handle], laidTests := true, laidLooks := .later }
def MutateNobodyCardSaid : Prop := Claim7.holds Tryz.pinned (.plain (OpenSpec.ofChange mutateNobodySpec)) mutateNobodyCard

/-- THE SECOND FORM's CARD OF 'dredgerlaw21.MutateNobody'. -/
def mutateNobodyUptoCard : Claim7 := { stood := { row := mutateNobodyUptoRow, standIns := [], harness := (true, "f272d2dea1ff914e40f438fd8ed784ec70f3532b52f1bdabe131683185d94268"), looks := true }, kinds := [], alts := [], laidByText := true, laidKinds := [.handle], laidTests := true, laidLooks := .later }
def MutateNobodyUptoCardSaid : Prop := Claim7.holds Tryz.pinned (.plain (OpenSpec.upto mutateNobodySpec)) mutateNobodyUptoCard
end Rows
end Go.Proofs.YtcnickihhjhphaaGreatDoor
