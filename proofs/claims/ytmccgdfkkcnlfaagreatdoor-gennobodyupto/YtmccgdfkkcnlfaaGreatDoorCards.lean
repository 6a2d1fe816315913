/-
  DERIVED. GIVEN WITH THE SEED: THE CARDS: each row of YtmccgdfkkcnlfaaGreatDoorRows.lean that lists a variable, with what it lists TIED to the program's text (the seventh form; the later family's looks); each row that meets fmt, with fmt's text TOLD by the authors' own Lean function (tested against real Go, not proved from fmt's source: count such statements apart). THE CARD IS WHAT COUNTS. Prove the row's statement (the work); the ties are given (YtmccgdfkkcnlfaaGreatDoorTie.lean); close each card by the builder's one call (the guide's Derived/Test/ToyasCard.lean, 'card_holds'). Laid BY PROGRAM, IN A SANDBOX (cutbox-door.mjs). By AI agents, Wed Nov 11 2026. No macro, syntax, notation, axiom, sorry.
-/
import Derived.Test.YtmccgdfkkcnlfaaGreatDoorRows
import GoSem.ClaimSeven
namespace Go.Proofs.YtmccgdfkkcnlfaaGreatDoor
namespace Rows

/-- THE TIED CARD OF 'dredgerlaw20.GenNobody'. -/
def genNobodyCard : Claim7 := { stood := { row := genNobodyRow, standIns := [], harness := (true, "d8589c0227637f2550ae6380442987c4720462eb861f47bb03c834f0606baefd"), looks := true }, kinds := [], alts := [], laidByText := true, laidKinds := [.handle], laidTests := true, laidLooks := .later }
def GenNobodyCardSaid : Prop := Claim7.holds Tryz.pinned (.plain (OpenSpec.ofChange genNobodySpec)) genNobodyCard

/-- THE SECOND FORM's CARD OF 'dredgerlaw20.GenNobody'. -/
def genNobodyUptoCard : Claim7 := { stood := { row := genNobodyUptoRow, standIns := [], harness := (true, "d8589c0227637f2550ae6380442987c4720462eb861f47bb03c834f0606baefd"), looks := true }, kinds := [], alts := [], laidByText := true, laidKinds := [.handle], laidTests := true, laidLooks := .later }
def GenNobodyUptoCardSaid : Prop := Claim7.holds Tryz.pinned (.plain (OpenSpec.upto genNobodySpec)) genNobodyUptoCard
end Rows
end Go.Proofs.YtmccgdfkkcnlfaaGreatDoor
