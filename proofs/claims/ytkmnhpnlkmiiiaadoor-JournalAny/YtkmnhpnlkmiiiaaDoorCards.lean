/-
  DERIVED. GIVEN WITH THE SEED: THE CARDS: each row of YtkmnhpnlkmiiiaaDoorRows.lean that lists a variable, with what it lists TIED to the program's text (the seventh form; the later family's looks); each row that meets fmt, with fmt's text TOLD by the authors' own Lean function (tested against real Go, not proved from fmt's source: count such statements apart). THE CARD IS WHAT COUNTS. Prove the row's statement (the work); the ties are given (YtkmnhpnlkmiiiaaDoorTie.lean); close each card by the builder's one call (the guide's Derived/Test/ToyasCard.lean, 'card_holds'). Laid BY PROGRAM, IN A SANDBOX (cutbox-door.mjs). By AI agents, Wed Nov 11 2026. No macro, syntax, notation, axiom, sorry.
-/
import Derived.Test.YtkmnhpnlkmiiiaaDoorRows
import GoSem.ClaimSeven
namespace Go.Proofs.YtkmnhpnlkmiiiaaDoor
namespace Rows

/-- THE TIED CARD OF 'dredgerlaw03.JournalAny'. -/
def journalAnyCard : Claim7 := { stood := { row := journalAnyRow, standIns := [], harness := (true, "083200c0cd4dfc39618ef93b2f343cc989c0a2963b1bb31d7dda2abc6857ceef"), looks := true }, kinds := [], alts := [], laidByText := true, laidKinds := [.handle, .data], laidTests := true, laidLooks := .later }
def JournalAnyCardSaid : Prop := Claim7.holds Tryd.pinned (.plain (OpenSpec.ofChange journalAnySpec)) journalAnyCard

/-- THE SECOND FORM's CARD OF 'dredgerlaw03.JournalAny'. -/
def journalAnyUptoCard : Claim7 := { stood := { row := journalAnyUptoRow, standIns := [], harness := (true, "083200c0cd4dfc39618ef93b2f343cc989c0a2963b1bb31d7dda2abc6857ceef"), looks := true }, kinds := [], alts := [], laidByText := true, laidKinds := [.handle, .data], laidTests := true, laidLooks := .later }
def JournalAnyUptoCardSaid : Prop := Claim7.holds Tryd.pinned (.plain (OpenSpec.upto journalAnySpec)) journalAnyUptoCard
end Rows
end Go.Proofs.YtkmnhpnlkmiiiaaDoor
