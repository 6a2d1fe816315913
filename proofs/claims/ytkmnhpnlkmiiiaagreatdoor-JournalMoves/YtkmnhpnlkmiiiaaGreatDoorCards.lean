/-
  DERIVED. GIVEN WITH THE SEED: THE CARDS: each row of YtkmnhpnlkmiiiaaGreatDoorRows.lean that lists a variable, with what it lists TIED to the program's text (the seventh form; the later family's looks); each row that meets fmt, with fmt's text TOLD by the authors' own Lean function (tested against real Go, not proved from fmt's source: count such statements apart). THE CARD IS WHAT COUNTS. Prove the row's statement (the work); the ties are given (YtkmnhpnlkmiiiaaGreatDoorTie.lean); close each card by the builder's one call (the guide's Derived/Test/ToyasCard.lean, 'card_holds'). Laid BY PROGRAM, IN A SANDBOX (cutbox-door.mjs). By AI agents, Wed Nov 11 2026. No macro, syntax, notation, axiom, sorry.
-/
import Derived.Test.YtkmnhpnlkmiiiaaGreatDoorRows
import GoSem.ClaimSeven
namespace Go.Proofs.YtkmnhpnlkmiiiaaGreatDoor
namespace Rows

/-- THE TIED CARD OF 'dredgerlaw03.JournalKeeps'. -/
def journalKeepsCard : Claim7 := { stood := { row := journalKeepsRow, standIns := [], harness := (true, "eaabd60540c2ed463582a8f45ab7cc712b589ecd5e9f53f9bc1671bfb407eaab"), looks := true }, kinds := [], alts := [], laidByText := true, laidKinds := [.handle, .data], laidTests := true, laidLooks := .later }
def JournalKeepsCardSaid : Prop := Claim7.holds Tryz.pinned (.plain (OpenSpec.ofChange journalKeepsSpec)) journalKeepsCard

/-- THE TIED CARD OF 'dredgerlaw03.JournalWhole'. -/
def journalWholeCard : Claim7 := { stood := { row := journalWholeRow, standIns := [], harness := (true, "eaabd60540c2ed463582a8f45ab7cc712b589ecd5e9f53f9bc1671bfb407eaab"), looks := true }, kinds := [], alts := [], laidByText := true, laidKinds := [.handle, .data], laidTests := true, laidLooks := .later }
def JournalWholeCardSaid : Prop := Claim7.holds Tryz.pinned (.plain (OpenSpec.ofChange journalWholeSpec)) journalWholeCard

/-- THE TIED CARD OF 'dredgerlaw03.JournalMoves'. -/
def journalMovesCard : Claim7 := { stood := { row := journalMovesRow, standIns := [], harness := (true, "eaabd60540c2ed463582a8f45ab7cc712b589ecd5e9f53f9bc1671bfb407eaab"), looks := true }, kinds := [], alts := [], laidByText := true, laidKinds := [.handle, .data], laidTests := true, laidLooks := .later }
def JournalMovesCardSaid : Prop := Claim7.holds Tryz.pinned (.plain (OpenSpec.ofChange journalMovesSpec)) journalMovesCard

/-- THE TIED CARD OF 'dredgerlaw03.JournalNobody'. -/
def journalNobodyCard : Claim7 := { stood := { row := journalNobodyRow, standIns := [], harness := (true, "eaabd60540c2ed463582a8f45ab7cc712b589ecd5e9f53f9bc1671bfb407eaab"), looks := true }, kinds := [], alts := [], laidByText := true, laidKinds := [.handle, .data], laidTests := true, laidLooks := .later }
def JournalNobodyCardSaid : Prop := Claim7.holds Tryz.pinned (.plain (OpenSpec.ofChange journalNobodySpec)) journalNobodyCard

/-- THE SECOND FORM's CARD OF 'dredgerlaw03.JournalKeeps'. -/
def journalKeepsUptoCard : Claim7 := { stood := { row := journalKeepsUptoRow, standIns := [], harness := (true, "eaabd60540c2ed463582a8f45ab7cc712b589ecd5e9f53f9bc1671bfb407eaab"), looks := true }, kinds := [], alts := [], laidByText := true, laidKinds := [.handle, .data], laidTests := true, laidLooks := .later }
def JournalKeepsUptoCardSaid : Prop := Claim7.holds Tryz.pinned (.plain (OpenSpec.upto journalKeepsSpec)) journalKeepsUptoCard

/-- THE SECOND FORM's CARD OF 'dredgerlaw03.JournalWhole'. -/
def journalWholeUptoCard : Claim7 := { stood := { row := journalWholeUptoRow, standIns := [], harness := (true, "eaabd60540c2ed463582a8f45ab7cc712b589ecd5e9f53f9bc1671bfb407eaab"), looks := true }, kinds := [], alts := [], laidByText := true, laidKinds := [.handle, .data], laidTests := true, laidLooks := .later }
def JournalWholeUptoCardSaid : Prop := Claim7.holds Tryz.pinned (.plain (OpenSpec.upto journalWholeSpec)) journalWholeUptoCard

/-- THE SECOND FORM's CARD OF 'dredgerlaw03.JournalMoves'. -/
def journalMovesUptoCard : Claim7 := { stood := { row := journalMovesUptoRow, standIns := [], harness := (true, "eaabd60540c2ed463582a8f45ab7cc712b589ecd5e9f53f9bc1671bfb407eaab"), looks := true }, kinds := [], alts := [], laidByText := true, laidKinds := [.handle, .data], laidTests := true, laidLooks := .later }
def JournalMovesUptoCardSaid : Prop := Claim7.holds Tryz.pinned (.plain (OpenSpec.upto journalMovesSpec)) journalMovesUptoCard

/-- THE SECOND FORM's CARD OF 'dredgerlaw03.JournalNobody'. -/
def journalNobodyUptoCard : Claim7 := { stood := { row := journalNobodyUptoRow, standIns := [], harness := (true, "eaabd60540c2ed463582a8f45ab7cc712b589ecd5e9f53f9bc1671bfb407eaab"), looks := true }, kinds := [], alts := [], laidByText := true, laidKinds := [.handle, .data], laidTests := true, laidLooks := .later }
def JournalNobodyUptoCardSaid : Prop := Claim7.holds Tryz.pinned (.plain (OpenSpec.upto journalNobodySpec)) journalNobodyUptoCard
end Rows
end Go.Proofs.YtkmnhpnlkmiiiaaGreatDoor
