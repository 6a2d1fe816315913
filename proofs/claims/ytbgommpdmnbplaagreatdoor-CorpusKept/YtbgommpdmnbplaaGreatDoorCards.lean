/-
  DERIVED. GIVEN WITH THE SEED: THE CARDS: each row of YtbgommpdmnbplaaGreatDoorRows.lean that lists a variable, with what it lists TIED to the program's text (the seventh form; the later family's looks); each row that meets fmt, with fmt's text TOLD by the authors' own Lean function (tested against real Go, not proved from fmt's source: count such statements apart). THE CARD IS WHAT COUNTS. Prove the row's statement (the work); the ties are given (YtbgommpdmnbplaaGreatDoorTie.lean); close each card by the builder's one call (the guide's Derived/Test/ToyasCard.lean, 'card_holds'). Laid BY PROGRAM, IN A SANDBOX (cutbox-door.mjs). By AI agents, Wed Nov 11 2026. No macro, syntax, notation, axiom, sorry.
-/
import Derived.Test.YtbgommpdmnbplaaGreatDoorRows
import GoSem.ClaimSeven
namespace Go.Proofs.YtbgommpdmnbplaaGreatDoor
namespace Rows

/-- THE TIED CARD OF 'dredgerlaw04.CorpusLives'. -/
def corpusLivesCard : Claim7 := { stood := { row := corpusLivesRow, standIns := [], harness := (true, "f0673bd267b2bab1c27f0ace9ddb418cf771bde5f6a43459180e3eb067807bf9"), looks := true }, kinds := [], alts := [], laidByText := true, laidKinds := [.handle, .data], laidTests := true, laidLooks := .later }
def CorpusLivesCardSaid : Prop := Claim7.holds Tryz.pinned (.plain (OpenSpec.ofChange corpusLivesSpec)) corpusLivesCard

/-- THE TIED CARD OF 'dredgerlaw04.CorpusGets'. -/
def corpusGetsCard : Claim7 := { stood := { row := corpusGetsRow, standIns := [], harness := (true, "f0673bd267b2bab1c27f0ace9ddb418cf771bde5f6a43459180e3eb067807bf9"), looks := true }, kinds := [], alts := [], laidByText := true, laidKinds := [.handle, .data], laidTests := true, laidLooks := .later }
def CorpusGetsCardSaid : Prop := Claim7.holds Tryz.pinned (.plain (OpenSpec.ofChange corpusGetsSpec)) corpusGetsCard

/-- THE TIED CARD OF 'dredgerlaw04.CorpusKept'. -/
def corpusKeptCard : Claim7 := { stood := { row := corpusKeptRow, standIns := [], harness := (true, "f0673bd267b2bab1c27f0ace9ddb418cf771bde5f6a43459180e3eb067807bf9"), looks := true }, kinds := [], alts := [], laidByText := true, laidKinds := [.handle, .data], laidTests := true, laidLooks := .later }
def CorpusKeptCardSaid : Prop := Claim7.holds Tryz.pinned (.plain (OpenSpec.ofChange corpusKeptSpec)) corpusKeptCard

/-- THE TIED CARD OF 'dredgerlaw04.CorpusFull'. -/
def corpusFullCard : Claim7 := { stood := { row := corpusFullRow, standIns := [], harness := (true, "f0673bd267b2bab1c27f0ace9ddb418cf771bde5f6a43459180e3eb067807bf9"), looks := true }, kinds := [], alts := [], laidByText := true, laidKinds := [.handle, .data], laidTests := true, laidLooks := .later }
def CorpusFullCardSaid : Prop := Claim7.holds Tryz.pinned (.plain (OpenSpec.ofChange corpusFullSpec)) corpusFullCard

/-- THE TIED CARD OF 'dredgerlaw04.CorpusPoints'. -/
def corpusPointsCard : Claim7 := { stood := { row := corpusPointsRow, standIns := [], harness := (true, "f0673bd267b2bab1c27f0ace9ddb418cf771bde5f6a43459180e3eb067807bf9"), looks := true }, kinds := [], alts := [], laidByText := true, laidKinds := [.handle, .data], laidTests := true, laidLooks := .later }
def CorpusPointsCardSaid : Prop := Claim7.holds Tryz.pinned (.plain (OpenSpec.ofChange corpusPointsSpec)) corpusPointsCard

/-- THE TIED CARD OF 'dredgerlaw04.CorpusNobody'. -/
def corpusNobodyCard : Claim7 := { stood := { row := corpusNobodyRow, standIns := [], harness := (true, "f0673bd267b2bab1c27f0ace9ddb418cf771bde5f6a43459180e3eb067807bf9"), looks := true }, kinds := [], alts := [], laidByText := true, laidKinds := [.handle, .data], laidTests := true, laidLooks := .later }
def CorpusNobodyCardSaid : Prop := Claim7.holds Tryz.pinned (.plain (OpenSpec.ofChange corpusNobodySpec)) corpusNobodyCard

/-- THE SECOND FORM's CARD OF 'dredgerlaw04.CorpusLives'. -/
def corpusLivesUptoCard : Claim7 := { stood := { row := corpusLivesUptoRow, standIns := [], harness := (true, "f0673bd267b2bab1c27f0ace9ddb418cf771bde5f6a43459180e3eb067807bf9"), looks := true }, kinds := [], alts := [], laidByText := true, laidKinds := [.handle, .data], laidTests := true, laidLooks := .later }
def CorpusLivesUptoCardSaid : Prop := Claim7.holds Tryz.pinned (.plain (OpenSpec.upto corpusLivesSpec)) corpusLivesUptoCard

/-- THE SECOND FORM's CARD OF 'dredgerlaw04.CorpusGets'. -/
def corpusGetsUptoCard : Claim7 := { stood := { row := corpusGetsUptoRow, standIns := [], harness := (true, "f0673bd267b2bab1c27f0ace9ddb418cf771bde5f6a43459180e3eb067807bf9"), looks := true }, kinds := [], alts := [], laidByText := true, laidKinds := [.handle, .data], laidTests := true, laidLooks := .later }
def CorpusGetsUptoCardSaid : Prop := Claim7.holds Tryz.pinned (.plain (OpenSpec.upto corpusGetsSpec)) corpusGetsUptoCard

/-- THE SECOND FORM's CARD OF 'dredgerlaw04.CorpusKept'. -/
def corpusKeptUptoCard : Claim7 := { stood := { row := corpusKeptUptoRow, standIns := [], harness := (true, "f0673bd267b2bab1c27f0ace9ddb418cf771bde5f6a43459180e3eb067807bf9"), looks := true }, kinds := [], alts := [], laidByText := true, laidKinds := [.handle, .data], laidTests := true, laidLooks := .later }
def CorpusKeptUptoCardSaid : Prop := Claim7.holds Tryz.pinned (.plain (OpenSpec.upto corpusKeptSpec)) corpusKeptUptoCard

/-- THE SECOND FORM's CARD OF 'dredgerlaw04.CorpusFull'. -/
def corpusFullUptoCard : Claim7 := { stood := { row := corpusFullUptoRow, standIns := [], harness := (true, "f0673bd267b2bab1c27f0ace9ddb418cf771bde5f6a43459180e3eb067807bf9"), looks := true }, kinds := [], alts := [], laidByText := true, laidKinds := [.handle, .data], laidTests := true, laidLooks := .later }
def CorpusFullUptoCardSaid : Prop := Claim7.holds Tryz.pinned (.plain (OpenSpec.upto corpusFullSpec)) corpusFullUptoCard

/-- THE SECOND FORM's CARD OF 'dredgerlaw04.CorpusPoints'. -/
def corpusPointsUptoCard : Claim7 := { stood := { row := corpusPointsUptoRow, standIns := [], harness := (true, "f0673bd267b2bab1c27f0ace9ddb418cf771bde5f6a43459180e3eb067807bf9"), looks := true }, kinds := [], alts := [], laidByText := true, laidKinds := [.handle, .data], laidTests := true, laidLooks := .later }
def CorpusPointsUptoCardSaid : Prop := Claim7.holds Tryz.pinned (.plain (OpenSpec.upto corpusPointsSpec)) corpusPointsUptoCard

/-- THE SECOND FORM's CARD OF 'dredgerlaw04.CorpusNobody'. -/
def corpusNobodyUptoCard : Claim7 := { stood := { row := corpusNobodyUptoRow, standIns := [], harness := (true, "f0673bd267b2bab1c27f0ace9ddb418cf771bde5f6a43459180e3eb067807bf9"), looks := true }, kinds := [], alts := [], laidByText := true, laidKinds := [.handle, .data], laidTests := true, laidLooks := .later }
def CorpusNobodyUptoCardSaid : Prop := Claim7.holds Tryz.pinned (.plain (OpenSpec.upto corpusNobodySpec)) corpusNobodyUptoCard
end Rows
end Go.Proofs.YtbgommpdmnbplaaGreatDoor
