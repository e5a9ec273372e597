/-
  DERIVED. GIVEN WITH THE SEED: THE CARDS: each row of YtcbadcbnknmdnaaDoorRows.lean that lists a variable, with what it lists TIED to the program's text (the seventh form; the later family's looks); each row that meets fmt, with fmt's text TOLD by the authors' own Lean function (tested against real Go, not proved from fmt's source: count such statements apart). THE CARD IS WHAT COUNTS. Prove the row's statement (the work); the ties are given (YtcbadcbnknmdnaaDoorTie.lean); close each card by the builder's one call (the guide's Derived/Test/ToyasCard.lean, 'card_holds'). Laid BY PROGRAM, IN A SANDBOX (cutbox-door.mjs). By AI agents, Wed Nov 11 2026. No macro, syntax, notation, axiom, sorry.
-/
import Derived.Test.YtcbadcbnknmdnaaDoorRows
import GoSem.ClaimSeven
namespace Go.Proofs.YtcbadcbnknmdnaaDoor
namespace Rows

/-- THE TIED CARD OF 'cotillionlaw18.RosterTexts'. -/
def rosterTextsCard : Claim7 := { stood := { row := rosterTextsRow, standIns := [], harness := (true, "74baf4c7f5b52f2d2b5ed565ddcded9b012d0877b86b0282406f348fb02f8333"), looks := false }, kinds := [], alts := [], laidByText := true, laidKinds := [.data], laidTests := true, laidLooks := .later }
def RosterTextsCardSaid : Prop := Claim7.holds Tryd.pinned (.plain (OpenSpec.ofChange rosterTextsSpec)) rosterTextsCard

/-- THE TIED CARD OF 'cotillionlaw18.RosterReads'. -/
def rosterReadsCard : Claim7 := { stood := { row := rosterReadsRow, standIns := [], harness := (true, "74baf4c7f5b52f2d2b5ed565ddcded9b012d0877b86b0282406f348fb02f8333"), looks := false }, kinds := [], alts := [], laidByText := true, laidKinds := [.data], laidTests := true, laidLooks := .later }
def RosterReadsCardSaid : Prop := Claim7.holds Tryd.pinned (.plain (OpenSpec.ofChange rosterReadsSpec)) rosterReadsCard

/-- THE SECOND FORM's CARD OF 'cotillionlaw18.RosterTexts'. -/
def rosterTextsUptoCard : Claim7 := { stood := { row := rosterTextsUptoRow, standIns := [], harness := (true, "74baf4c7f5b52f2d2b5ed565ddcded9b012d0877b86b0282406f348fb02f8333"), looks := false }, kinds := [], alts := [], laidByText := true, laidKinds := [.data], laidTests := true, laidLooks := .later }
def RosterTextsUptoCardSaid : Prop := Claim7.holds Tryd.pinned (.plain (OpenSpec.upto rosterTextsSpec)) rosterTextsUptoCard

/-- THE SECOND FORM's CARD OF 'cotillionlaw18.RosterReads'. -/
def rosterReadsUptoCard : Claim7 := { stood := { row := rosterReadsUptoRow, standIns := [], harness := (true, "74baf4c7f5b52f2d2b5ed565ddcded9b012d0877b86b0282406f348fb02f8333"), looks := false }, kinds := [], alts := [], laidByText := true, laidKinds := [.data], laidTests := true, laidLooks := .later }
def RosterReadsUptoCardSaid : Prop := Claim7.holds Tryd.pinned (.plain (OpenSpec.upto rosterReadsSpec)) rosterReadsUptoCard
end Rows
end Go.Proofs.YtcbadcbnknmdnaaDoor
