/-
  DERIVED. GIVEN WITH THE SEED: THE CARDS: each row of YtmonbjlkkhpinaaDoorRows.lean that lists a variable, with what it lists TIED to the program's text (the seventh form; the later family's looks); each row that meets fmt, with fmt's text TOLD by the authors' own Lean function (tested against real Go, not proved from fmt's source: count such statements apart). THE CARD IS WHAT COUNTS. Prove the row's statement (the work); the ties are given (YtmonbjlkkhpinaaDoorTie.lean); close each card by the builder's one call (the guide's Derived/Test/ToyasCard.lean, 'card_holds'). Laid BY PROGRAM, IN A SANDBOX (cutbox-door.mjs). By AI agents, Wed Nov 11 2026. No macro, syntax, notation, axiom, sorry.
-/
import Derived.Test.YtmonbjlkkhpinaaDoorRows
import GoSem.ClaimSeven
namespace Go.Proofs.YtmonbjlkkhpinaaDoor
namespace Rows

/-- THE TIED CARD OF 'cotillionlaw03.CodeTexts'. -/
def codeTextsCard : Claim7 := { stood := { row := codeTextsRow, standIns := [], harness := (true, "5af49a4c6a24b72984cc65a36fe8a6ae30306d702a1bcff2f2c6a3cd5751745c"), looks := false }, kinds := [], alts := [], laidByText := true, laidKinds := [.data], laidTests := true, laidLooks := .later }
def CodeTextsCardSaid : Prop := Claim7.holds Tryd.pinned (.plain (OpenSpec.ofChange codeTextsSpec)) codeTextsCard

/-- THE TIED CARD OF 'cotillionlaw03.CodeReads'. -/
def codeReadsCard : Claim7 := { stood := { row := codeReadsRow, standIns := [], harness := (true, "5af49a4c6a24b72984cc65a36fe8a6ae30306d702a1bcff2f2c6a3cd5751745c"), looks := false }, kinds := [], alts := [], laidByText := true, laidKinds := [.data], laidTests := true, laidLooks := .later }
def CodeReadsCardSaid : Prop := Claim7.holds Tryd.pinned (.plain (OpenSpec.ofChange codeReadsSpec)) codeReadsCard

/-- THE TIED CARD OF 'cotillionlaw03.CodeOps'. -/
def codeOpsCard : Claim7 := { stood := { row := codeOpsRow, standIns := [], harness := (true, "5af49a4c6a24b72984cc65a36fe8a6ae30306d702a1bcff2f2c6a3cd5751745c"), looks := false }, kinds := [], alts := [], laidByText := true, laidKinds := [.data], laidTests := true, laidLooks := .later }
def CodeOpsCardSaid : Prop := Claim7.holds Tryd.pinned (.plain (OpenSpec.ofChange codeOpsSpec)) codeOpsCard

/-- THE TIED CARD OF 'cotillionlaw03.CodeMakes'. -/
def codeMakesCard : Claim7 := { stood := { row := codeMakesRow, standIns := [], harness := (true, "5af49a4c6a24b72984cc65a36fe8a6ae30306d702a1bcff2f2c6a3cd5751745c"), looks := false }, kinds := [], alts := [], laidByText := true, laidKinds := [.data], laidTests := true, laidLooks := .later }
def CodeMakesCardSaid : Prop := Claim7.holds Tryd.pinned (.plain (OpenSpec.ofChange codeMakesSpec)) codeMakesCard

/-- THE TIED CARD OF 'cotillionlaw03.CodeCut'. -/
def codeCutCard : Claim7 := { stood := { row := codeCutRow, standIns := [], harness := (true, "5af49a4c6a24b72984cc65a36fe8a6ae30306d702a1bcff2f2c6a3cd5751745c"), looks := false }, kinds := [], alts := [], laidByText := true, laidKinds := [.data], laidTests := true, laidLooks := .later }
def CodeCutCardSaid : Prop := Claim7.holds Tryd.pinned (.plain (OpenSpec.ofChange codeCutSpec)) codeCutCard

/-- THE TIED CARD OF 'cotillionlaw04.VerifyWalks'. -/
def verifyWalksCard : Claim7 := { stood := { row := verifyWalksRow, standIns := [], harness := (true, "5af49a4c6a24b72984cc65a36fe8a6ae30306d702a1bcff2f2c6a3cd5751745c"), looks := false }, kinds := [], alts := [], laidByText := true, laidKinds := [.data], laidTests := true, laidLooks := .later }
def VerifyWalksCardSaid : Prop := Claim7.holds Tryd.pinned (.plain (OpenSpec.ofChange verifyWalksSpec)) verifyWalksCard

/-- THE TIED CARD OF 'cotillionlaw04.VerifyHosts'. -/
def verifyHostsCard : Claim7 := { stood := { row := verifyHostsRow, standIns := [], harness := (true, "5af49a4c6a24b72984cc65a36fe8a6ae30306d702a1bcff2f2c6a3cd5751745c"), looks := false }, kinds := [], alts := [], laidByText := true, laidKinds := [.data], laidTests := true, laidLooks := .later }
def VerifyHostsCardSaid : Prop := Claim7.holds Tryd.pinned (.plain (OpenSpec.ofChange verifyHostsSpec)) verifyHostsCard

/-- THE TIED CARD OF 'cotillionlaw04.VerifyPlain'. -/
def verifyPlainCard : Claim7 := { stood := { row := verifyPlainRow, standIns := [], harness := (true, "5af49a4c6a24b72984cc65a36fe8a6ae30306d702a1bcff2f2c6a3cd5751745c"), looks := false }, kinds := [], alts := [], laidByText := true, laidKinds := [.data], laidTests := true, laidLooks := .later }
def VerifyPlainCardSaid : Prop := Claim7.holds Tryd.pinned (.plain (OpenSpec.ofChange verifyPlainSpec)) verifyPlainCard

/-- THE SECOND FORM's CARD OF 'cotillionlaw03.CodeTexts'. -/
def codeTextsUptoCard : Claim7 := { stood := { row := codeTextsUptoRow, standIns := [], harness := (true, "5af49a4c6a24b72984cc65a36fe8a6ae30306d702a1bcff2f2c6a3cd5751745c"), looks := false }, kinds := [], alts := [], laidByText := true, laidKinds := [.data], laidTests := true, laidLooks := .later }
def CodeTextsUptoCardSaid : Prop := Claim7.holds Tryd.pinned (.plain (OpenSpec.upto codeTextsSpec)) codeTextsUptoCard

/-- THE SECOND FORM's CARD OF 'cotillionlaw03.CodeReads'. -/
def codeReadsUptoCard : Claim7 := { stood := { row := codeReadsUptoRow, standIns := [], harness := (true, "5af49a4c6a24b72984cc65a36fe8a6ae30306d702a1bcff2f2c6a3cd5751745c"), looks := false }, kinds := [], alts := [], laidByText := true, laidKinds := [.data], laidTests := true, laidLooks := .later }
def CodeReadsUptoCardSaid : Prop := Claim7.holds Tryd.pinned (.plain (OpenSpec.upto codeReadsSpec)) codeReadsUptoCard

/-- THE SECOND FORM's CARD OF 'cotillionlaw03.CodeOps'. -/
def codeOpsUptoCard : Claim7 := { stood := { row := codeOpsUptoRow, standIns := [], harness := (true, "5af49a4c6a24b72984cc65a36fe8a6ae30306d702a1bcff2f2c6a3cd5751745c"), looks := false }, kinds := [], alts := [], laidByText := true, laidKinds := [.data], laidTests := true, laidLooks := .later }
def CodeOpsUptoCardSaid : Prop := Claim7.holds Tryd.pinned (.plain (OpenSpec.upto codeOpsSpec)) codeOpsUptoCard

/-- THE SECOND FORM's CARD OF 'cotillionlaw03.CodeMakes'. -/
def codeMakesUptoCard : Claim7 := { stood := { row := codeMakesUptoRow, standIns := [], harness := (true, "5af49a4c6a24b72984cc65a36fe8a6ae30306d702a1bcff2f2c6a3cd5751745c"), looks := false }, kinds := [], alts := [], laidByText := true, laidKinds := [.data], laidTests := true, laidLooks := .later }
def CodeMakesUptoCardSaid : Prop := Claim7.holds Tryd.pinned (.plain (OpenSpec.upto codeMakesSpec)) codeMakesUptoCard

/-- THE SECOND FORM's CARD OF 'cotillionlaw03.CodeCut'. -/
def codeCutUptoCard : Claim7 := { stood := { row := codeCutUptoRow, standIns := [], harness := (true, "5af49a4c6a24b72984cc65a36fe8a6ae30306d702a1bcff2f2c6a3cd5751745c"), looks := false }, kinds := [], alts := [], laidByText := true, laidKinds := [.data], laidTests := true, laidLooks := .later }
def CodeCutUptoCardSaid : Prop := Claim7.holds Tryd.pinned (.plain (OpenSpec.upto codeCutSpec)) codeCutUptoCard

/-- THE SECOND FORM's CARD OF 'cotillionlaw04.VerifyWalks'. -/
def verifyWalksUptoCard : Claim7 := { stood := { row := verifyWalksUptoRow, standIns := [], harness := (true, "5af49a4c6a24b72984cc65a36fe8a6ae30306d702a1bcff2f2c6a3cd5751745c"), looks := false }, kinds := [], alts := [], laidByText := true, laidKinds := [.data], laidTests := true, laidLooks := .later }
def VerifyWalksUptoCardSaid : Prop := Claim7.holds Tryd.pinned (.plain (OpenSpec.upto verifyWalksSpec)) verifyWalksUptoCard

/-- THE SECOND FORM's CARD OF 'cotillionlaw04.VerifyHosts'. -/
def verifyHostsUptoCard : Claim7 := { stood := { row := verifyHostsUptoRow, standIns := [], harness := (true, "5af49a4c6a24b72984cc65a36fe8a6ae30306d702a1bcff2f2c6a3cd5751745c"), looks := false }, kinds := [], alts := [], laidByText := true, laidKinds := [.data], laidTests := true, laidLooks := .later }
def VerifyHostsUptoCardSaid : Prop := Claim7.holds Tryd.pinned (.plain (OpenSpec.upto verifyHostsSpec)) verifyHostsUptoCard

/-- THE SECOND FORM's CARD OF 'cotillionlaw04.VerifyPlain'. -/
def verifyPlainUptoCard : Claim7 := { stood := { row := verifyPlainUptoRow, standIns := [], harness := (true, "5af49a4c6a24b72984cc65a36fe8a6ae30306d702a1bcff2f2c6a3cd5751745c"), looks := false }, kinds := [], alts := [], laidByText := true, laidKinds := [.data], laidTests := true, laidLooks := .later }
def VerifyPlainUptoCardSaid : Prop := Claim7.holds Tryd.pinned (.plain (OpenSpec.upto verifyPlainSpec)) verifyPlainUptoCard
end Rows
end Go.Proofs.YtmonbjlkkhpinaaDoor
