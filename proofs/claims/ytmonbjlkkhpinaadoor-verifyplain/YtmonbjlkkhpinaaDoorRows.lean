/-
  NARROWER THAN 'FOR EVERY INPUT', by the rows' own cells (each row's printed sentence says how): CodeTexts: laid · CodeReads: laid · CodeOps: laid · CodeMakes: laid · CodeCut: laid · VerifyWalks: laid · VerifyHosts: laid · VerifyPlain: laid.
  DERIVED. THE GIVEN ROWS OF THIS SEAT. 8 by the template 'for every input the law returns true; each argument reads behind the call as it read before'; 0 by the template 'total and deterministic' (their statements: YtmonbjlkkhpinaaDoorTotals.lean).
  GIVEN WITH THE SEED: the statements are not yours to turn. If you find one false, say at which input.
  Laid BY PROGRAM, IN A SANDBOX (cutbox-rows.mjs): the forced cells as the released guide's own fill.sh prints them over the translation b743e8643479c758… (all of the seat's roots in one cut). By AI agents, Wed Nov 11 2026. No macro, syntax, notation, axiom, sorry.
-/
import Derived.Test.YtmonbjlkkhpinaaDoorChecked
import GoSem.Claim
import GoSem.ClaimJoined
import GoSem.ClaimMapViews
import Derived.JoinedTies
import Derived.KernelRfl
namespace Go.Proofs.YtmonbjlkkhpinaaDoor
/- THE CELL 'sum', in the pinned program and in every row, IS THE sha256 OF THE DUMP (.gsa) THAT YtmonbjlkkhpinaaDoorProg.lean LOADS. Nothing in Lean hashes anything: it is a label: what it is worth is what the hold of that sum in a sandbox is worth. -/
noncomputable def Tryd.pinned : Pinned := { name := "ytmonbjlkkhpinaadoor", sum := "b743e8643479c75851130242c77dd3170e3862296dbe19df10f7552c825f11a8", checked := Tryd.checked }
namespace Rows
def none {H : Type} : Left H := { results := [], args := [] }

/- WHAT THE LISTED PACKAGE-LEVEL VARIABLES READ AS WHEN THE CALL BEGINS. Each datum BY PROGRAM (the guide's laid-datum.mjs) off the statement by which the dump's own 'gosem.cut.vars' lays the variable. In a bare row this is a premise. The card (YtmonbjlkkhpinaaDoorCards.lean) ties it to the program's text. -/
def laid_cotillion_code_names {H : Type} : DataW H := .agg [.lit (.string []), .lit (.string [112, 117, 115, 104]), .lit (.string [112, 111, 112]), .lit (.string [100, 117, 112]), .lit (.string [115, 119, 97, 112]), .lit (.string [97, 100, 100]), .lit (.string [115, 117, 98]), .lit (.string [109, 117, 108]), .lit (.string [100, 105, 118]), .lit (.string [109, 111, 100]), .lit (.string [101, 113]), .lit (.string [108, 101, 115, 115]), .lit (.string [110, 111, 116]), .lit (.string [106, 117, 109, 112]), .lit (.string [98, 114, 97, 110, 99, 104]), .lit (.string [99, 97, 108, 108]), .lit (.string [114, 101, 116]), .lit (.string [108, 111, 97, 100]), .lit (.string [115, 116, 111, 114, 101]), .lit (.string [103, 101, 116]), .lit (.string [112, 117, 116]), .lit (.string [114, 97, 110, 100]), .lit (.string [104, 111, 115, 116])]
def laid_cotillion_verify_hostArgs {H : Type} : DataW H := .agg [.lit (.int .i64 3), .lit (.int .i64 1), .lit (.int .i64 2), .lit (.int .i64 3), .lit (.int .i64 0), .lit (.int .i64 1), .lit (.int .i64 0)]

/-- 'cotillionlaw03.CodeTexts': WHATEVER THE INPUT: true; the input reads as it did. -/
def codeTextsSpec : ChangeSpec := { name := "codeTexts", fn := fun _ => fun
  | [d] => { results := [.lit (.bool true)], args := [d] }
  | _ => none }
def codeTextsRow : OpenClaim := { program := "ytmonbjlkkhpinaadoor", sum := "b743e8643479c75851130242c77dd3170e3862296dbe19df10f7552c825f11a8", func := "cotillion/cotillionlaw03.CodeTexts", spec := "codeTexts", named := ["cotillion/code.names"], apart := false, laid := [("cotillion/code.names", laid_cotillion_code_names)] }
def CodeTextsSaid : Prop := codeTextsRow.holds Tryd.pinned (OpenSpec.ofChange codeTextsSpec)

/-- ITS FALSE NEIGHBOUR: 'it returns false'. Refute it at one input. -/
def codeTextsWrong : ChangeSpec := { name := "codeTexts", fn := fun _ => fun
  | [d] => { results := [.lit (.bool false)], args := [d] }
  | _ => none }
def CodeTextsWrongFalsely : Prop := codeTextsRow.holds Tryd.pinned (OpenSpec.ofChange codeTextsWrong)

/-- 'cotillionlaw03.CodeReads': WHATEVER THE INPUT: true; the input reads as it did. -/
def codeReadsSpec : ChangeSpec := { name := "codeReads", fn := fun _ => fun
  | [d] => { results := [.lit (.bool true)], args := [d] }
  | _ => none }
def codeReadsRow : OpenClaim := { program := "ytmonbjlkkhpinaadoor", sum := "b743e8643479c75851130242c77dd3170e3862296dbe19df10f7552c825f11a8", func := "cotillion/cotillionlaw03.CodeReads", spec := "codeReads", named := ["cotillion/code.names"], apart := false, laid := [("cotillion/code.names", laid_cotillion_code_names)] }
def CodeReadsSaid : Prop := codeReadsRow.holds Tryd.pinned (OpenSpec.ofChange codeReadsSpec)

/-- ITS FALSE NEIGHBOUR: 'it returns false'. Refute it at one input. -/
def codeReadsWrong : ChangeSpec := { name := "codeReads", fn := fun _ => fun
  | [d] => { results := [.lit (.bool false)], args := [d] }
  | _ => none }
def CodeReadsWrongFalsely : Prop := codeReadsRow.holds Tryd.pinned (OpenSpec.ofChange codeReadsWrong)

/-- 'cotillionlaw03.CodeOps': WHATEVER THE INPUT: true; the input reads as it did. -/
def codeOpsSpec : ChangeSpec := { name := "codeOps", fn := fun _ => fun
  | [d1, d2, d3] => { results := [.lit (.bool true)], args := [d1, d2, d3] }
  | _ => none }
def codeOpsRow : OpenClaim := { program := "ytmonbjlkkhpinaadoor", sum := "b743e8643479c75851130242c77dd3170e3862296dbe19df10f7552c825f11a8", func := "cotillion/cotillionlaw03.CodeOps", spec := "codeOps", named := ["cotillion/code.names"], apart := false, laid := [("cotillion/code.names", laid_cotillion_code_names)] }
def CodeOpsSaid : Prop := codeOpsRow.holds Tryd.pinned (OpenSpec.ofChange codeOpsSpec)

/-- ITS FALSE NEIGHBOUR: 'it returns false'. Refute it at one input. -/
def codeOpsWrong : ChangeSpec := { name := "codeOps", fn := fun _ => fun
  | [d1, d2, d3] => { results := [.lit (.bool false)], args := [d1, d2, d3] }
  | _ => none }
def CodeOpsWrongFalsely : Prop := codeOpsRow.holds Tryd.pinned (OpenSpec.ofChange codeOpsWrong)

/-- 'cotillionlaw03.CodeMakes': WHATEVER THE INPUT: true; the input reads as it did. -/
def codeMakesSpec : ChangeSpec := { name := "codeMakes", fn := fun _ => fun
  | [d1, d2, d3] => { results := [.lit (.bool true)], args := [d1, d2, d3] }
  | _ => none }
def codeMakesRow : OpenClaim := { program := "ytmonbjlkkhpinaadoor", sum := "b743e8643479c75851130242c77dd3170e3862296dbe19df10f7552c825f11a8", func := "cotillion/cotillionlaw03.CodeMakes", spec := "codeMakes", named := ["cotillion/code.names"], apart := false, laid := [("cotillion/code.names", laid_cotillion_code_names)] }
def CodeMakesSaid : Prop := codeMakesRow.holds Tryd.pinned (OpenSpec.ofChange codeMakesSpec)

/-- ITS FALSE NEIGHBOUR: 'it returns false'. Refute it at one input. -/
def codeMakesWrong : ChangeSpec := { name := "codeMakes", fn := fun _ => fun
  | [d1, d2, d3] => { results := [.lit (.bool false)], args := [d1, d2, d3] }
  | _ => none }
def CodeMakesWrongFalsely : Prop := codeMakesRow.holds Tryd.pinned (OpenSpec.ofChange codeMakesWrong)

/-- 'cotillionlaw03.CodeCut': WHATEVER THE INPUT: true; the input reads as it did. -/
def codeCutSpec : ChangeSpec := { name := "codeCut", fn := fun _ => fun
  | [d1, d2] => { results := [.lit (.bool true)], args := [d1, d2] }
  | _ => none }
def codeCutRow : OpenClaim := { program := "ytmonbjlkkhpinaadoor", sum := "b743e8643479c75851130242c77dd3170e3862296dbe19df10f7552c825f11a8", func := "cotillion/cotillionlaw03.CodeCut", spec := "codeCut", named := ["cotillion/code.names"], apart := false, laid := [("cotillion/code.names", laid_cotillion_code_names)] }
def CodeCutSaid : Prop := codeCutRow.holds Tryd.pinned (OpenSpec.ofChange codeCutSpec)

/-- ITS FALSE NEIGHBOUR: 'it returns false'. Refute it at one input. -/
def codeCutWrong : ChangeSpec := { name := "codeCut", fn := fun _ => fun
  | [d1, d2] => { results := [.lit (.bool false)], args := [d1, d2] }
  | _ => none }
def CodeCutWrongFalsely : Prop := codeCutRow.holds Tryd.pinned (OpenSpec.ofChange codeCutWrong)

/-- 'cotillionlaw04.VerifyWalks': WHATEVER THE INPUT: true; the input reads as it did. -/
def verifyWalksSpec : ChangeSpec := { name := "verifyWalks", fn := fun _ => fun
  | [d1, d2, d3] => { results := [.lit (.bool true)], args := [d1, d2, d3] }
  | _ => none }
def verifyWalksRow : OpenClaim := { program := "ytmonbjlkkhpinaadoor", sum := "b743e8643479c75851130242c77dd3170e3862296dbe19df10f7552c825f11a8", func := "cotillion/cotillionlaw04.VerifyWalks", spec := "verifyWalks", unfollowed := true, recurses := true, named := ["cotillion/verify.hostArgs"], apart := false, laid := [("cotillion/verify.hostArgs", laid_cotillion_verify_hostArgs)] }
def VerifyWalksSaid : Prop := verifyWalksRow.holds Tryd.pinned (OpenSpec.ofChange verifyWalksSpec)

/-- ITS FALSE NEIGHBOUR: 'it returns false'. Refute it at one input. -/
def verifyWalksWrong : ChangeSpec := { name := "verifyWalks", fn := fun _ => fun
  | [d1, d2, d3] => { results := [.lit (.bool false)], args := [d1, d2, d3] }
  | _ => none }
def VerifyWalksWrongFalsely : Prop := verifyWalksRow.holds Tryd.pinned (OpenSpec.ofChange verifyWalksWrong)

/-- 'cotillionlaw04.VerifyHosts': WHATEVER THE INPUT: true; the input reads as it did. -/
def verifyHostsSpec : ChangeSpec := { name := "verifyHosts", fn := fun _ => fun
  | [d1, d2] => { results := [.lit (.bool true)], args := [d1, d2] }
  | _ => none }
def verifyHostsRow : OpenClaim := { program := "ytmonbjlkkhpinaadoor", sum := "b743e8643479c75851130242c77dd3170e3862296dbe19df10f7552c825f11a8", func := "cotillion/cotillionlaw04.VerifyHosts", spec := "verifyHosts", unfollowed := true, recurses := true, named := ["cotillion/verify.hostArgs"], apart := false, laid := [("cotillion/verify.hostArgs", laid_cotillion_verify_hostArgs)] }
def VerifyHostsSaid : Prop := verifyHostsRow.holds Tryd.pinned (OpenSpec.ofChange verifyHostsSpec)

/-- ITS FALSE NEIGHBOUR: 'it returns false'. Refute it at one input. -/
def verifyHostsWrong : ChangeSpec := { name := "verifyHosts", fn := fun _ => fun
  | [d1, d2] => { results := [.lit (.bool false)], args := [d1, d2] }
  | _ => none }
def VerifyHostsWrongFalsely : Prop := verifyHostsRow.holds Tryd.pinned (OpenSpec.ofChange verifyHostsWrong)

/-- 'cotillionlaw04.VerifyPlain': WHATEVER THE INPUT: true; the input reads as it did. -/
def verifyPlainSpec : ChangeSpec := { name := "verifyPlain", fn := fun _ => fun
  | [d1, d2] => { results := [.lit (.bool true)], args := [d1, d2] }
  | _ => none }
def verifyPlainRow : OpenClaim := { program := "ytmonbjlkkhpinaadoor", sum := "b743e8643479c75851130242c77dd3170e3862296dbe19df10f7552c825f11a8", func := "cotillion/cotillionlaw04.VerifyPlain", spec := "verifyPlain", unfollowed := true, recurses := true, named := ["cotillion/verify.hostArgs"], apart := false, laid := [("cotillion/verify.hostArgs", laid_cotillion_verify_hostArgs)] }
def VerifyPlainSaid : Prop := verifyPlainRow.holds Tryd.pinned (OpenSpec.ofChange verifyPlainSpec)

/-- ITS FALSE NEIGHBOUR: 'it returns false'. Refute it at one input. -/
def verifyPlainWrong : ChangeSpec := { name := "verifyPlain", fn := fun _ => fun
  | [d1, d2] => { results := [.lit (.bool false)], args := [d1, d2] }
  | _ => none }
def VerifyPlainWrongFalsely : Prop := verifyPlainRow.holds Tryd.pinned (OpenSpec.ofChange verifyPlainWrong)

/- THE SECOND FORM. 'bulk': how many values and letters a reading holds, each counted each time it is reached (what is shared counts as often as it is met; a slice's spare places count too). A statement '..UptoSaid' is the law's where the arguments, and the package variables that the reading takes, are together of bulk at most 1048576: NARROWER than '..Said'. Prove '..Said' where nothing that the law and all that it calls make is longer than what came in: it says more and counts as full. Else prove '..UptoSaid'. A law counts once. -/
mutual
def uptoBulk {H : Type} : DataW H → Nat
  | .lit (.string bytes) => bytes.length + 1
  | .lit _ => 1
  | .nil => 1
  | .ptr d => uptoBulk d + 1
  | .slice elems spare => uptoBulkAll elems + uptoBulkAll spare + 1
  | .agg parts => uptoBulkAll parts + 1
  | .iface _ d => uptoBulk d + 1
  | .map entries => uptoBulkEntries entries + 1
  | .held _ => 1
def uptoBulkAll {H : Type} : List (DataW H) → Nat
  | [] => 0
  | d :: r => uptoBulk d + uptoBulkAll r
def uptoBulkEntries {H : Type} : List (Lit × DataW H) → Nat
  | [] => 0
  | x :: r => uptoBulkEntry x + uptoBulkEntries r
def uptoBulkEntry {H : Type} : Lit × DataW H → Nat
  | (.string bytes, d) => bytes.length + uptoBulk d + 1
  | (_, d) => uptoBulk d + 1
 end
def uptoSmall : (H : Type) → List (DataW H) → Bool := fun _ ds => decide (uptoBulkAll ds ≤ 1048576)
def OpenSpec.upto (s : _root_.Go.ChangeSpec) : _root_.Go.OpenSpec := { _root_.Go.OpenSpec.ofChange s with cond := some uptoSmall }

/-- 'cotillionlaw03.CodeTexts', WHERE WHAT IT READS IS OF BULK AT MOST 1048576: true; the input reads as it did. -/
def codeTextsUptoRow : OpenClaim := { program := "ytmonbjlkkhpinaadoor", sum := "b743e8643479c75851130242c77dd3170e3862296dbe19df10f7552c825f11a8", func := "cotillion/cotillionlaw03.CodeTexts", spec := "codeTexts", named := ["cotillion/code.names"], apart := false, laid := [("cotillion/code.names", laid_cotillion_code_names)], narrowed := true }
def CodeTextsUptoSaid : Prop := codeTextsUptoRow.holds Tryd.pinned (OpenSpec.upto codeTextsSpec)

/-- 'cotillionlaw03.CodeReads', WHERE WHAT IT READS IS OF BULK AT MOST 1048576: true; the input reads as it did. -/
def codeReadsUptoRow : OpenClaim := { program := "ytmonbjlkkhpinaadoor", sum := "b743e8643479c75851130242c77dd3170e3862296dbe19df10f7552c825f11a8", func := "cotillion/cotillionlaw03.CodeReads", spec := "codeReads", named := ["cotillion/code.names"], apart := false, laid := [("cotillion/code.names", laid_cotillion_code_names)], narrowed := true }
def CodeReadsUptoSaid : Prop := codeReadsUptoRow.holds Tryd.pinned (OpenSpec.upto codeReadsSpec)

/-- 'cotillionlaw03.CodeOps', WHERE WHAT IT READS IS OF BULK AT MOST 1048576: true; the input reads as it did. -/
def codeOpsUptoRow : OpenClaim := { program := "ytmonbjlkkhpinaadoor", sum := "b743e8643479c75851130242c77dd3170e3862296dbe19df10f7552c825f11a8", func := "cotillion/cotillionlaw03.CodeOps", spec := "codeOps", named := ["cotillion/code.names"], apart := false, laid := [("cotillion/code.names", laid_cotillion_code_names)], narrowed := true }
def CodeOpsUptoSaid : Prop := codeOpsUptoRow.holds Tryd.pinned (OpenSpec.upto codeOpsSpec)

/-- 'cotillionlaw03.CodeMakes', WHERE WHAT IT READS IS OF BULK AT MOST 1048576: true; the input reads as it did. -/
def codeMakesUptoRow : OpenClaim := { program := "ytmonbjlkkhpinaadoor", sum := "b743e8643479c75851130242c77dd3170e3862296dbe19df10f7552c825f11a8", func := "cotillion/cotillionlaw03.CodeMakes", spec := "codeMakes", named := ["cotillion/code.names"], apart := false, laid := [("cotillion/code.names", laid_cotillion_code_names)], narrowed := true }
def CodeMakesUptoSaid : Prop := codeMakesUptoRow.holds Tryd.pinned (OpenSpec.upto codeMakesSpec)

/-- 'cotillionlaw03.CodeCut', WHERE WHAT IT READS IS OF BULK AT MOST 1048576: true; the input reads as it did. -/
def codeCutUptoRow : OpenClaim := { program := "ytmonbjlkkhpinaadoor", sum := "b743e8643479c75851130242c77dd3170e3862296dbe19df10f7552c825f11a8", func := "cotillion/cotillionlaw03.CodeCut", spec := "codeCut", named := ["cotillion/code.names"], apart := false, laid := [("cotillion/code.names", laid_cotillion_code_names)], narrowed := true }
def CodeCutUptoSaid : Prop := codeCutUptoRow.holds Tryd.pinned (OpenSpec.upto codeCutSpec)

/-- 'cotillionlaw04.VerifyWalks', WHERE WHAT IT READS IS OF BULK AT MOST 1048576: true; the input reads as it did. -/
def verifyWalksUptoRow : OpenClaim := { program := "ytmonbjlkkhpinaadoor", sum := "b743e8643479c75851130242c77dd3170e3862296dbe19df10f7552c825f11a8", func := "cotillion/cotillionlaw04.VerifyWalks", spec := "verifyWalks", unfollowed := true, recurses := true, named := ["cotillion/verify.hostArgs"], apart := false, laid := [("cotillion/verify.hostArgs", laid_cotillion_verify_hostArgs)], narrowed := true }
def VerifyWalksUptoSaid : Prop := verifyWalksUptoRow.holds Tryd.pinned (OpenSpec.upto verifyWalksSpec)

/-- 'cotillionlaw04.VerifyHosts', WHERE WHAT IT READS IS OF BULK AT MOST 1048576: true; the input reads as it did. -/
def verifyHostsUptoRow : OpenClaim := { program := "ytmonbjlkkhpinaadoor", sum := "b743e8643479c75851130242c77dd3170e3862296dbe19df10f7552c825f11a8", func := "cotillion/cotillionlaw04.VerifyHosts", spec := "verifyHosts", unfollowed := true, recurses := true, named := ["cotillion/verify.hostArgs"], apart := false, laid := [("cotillion/verify.hostArgs", laid_cotillion_verify_hostArgs)], narrowed := true }
def VerifyHostsUptoSaid : Prop := verifyHostsUptoRow.holds Tryd.pinned (OpenSpec.upto verifyHostsSpec)

/-- 'cotillionlaw04.VerifyPlain', WHERE WHAT IT READS IS OF BULK AT MOST 1048576: true; the input reads as it did. -/
def verifyPlainUptoRow : OpenClaim := { program := "ytmonbjlkkhpinaadoor", sum := "b743e8643479c75851130242c77dd3170e3862296dbe19df10f7552c825f11a8", func := "cotillion/cotillionlaw04.VerifyPlain", spec := "verifyPlain", unfollowed := true, recurses := true, named := ["cotillion/verify.hostArgs"], apart := false, laid := [("cotillion/verify.hostArgs", laid_cotillion_verify_hostArgs)], narrowed := true }
def VerifyPlainUptoSaid : Prop := verifyPlainUptoRow.holds Tryd.pinned (OpenSpec.upto verifyPlainSpec)

end Rows
end Go.Proofs.YtmonbjlkkhpinaaDoor
