/-
  No cell of these rows narrows 'for every input' (looked for: loops, veiled, ifaces, maps, wideKeys, modest, calm, conditions, laid).
  DERIVED. THE GIVEN ROWS OF THIS SEAT. 12 by the template 'for every input the law returns true; each argument reads behind the call as it read before'; 0 by the template 'total and deterministic' (their statements: YtlhcihjplolgiaaTotals.lean).
  GIVEN WITH THE SEED: the statements are not yours to turn. If you find one false, say at which input.
  Laid BY PROGRAM, IN A SANDBOX (cutbox-rows.mjs): the forced cells as the released guide's own fill.sh prints them over the translation 621c37c462442f25… (all of the seat's roots in one cut). By AI agents, Wed Nov 11 2026. No macro, syntax, notation, axiom, sorry.
-/
import Derived.Test.YtlhcihjplolgiaaChecked
import GoSem.Claim
import GoSem.ClaimJoined
import GoSem.ClaimMapViews
import Derived.JoinedTies
import Derived.KernelRfl
namespace Go.Proofs.Ytlhcihjplolgiaa
/- THE CELL 'sum', in the pinned program and in every row, IS THE sha256 OF THE DUMP (.gsa) THAT YtlhcihjplolgiaaProg.lean LOADS. Nothing in Lean hashes anything: it is a label: what it is worth is what the hold of that sum in a sandbox is worth. -/
noncomputable def Try.pinned : Pinned := { name := "ytlhcihjplolgiaa", sum := "621c37c462442f252be6737ecfa31527b4ef7e2eb736ad922e7e16ea5fb91506", checked := Try.checked }
namespace Rows
def none {H : Type} : Left H := { results := [], args := [] }

/-- 'cotillionlaw15.LinkCarries': WHATEVER THE INPUT: true; the input reads as it did. -/
def linkCarriesSpec : ChangeSpec := { name := "linkCarries", fn := fun _ => fun
  | [d] => { results := [.lit (.bool true)], args := [d] }
  | _ => none }
def linkCarriesRow : OpenClaim := { program := "ytlhcihjplolgiaa", sum := "621c37c462442f252be6737ecfa31527b4ef7e2eb736ad922e7e16ea5fb91506", func := "cotillion/cotillionlaw15.LinkCarries", spec := "linkCarries", unfollowed := true, recurses := true, apart := false }
def LinkCarriesSaid : Prop := linkCarriesRow.holds Try.pinned (OpenSpec.ofChange linkCarriesSpec)

/-- ITS FALSE NEIGHBOUR: 'it returns false'. Refute it at one input. -/
def linkCarriesWrong : ChangeSpec := { name := "linkCarries", fn := fun _ => fun
  | [d] => { results := [.lit (.bool false)], args := [d] }
  | _ => none }
def LinkCarriesWrongFalsely : Prop := linkCarriesRow.holds Try.pinned (OpenSpec.ofChange linkCarriesWrong)

/-- 'cotillionlaw15.LinkLive': WHATEVER THE INPUT: true; the input reads as it did. -/
def linkLiveSpec : ChangeSpec := { name := "linkLive", fn := fun _ => fun
  | [d] => { results := [.lit (.bool true)], args := [d] }
  | _ => none }
def linkLiveRow : OpenClaim := { program := "ytlhcihjplolgiaa", sum := "621c37c462442f252be6737ecfa31527b4ef7e2eb736ad922e7e16ea5fb91506", func := "cotillion/cotillionlaw15.LinkLive", spec := "linkLive", unfollowed := true, recurses := true, apart := false }
def LinkLiveSaid : Prop := linkLiveRow.holds Try.pinned (OpenSpec.ofChange linkLiveSpec)

/-- ITS FALSE NEIGHBOUR: 'it returns false'. Refute it at one input. -/
def linkLiveWrong : ChangeSpec := { name := "linkLive", fn := fun _ => fun
  | [d] => { results := [.lit (.bool false)], args := [d] }
  | _ => none }
def LinkLiveWrongFalsely : Prop := linkLiveRow.holds Try.pinned (OpenSpec.ofChange linkLiveWrong)

/-- 'cotillionlaw15.LinkSays': WHATEVER THE INPUT: true; the input reads as it did. -/
def linkSaysSpec : ChangeSpec := { name := "linkSays", fn := fun _ => fun
  | [d1, d2] => { results := [.lit (.bool true)], args := [d1, d2] }
  | _ => none }
def linkSaysRow : OpenClaim := { program := "ytlhcihjplolgiaa", sum := "621c37c462442f252be6737ecfa31527b4ef7e2eb736ad922e7e16ea5fb91506", func := "cotillion/cotillionlaw15.LinkSays", spec := "linkSays", unfollowed := true, recurses := true, apart := false }
def LinkSaysSaid : Prop := linkSaysRow.holds Try.pinned (OpenSpec.ofChange linkSaysSpec)

/-- ITS FALSE NEIGHBOUR: 'it returns false'. Refute it at one input. -/
def linkSaysWrong : ChangeSpec := { name := "linkSays", fn := fun _ => fun
  | [d1, d2] => { results := [.lit (.bool false)], args := [d1, d2] }
  | _ => none }
def LinkSaysWrongFalsely : Prop := linkSaysRow.holds Try.pinned (OpenSpec.ofChange linkSaysWrong)

/-- 'cotillionlaw15.LinkFull': WHATEVER THE INPUT: true; the input reads as it did. -/
def linkFullSpec : ChangeSpec := { name := "linkFull", fn := fun _ => fun
  | [d1, d2] => { results := [.lit (.bool true)], args := [d1, d2] }
  | _ => none }
def linkFullRow : OpenClaim := { program := "ytlhcihjplolgiaa", sum := "621c37c462442f252be6737ecfa31527b4ef7e2eb736ad922e7e16ea5fb91506", func := "cotillion/cotillionlaw15.LinkFull", spec := "linkFull", unfollowed := true, recurses := true, apart := false }
def LinkFullSaid : Prop := linkFullRow.holds Try.pinned (OpenSpec.ofChange linkFullSpec)

/-- ITS FALSE NEIGHBOUR: 'it returns false'. Refute it at one input. -/
def linkFullWrong : ChangeSpec := { name := "linkFull", fn := fun _ => fun
  | [d1, d2] => { results := [.lit (.bool false)], args := [d1, d2] }
  | _ => none }
def LinkFullWrongFalsely : Prop := linkFullRow.holds Try.pinned (OpenSpec.ofChange linkFullWrong)

/-- 'cotillionlaw16.BatchMissing': WHATEVER THE INPUT: true; the input reads as it did. -/
def batchMissingSpec : ChangeSpec := { name := "batchMissing", fn := fun _ => fun
  | [d1, d2] => { results := [.lit (.bool true)], args := [d1, d2] }
  | _ => none }
def batchMissingRow : OpenClaim := { program := "ytlhcihjplolgiaa", sum := "621c37c462442f252be6737ecfa31527b4ef7e2eb736ad922e7e16ea5fb91506", func := "cotillion/cotillionlaw16.BatchMissing", spec := "batchMissing", unfollowed := true, recurses := true, apart := false }
def BatchMissingSaid : Prop := batchMissingRow.holds Try.pinned (OpenSpec.ofChange batchMissingSpec)

/-- ITS FALSE NEIGHBOUR: 'it returns false'. Refute it at one input. -/
def batchMissingWrong : ChangeSpec := { name := "batchMissing", fn := fun _ => fun
  | [d1, d2] => { results := [.lit (.bool false)], args := [d1, d2] }
  | _ => none }
def BatchMissingWrongFalsely : Prop := batchMissingRow.holds Try.pinned (OpenSpec.ofChange batchMissingWrong)

/-- 'cotillionlaw16.BatchDrops': WHATEVER THE INPUT: true; the input reads as it did. -/
def batchDropsSpec : ChangeSpec := { name := "batchDrops", fn := fun _ => fun
  | [d1, d2, d3] => { results := [.lit (.bool true)], args := [d1, d2, d3] }
  | _ => none }
def batchDropsRow : OpenClaim := { program := "ytlhcihjplolgiaa", sum := "621c37c462442f252be6737ecfa31527b4ef7e2eb736ad922e7e16ea5fb91506", func := "cotillion/cotillionlaw16.BatchDrops", spec := "batchDrops", unfollowed := true, recurses := true, apart := false }
def BatchDropsSaid : Prop := batchDropsRow.holds Try.pinned (OpenSpec.ofChange batchDropsSpec)

/-- ITS FALSE NEIGHBOUR: 'it returns false'. Refute it at one input. -/
def batchDropsWrong : ChangeSpec := { name := "batchDrops", fn := fun _ => fun
  | [d1, d2, d3] => { results := [.lit (.bool false)], args := [d1, d2, d3] }
  | _ => none }
def BatchDropsWrongFalsely : Prop := batchDropsRow.holds Try.pinned (OpenSpec.ofChange batchDropsWrong)

/-- 'cotillionlaw16.BatchOthers': WHATEVER THE INPUT: true; the input reads as it did. -/
def batchOthersSpec : ChangeSpec := { name := "batchOthers", fn := fun _ => fun
  | [d1, d2] => { results := [.lit (.bool true)], args := [d1, d2] }
  | _ => none }
def batchOthersRow : OpenClaim := { program := "ytlhcihjplolgiaa", sum := "621c37c462442f252be6737ecfa31527b4ef7e2eb736ad922e7e16ea5fb91506", func := "cotillion/cotillionlaw16.BatchOthers", spec := "batchOthers", unfollowed := true, recurses := true, apart := false }
def BatchOthersSaid : Prop := batchOthersRow.holds Try.pinned (OpenSpec.ofChange batchOthersSpec)

/-- ITS FALSE NEIGHBOUR: 'it returns false'. Refute it at one input. -/
def batchOthersWrong : ChangeSpec := { name := "batchOthers", fn := fun _ => fun
  | [d1, d2] => { results := [.lit (.bool false)], args := [d1, d2] }
  | _ => none }
def BatchOthersWrongFalsely : Prop := batchOthersRow.holds Try.pinned (OpenSpec.ofChange batchOthersWrong)

/-- 'cotillionlaw17.PaceMeter': WHATEVER THE INPUT: true; the input reads as it did. -/
def paceMeterSpec : ChangeSpec := { name := "paceMeter", fn := fun _ => fun
  | [d1, d2, d3] => { results := [.lit (.bool true)], args := [d1, d2, d3] }
  | _ => none }
def paceMeterRow : OpenClaim := { program := "ytlhcihjplolgiaa", sum := "621c37c462442f252be6737ecfa31527b4ef7e2eb736ad922e7e16ea5fb91506", func := "cotillion/cotillionlaw17.PaceMeter", spec := "paceMeter", unfollowed := true, recurses := true, apart := false }
def PaceMeterSaid : Prop := paceMeterRow.holds Try.pinned (OpenSpec.ofChange paceMeterSpec)

/-- ITS FALSE NEIGHBOUR: 'it returns false'. Refute it at one input. -/
def paceMeterWrong : ChangeSpec := { name := "paceMeter", fn := fun _ => fun
  | [d1, d2, d3] => { results := [.lit (.bool false)], args := [d1, d2, d3] }
  | _ => none }
def PaceMeterWrongFalsely : Prop := paceMeterRow.holds Try.pinned (OpenSpec.ofChange paceMeterWrong)

/-- 'cotillionlaw17.PacePlans': WHATEVER THE INPUT: true; the input reads as it did. -/
def pacePlansSpec : ChangeSpec := { name := "pacePlans", fn := fun _ => fun
  | [d1, d2, d3] => { results := [.lit (.bool true)], args := [d1, d2, d3] }
  | _ => none }
def pacePlansRow : OpenClaim := { program := "ytlhcihjplolgiaa", sum := "621c37c462442f252be6737ecfa31527b4ef7e2eb736ad922e7e16ea5fb91506", func := "cotillion/cotillionlaw17.PacePlans", spec := "pacePlans", unfollowed := true, recurses := true, apart := false }
def PacePlansSaid : Prop := pacePlansRow.holds Try.pinned (OpenSpec.ofChange pacePlansSpec)

/-- ITS FALSE NEIGHBOUR: 'it returns false'. Refute it at one input. -/
def pacePlansWrong : ChangeSpec := { name := "pacePlans", fn := fun _ => fun
  | [d1, d2, d3] => { results := [.lit (.bool false)], args := [d1, d2, d3] }
  | _ => none }
def PacePlansWrongFalsely : Prop := pacePlansRow.holds Try.pinned (OpenSpec.ofChange pacePlansWrong)

/-- 'cotillionlaw17.PaceMay': WHATEVER THE INPUT: true; the input reads as it did. -/
def paceMaySpec : ChangeSpec := { name := "paceMay", fn := fun _ => fun
  | [d1, d2] => { results := [.lit (.bool true)], args := [d1, d2] }
  | _ => none }
def paceMayRow : OpenClaim := { program := "ytlhcihjplolgiaa", sum := "621c37c462442f252be6737ecfa31527b4ef7e2eb736ad922e7e16ea5fb91506", func := "cotillion/cotillionlaw17.PaceMay", spec := "paceMay", unfollowed := true, recurses := true, apart := false }
def PaceMaySaid : Prop := paceMayRow.holds Try.pinned (OpenSpec.ofChange paceMaySpec)

/-- ITS FALSE NEIGHBOUR: 'it returns false'. Refute it at one input. -/
def paceMayWrong : ChangeSpec := { name := "paceMay", fn := fun _ => fun
  | [d1, d2] => { results := [.lit (.bool false)], args := [d1, d2] }
  | _ => none }
def PaceMayWrongFalsely : Prop := paceMayRow.holds Try.pinned (OpenSpec.ofChange paceMayWrong)

/-- 'cotillionlaw17.PaceSteady': WHATEVER THE INPUT: true; the input reads as it did. -/
def paceSteadySpec : ChangeSpec := { name := "paceSteady", fn := fun _ => fun
  | [d1, d2, d3] => { results := [.lit (.bool true)], args := [d1, d2, d3] }
  | _ => none }
def paceSteadyRow : OpenClaim := { program := "ytlhcihjplolgiaa", sum := "621c37c462442f252be6737ecfa31527b4ef7e2eb736ad922e7e16ea5fb91506", func := "cotillion/cotillionlaw17.PaceSteady", spec := "paceSteady", unfollowed := true, recurses := true, apart := false }
def PaceSteadySaid : Prop := paceSteadyRow.holds Try.pinned (OpenSpec.ofChange paceSteadySpec)

/-- ITS FALSE NEIGHBOUR: 'it returns false'. Refute it at one input. -/
def paceSteadyWrong : ChangeSpec := { name := "paceSteady", fn := fun _ => fun
  | [d1, d2, d3] => { results := [.lit (.bool false)], args := [d1, d2, d3] }
  | _ => none }
def PaceSteadyWrongFalsely : Prop := paceSteadyRow.holds Try.pinned (OpenSpec.ofChange paceSteadyWrong)

/-- 'cotillionlaw17.PaceRow': WHATEVER THE INPUT: true; the input reads as it did. -/
def paceRowSpec : ChangeSpec := { name := "paceRow", fn := fun _ => fun
  | [d1, d2, d3, d4] => { results := [.lit (.bool true)], args := [d1, d2, d3, d4] }
  | _ => none }
def paceRowRow : OpenClaim := { program := "ytlhcihjplolgiaa", sum := "621c37c462442f252be6737ecfa31527b4ef7e2eb736ad922e7e16ea5fb91506", func := "cotillion/cotillionlaw17.PaceRow", spec := "paceRow", unfollowed := true, recurses := true, apart := false }
def PaceRowSaid : Prop := paceRowRow.holds Try.pinned (OpenSpec.ofChange paceRowSpec)

/-- ITS FALSE NEIGHBOUR: 'it returns false'. Refute it at one input. -/
def paceRowWrong : ChangeSpec := { name := "paceRow", fn := fun _ => fun
  | [d1, d2, d3, d4] => { results := [.lit (.bool false)], args := [d1, d2, d3, d4] }
  | _ => none }
def PaceRowWrongFalsely : Prop := paceRowRow.holds Try.pinned (OpenSpec.ofChange paceRowWrong)

/- THE SECOND FORM. 'bulk': how many values and letters a reading holds, each counted each time it is reached (what is shared counts as often as it is met; a slice's spare places count too). A statement '..UptoSaid' is the law's where the arguments, and the package variables that the reading takes, are together of bulk at most 1048576: NARROWER than '..Said'. Prove '..Said' where nothing that the law and all that it calls make is longer than what came in: it says more and counts as full. Else prove '..UptoSaid'. A law counts once. -/
mutual
def uptoBulk {H : Type} : DataW H → Nat
  | .lit (.string bytes) => bytes.length + 1
  | .lit _ => 1
  | .nil => 1
  | .ptr d => uptoBulk d + 1
  | .slice elems spare => uptoBulkAll elems + uptoBulkAll spare + 1
  | .agg parts => uptoBulkAll parts + 1
  | .iface _ d => uptoBulk d + 1
  | .map entries => uptoBulkEntries entries + 1
  | .held _ => 1
def uptoBulkAll {H : Type} : List (DataW H) → Nat
  | [] => 0
  | d :: r => uptoBulk d + uptoBulkAll r
def uptoBulkEntries {H : Type} : List (Lit × DataW H) → Nat
  | [] => 0
  | x :: r => uptoBulkEntry x + uptoBulkEntries r
def uptoBulkEntry {H : Type} : Lit × DataW H → Nat
  | (.string bytes, d) => bytes.length + uptoBulk d + 1
  | (_, d) => uptoBulk d + 1
 end
def uptoSmall : (H : Type) → List (DataW H) → Bool := fun _ ds => decide (uptoBulkAll ds ≤ 1048576)
def OpenSpec.upto (s : _root_.Go.ChangeSpec) : _root_.Go.OpenSpec := { _root_.Go.OpenSpec.ofChange s with cond := some uptoSmall }

/-- 'cotillionlaw15.LinkCarries', WHERE WHAT IT READS IS OF BULK AT MOST 1048576: true; the input reads as it did. -/
def linkCarriesUptoRow : OpenClaim := { program := "ytlhcihjplolgiaa", sum := "621c37c462442f252be6737ecfa31527b4ef7e2eb736ad922e7e16ea5fb91506", func := "cotillion/cotillionlaw15.LinkCarries", spec := "linkCarries", unfollowed := true, recurses := true, apart := false, narrowed := true }
def LinkCarriesUptoSaid : Prop := linkCarriesUptoRow.holds Try.pinned (OpenSpec.upto linkCarriesSpec)

/-- 'cotillionlaw15.LinkLive', WHERE WHAT IT READS IS OF BULK AT MOST 1048576: true; the input reads as it did. -/
def linkLiveUptoRow : OpenClaim := { program := "ytlhcihjplolgiaa", sum := "621c37c462442f252be6737ecfa31527b4ef7e2eb736ad922e7e16ea5fb91506", func := "cotillion/cotillionlaw15.LinkLive", spec := "linkLive", unfollowed := true, recurses := true, apart := false, narrowed := true }
def LinkLiveUptoSaid : Prop := linkLiveUptoRow.holds Try.pinned (OpenSpec.upto linkLiveSpec)

/-- 'cotillionlaw15.LinkSays', WHERE WHAT IT READS IS OF BULK AT MOST 1048576: true; the input reads as it did. -/
def linkSaysUptoRow : OpenClaim := { program := "ytlhcihjplolgiaa", sum := "621c37c462442f252be6737ecfa31527b4ef7e2eb736ad922e7e16ea5fb91506", func := "cotillion/cotillionlaw15.LinkSays", spec := "linkSays", unfollowed := true, recurses := true, apart := false, narrowed := true }
def LinkSaysUptoSaid : Prop := linkSaysUptoRow.holds Try.pinned (OpenSpec.upto linkSaysSpec)

/-- 'cotillionlaw15.LinkFull', WHERE WHAT IT READS IS OF BULK AT MOST 1048576: true; the input reads as it did. -/
def linkFullUptoRow : OpenClaim := { program := "ytlhcihjplolgiaa", sum := "621c37c462442f252be6737ecfa31527b4ef7e2eb736ad922e7e16ea5fb91506", func := "cotillion/cotillionlaw15.LinkFull", spec := "linkFull", unfollowed := true, recurses := true, apart := false, narrowed := true }
def LinkFullUptoSaid : Prop := linkFullUptoRow.holds Try.pinned (OpenSpec.upto linkFullSpec)

/-- 'cotillionlaw16.BatchMissing', WHERE WHAT IT READS IS OF BULK AT MOST 1048576: true; the input reads as it did. -/
def batchMissingUptoRow : OpenClaim := { program := "ytlhcihjplolgiaa", sum := "621c37c462442f252be6737ecfa31527b4ef7e2eb736ad922e7e16ea5fb91506", func := "cotillion/cotillionlaw16.BatchMissing", spec := "batchMissing", unfollowed := true, recurses := true, apart := false, narrowed := true }
def BatchMissingUptoSaid : Prop := batchMissingUptoRow.holds Try.pinned (OpenSpec.upto batchMissingSpec)

/-- 'cotillionlaw16.BatchDrops', WHERE WHAT IT READS IS OF BULK AT MOST 1048576: true; the input reads as it did. -/
def batchDropsUptoRow : OpenClaim := { program := "ytlhcihjplolgiaa", sum := "621c37c462442f252be6737ecfa31527b4ef7e2eb736ad922e7e16ea5fb91506", func := "cotillion/cotillionlaw16.BatchDrops", spec := "batchDrops", unfollowed := true, recurses := true, apart := false, narrowed := true }
def BatchDropsUptoSaid : Prop := batchDropsUptoRow.holds Try.pinned (OpenSpec.upto batchDropsSpec)

/-- 'cotillionlaw16.BatchOthers', WHERE WHAT IT READS IS OF BULK AT MOST 1048576: true; the input reads as it did. -/
def batchOthersUptoRow : OpenClaim := { program := "ytlhcihjplolgiaa", sum := "621c37c462442f252be6737ecfa31527b4ef7e2eb736ad922e7e16ea5fb91506", func := "cotillion/cotillionlaw16.BatchOthers", spec := "batchOthers", unfollowed := true, recurses := true, apart := false, narrowed := true }
def BatchOthersUptoSaid : Prop := batchOthersUptoRow.holds Try.pinned (OpenSpec.upto batchOthersSpec)

/-- 'cotillionlaw17.PaceMeter', WHERE WHAT IT READS IS OF BULK AT MOST 1048576: true; the input reads as it did. -/
def paceMeterUptoRow : OpenClaim := { program := "ytlhcihjplolgiaa", sum := "621c37c462442f252be6737ecfa31527b4ef7e2eb736ad922e7e16ea5fb91506", func := "cotillion/cotillionlaw17.PaceMeter", spec := "paceMeter", unfollowed := true, recurses := true, apart := false, narrowed := true }
def PaceMeterUptoSaid : Prop := paceMeterUptoRow.holds Try.pinned (OpenSpec.upto paceMeterSpec)

/-- 'cotillionlaw17.PacePlans', WHERE WHAT IT READS IS OF BULK AT MOST 1048576: true; the input reads as it did. -/
def pacePlansUptoRow : OpenClaim := { program := "ytlhcihjplolgiaa", sum := "621c37c462442f252be6737ecfa31527b4ef7e2eb736ad922e7e16ea5fb91506", func := "cotillion/cotillionlaw17.PacePlans", spec := "pacePlans", unfollowed := true, recurses := true, apart := false, narrowed := true }
def PacePlansUptoSaid : Prop := pacePlansUptoRow.holds Try.pinned (OpenSpec.upto pacePlansSpec)

/-- 'cotillionlaw17.PaceMay', WHERE WHAT IT READS IS OF BULK AT MOST 1048576: true; the input reads as it did. -/
def paceMayUptoRow : OpenClaim := { program := "ytlhcihjplolgiaa", sum := "621c37c462442f252be6737ecfa31527b4ef7e2eb736ad922e7e16ea5fb91506", func := "cotillion/cotillionlaw17.PaceMay", spec := "paceMay", unfollowed := true, recurses := true, apart := false, narrowed := true }
def PaceMayUptoSaid : Prop := paceMayUptoRow.holds Try.pinned (OpenSpec.upto paceMaySpec)

/-- 'cotillionlaw17.PaceSteady', WHERE WHAT IT READS IS OF BULK AT MOST 1048576: true; the input reads as it did. -/
def paceSteadyUptoRow : OpenClaim := { program := "ytlhcihjplolgiaa", sum := "621c37c462442f252be6737ecfa31527b4ef7e2eb736ad922e7e16ea5fb91506", func := "cotillion/cotillionlaw17.PaceSteady", spec := "paceSteady", unfollowed := true, recurses := true, apart := false, narrowed := true }
def PaceSteadyUptoSaid : Prop := paceSteadyUptoRow.holds Try.pinned (OpenSpec.upto paceSteadySpec)

/-- 'cotillionlaw17.PaceRow', WHERE WHAT IT READS IS OF BULK AT MOST 1048576: true; the input reads as it did. -/
def paceRowUptoRow : OpenClaim := { program := "ytlhcihjplolgiaa", sum := "621c37c462442f252be6737ecfa31527b4ef7e2eb736ad922e7e16ea5fb91506", func := "cotillion/cotillionlaw17.PaceRow", spec := "paceRow", unfollowed := true, recurses := true, apart := false, narrowed := true }
def PaceRowUptoSaid : Prop := paceRowUptoRow.holds Try.pinned (OpenSpec.upto paceRowSpec)

end Rows
end Go.Proofs.Ytlhcihjplolgiaa
