/-
  Layer 9: orders: which may be.
-/
import Derived.Test.YtpilkaggiajjmaaRecs
import Derived.Outline
namespace Go.Proofs.Ytpilkaggiajjmaa
open Go.RowKit
set_option linter.unusedVariables false

/-- An order. -/
structure Ord where
  kind : Int
  unit : Int
  a : Int
  b : Int
def Ord.ints (o : Ord) : List Int := [o.kind, o.unit, o.a, o.b]
def OrdOk (o : Ord) : Prop := B64 o.kind ∧ B64 o.unit ∧ B64 o.a ∧ B64 o.b
def numQ (n : Int) : Bool := decide (1 ≤ n) && decide (n < 1099511627776)
def placeQ (n : Int) : Bool := decide (-1000 ≤ n) && decide (n ≤ 1000)
def kindQ (n : Int) : Bool := decide (0 ≤ n) && decide (n ≤ 255)
def okN (q : Bool) : Nat := if q then 0 else 4
/-- The number of the error that tells why an order may not be. -/
def checkN (o : Ord) : Nat :=
  if o.kind = 1 then okN (numQ o.unit && (placeQ o.a && placeQ o.b))
  else if o.kind = 2 then okN (numQ o.unit && (numQ o.a && decide (o.b = 0)))
  else if o.kind = 3 then okN (decide (o.unit = 0) && (kindQ o.a && placeQ o.b))
  else if o.kind = 4 then okN (numQ o.unit && (decide (o.a = 0) && decide (o.b = 0)))
  else 7
theorem checkN_le (o : Ord) : checkN o ≤ 7 := by
  unfold checkN okN
  repeat' split
  all_goals omega
def ordV (o : Ord) : Value := .agg #[.int .i64 o.kind, .int .i64 o.unit, .int .i64 o.a, .int .i64 o.b]
end Go.Proofs.Ytpilkaggiajjmaa
