/-
  Layer 8: units, their fields, and where one stands in a table.
-/
import Derived.Test.YtcbadcbnknmdnaaRecSet
namespace Go.Proofs.Ytcbadcbnknmdnaa
open Go.RowKit
set_option linter.unusedVariables false

/-- A unit. -/
structure Un where
  id : Int
  kind : Int
  owner : Int
  x : Int
  y : Int
  health : Int
def Un.ints (u : Un) : List Int := [u.id, u.kind, u.owner, u.x, u.y, u.health]
def Un.field (u : Un) (f : Nat) : Int := u.ints.getD (f + 1) 0
def unV (u : Un) : Value := .agg #[.int .i64 u.id, .int .i64 u.kind, .int .i64 u.owner, .int .i64 u.x, .int .i64 u.y, .int .i64 u.health]
/-- May a field be so? -/
def mayN (f : Nat) (x : Int) : Bool := if f < 2 then decide (0 ≤ x) && decide (x ≤ 255) else if f < 4 then decide (-1000 ≤ x) && decide (x ≤ 1000) else decide (1 ≤ x) && decide (x ≤ 1000)
def cmpI (a b : Int) : Int := if a < b then -1 else if b < a then 1 else 0
end Go.Proofs.Ytcbadcbnknmdnaa
