/-
  Layer 11: pieces, how many there are, and which may be.
-/
import Derived.Test.YtlhcihjplolgiaaOrdRead
namespace Go.Proofs.Ytlhcihjplolgiaa
open Go.RowKit
set_option linter.unusedVariables false

/-- A piece of a snapshot. -/
structure Pc where
  turn : Int
  bytes : Int
  hash : Nat
  n : Int
  text : List UInt8
def pcV (p : Pc) : Value := .agg #[.int .i64 p.turn, .int .i64 p.bytes, .int .u64 (p.hash : Int), .int .i64 p.n, .string (bs p.text)]
def pcCells (p : Pc) : List Value := [.int .i64 p.turn, .int .i64 p.bytes, .int .u64 (p.hash : Int), .int .i64 p.n, .string (bs p.text)]
def countP (b : Int) : Int := if b < 1 then 0 else (b - 1) / 100 + 1
end Go.Proofs.Ytlhcihjplolgiaa
