/-
  Layer 11: pieces, how many there are, and which may be.
-/
import Derived.Test.YthgnkkpmnfjohaaOrdRead
namespace Go.Proofs.Ythgnkkpmnfjohaa
open Go.RowKit
set_option linter.unusedVariables false

/-- A piece of a snapshot. -/
structure Pc where
  turn : Int
  bytes : Int
  hash : Nat
  n : Int
  text : List UInt8
def pcV (p : Pc) : Value := .agg #[.int .i64 p.turn, .int .i64 p.bytes, .int .u64 (p.hash : Int), .int .i64 p.n, .string (bs p.text)]
def pcCells (p : Pc) : List Value := [.int .i64 p.turn, .int .i64 p.bytes, .int .u64 (p.hash : Int), .int .i64 p.n, .string (bs p.text)]
def countP (b : Int) : Int := if b < 1 then 0 else (b - 1) / 100 + 1
theorem chCount_any (b : Int) (hb : B64 b) (w : World) : Calls Try.prog 22 #[.int .i64 b] w fun r w' => r = .returned (.int .i64 (countP b)) ∧ w = w' := by
  unfold B64 at hb
  by_cases h : b < 1
  · have HC := Lib.hid (show countP b = 0 from if_pos h)
    have hd : decide (b < 1) = true := by simpa using h
    go_enter Try.func22, Try.ntmps22
    go_wp2
    go_ret
    exact ⟨by rw [HC.out]; rfl, rfl⟩
  · have HC := Lib.hid (show countP b = (b - 1) / 100 + 1 from if_neg h)
    have hd : decide (b < 1) = false := by simpa using h
    have h1 : IntKind.i64.wrap (b - 1) = b - 1 := by rw [IntKind.wrap_i64]; omega
    have h2 : (b - 1).tdiv 100 = (b - 1) / 100 := Int.tdiv_eq_ediv_of_nonneg (by omega)
    have h3 : IntKind.i64.wrap ((b - 1) / 100) = (b - 1) / 100 := by rw [IntKind.wrap_i64]; omega
    have h4 : IntKind.i64.wrap ((b - 1) / 100 + 1) = (b - 1) / 100 + 1 := by rw [IntKind.wrap_i64]; omega
    go_enter Try.func22, Try.ntmps22
    go_wp2
    go_ret
    exact ⟨by rw [HC.out]; rfl, rfl⟩
theorem refCount11_any (b : Int) (hb : b ≤ 1000000) (hb2 : -9223372036854775808 ≤ b) (w : World) : Calls Try.prog 16 #[.int .i64 b] w fun r w' => r = .returned (.int .i64 (countP b)) ∧ w = w' := by
  go_enter Try.func16, Try.ntmps16
  go_wp2
  go_loopw [3, 4] (fun nv iv wr => ∃ k : Nat, nv = .int .i64 k ∧ iv = .int .i64 ((100 * k : Nat) : Int) ∧ (k = 0 ∨ 100 * ((k : Int) - 1) < b) ∧ wr = w) (fun nv _ _ => 10001 - (intOf nv).toNat)
  case atStart => exact ⟨0, rfl, rfl, .inl rfl, (by first | rfl | trivial)⟩
  case round =>
    obtain ⟨k, rfl, rfl, hk, rfl⟩ := hrel
    by_cases h : ((100 * k : Nat) : Int) < b
    · go_wp2
      go_roundw
      case rel => exact ⟨k + 1, by go_num, by go_num, .inr (by omega), (by first | rfl | trivial)⟩
      case measure => simp [intOf]; omega
    · have hd : decide (((100 * k : Nat) : Int) < b) = false := by simpa using h
      have HC := Lib.hid (show countP b = (k : Int) by unfold countP; split <;> omega)
      go_wp2
      go_ret
      exact ⟨by rw [HC.out]; rfl, rfl⟩
end Go.Proofs.Ythgnkkpmnfjohaa
