/-
  The walk of the law RosterRows.
-/
import Derived.Test.YtcbadcbnknmdnaaRosR4
import Derived.Test.YtcbadcbnknmdnaaRosL3
namespace Go.Proofs.Ytcbadcbnknmdnaa
open Go.RowKit
set_option linter.unusedVariables false

/-- A list that came in, cut where it is longer than forty. -/
theorem arg40p {w : World} {a : Option Addr} {len cap : Nat} {ns : List Int} (h : NumArg .i64 w a len cap ns) : ∃ l : List Int, l.length ≤ 40 ∧ IntRow .i64 w a l ∧ ((40 < len ∧ l.length = 40) ∨ (len ≤ 40 ∧ l.length = len)) := by
  obtain ⟨rfl, h1, h2, h3, h4, -, h5⟩ := h
  by_cases hl : 40 < ns.length
  · exact ⟨ns.take 40, by simp; omega, h4.take 40, .inl ⟨hl, by simp; omega⟩⟩
  · exact ⟨ns, by omega, h4, .inr ⟨by omega, rfl⟩⟩
theorem withP_case (n : Nat) (l : List Chg) : ∃ n' e' z, withP n 0 l = (n', e', z) ∧ ((z ≠ 0 ∧ n' = n ∧ e' = 0) ∨ (z = 0 ∧ e' = (l.length : Int) ∧ (l.length = 0 → n' = n))) := by
  unfold withP
  by_cases h : (runP n l).2 = 0
  · rw [if_pos h]
    refine ⟨_, _, _, rfl, .inr ⟨rfl, by omega, fun h0 => ?_⟩⟩
    rw [List.eq_nil_of_length_eq_zero h0]; rfl
  · rw [if_neg h]
    exact ⟨_, _, _, rfl, .inl ⟨h, rfl, rfl⟩⟩
theorem withP_lt {n : Nat} (hn : n < 4294967296) (e : Int) (l : List Chg) : (withP n e l).1 < 4294967296 := by
  unfold withP
  split
  · exact runP_lt l n hn
  · exact hn
theorem twice_same (a : Nat) (e : Int) : ((a == a) && (e == e)) = true := by simp
end Go.Proofs.Ytcbadcbnknmdnaa
