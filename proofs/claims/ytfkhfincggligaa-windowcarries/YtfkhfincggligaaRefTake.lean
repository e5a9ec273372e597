/-
  The document's own reader, a thing by value: what each of its calls comes to.
-/
import Derived.Test.YtfkhfincggligaaWireTake
import Derived.Test.YtfkhfincggligaaWireRef
import Derived.RegionTactic
namespace Go.Proofs.Ytfkhfincggligaa
open Go.RowKit
set_option linter.unusedVariables false

/-- A reader as a value. -/
def inV (st : List UInt8 × Nat) : Value := .agg #[.string (bs st.1), .int .i64 (st.2 : Nat)]
def InOk (st : List UInt8 × Nat) : Prop := (st.2 ≠ 0 → st.1 = []) ∧ st.1.length ≤ 1000000000 ∧ st.2 ≤ 1000
theorem rawS_err {l : List UInt8} {e : Nat} (n : Int) (he : e ≠ 0) (h : e ≠ 0 → l = []) : rawS (l, e) n = ((l, e), []) := by
  have hl := h he
  subst hl
  unfold rawS failS
  split
  · rw [if_neg (fun h => he h.1)]
  · simp
theorem rawS_none (l : List UInt8) (e : Nat) (n : Int) (hn : n ≤ 0) : rawS (l, e) n = ((l, e), []) := by
  have : n.toNat = 0 := by omega
  unfold rawS
  rw [this, if_neg (by simp)]
  simp
theorem rawS_end (l : List UInt8) (n : Int) (hn : (l.length : Int) < n) : rawS (l, 0) n = (([], 1), []) := by
  unfold rawS failS
  rw [if_pos (by show l.length < n.toNat; omega), if_pos ⟨rfl, by decide⟩]
theorem rawS_yes (l : List UInt8) (m : Nat) (hn : m ≤ l.length) : rawS (l, 0) (m : Int) = ((l.drop m, 0), l.take m) := by
  unfold rawS
  rw [if_neg (by simp; omega)]
  simp
theorem pow_le {i : Nat} (h : i ≤ 8) : (128 : Nat) ^ i ≤ 72057594037927936 := by
  have h1 : (128 : Nat) ^ i ≤ 128 ^ 8 := Nat.pow_le_pow_right (by decide) h
  have h2 : (128 : Nat) ^ 8 = 72057594037927936 := by decide
  omega
end Go.Proofs.Ytfkhfincggligaa
