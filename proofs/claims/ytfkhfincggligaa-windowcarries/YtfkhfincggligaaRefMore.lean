/-
  The document's own reader: counts, whole numbers, texts, the end.
-/
import Derived.Test.YtfkhfincggligaaRefNumT
namespace Go.Proofs.Ytfkhfincggligaa
open Go.RowKit
set_option linter.unusedVariables false

theorem numS_ok (st : List UInt8 × Nat) (h : st.2 ≠ 0 → st.1 = []) (hl : st.1.length ≤ 1000000000) : ((numS st).1.2 ≠ 0 → (numS st).1.1 = []) ∧ (numS st).1.1.length ≤ 1000000000 := by
  unfold numS; split
  · refine ⟨failS_ok st _ h, ?_⟩
    unfold failS; split
    · simp
    · exact hl
  · refine ⟨fun h' => ?_, ?_⟩
    · simp only at h' ⊢; rw [h h']; simp
    · simp; omega
theorem countS_ok (st : List UInt8 × Nat) (most : Int) (h : st.2 ≠ 0 → st.1 = []) (hl : st.1.length ≤ 1000000000) : ((countS st most).1.2 ≠ 0 → (countS st most).1.1 = []) ∧ (countS st most).1.1.length ≤ 1000000000 := by
  have h1 := numS_ok st h hl
  unfold countS; split
  · refine ⟨failS_ok _ _ h1.1, ?_⟩
    unfold failS; split
    · simp
    · exact h1.2
  · exact h1
end Go.Proofs.Ytfkhfincggligaa
