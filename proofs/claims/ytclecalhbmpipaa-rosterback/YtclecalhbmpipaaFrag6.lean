/-
  Layer 12: what joins parts, inside one call.
-/
import Derived.Test.YtclecalhbmpipaaWalkFParses
namespace Go.Proofs.Ytclecalhbmpipaa
open Go.RowKit
set_option linter.unusedVariables false

/-- What joins lies at block b, of the making of the call that began in w0. -/
def JIn (w0 : World) (b : Nat) (s : Js) (w : World) : Prop :=
  ∃ v, JAt w b v s ∧ w0.heap.size ≤ b ∧ (∀ k, v.ownBlock = some k → w0.heap.size ≤ k) ∧ Below w0.heap.size w0 w
theorem JIn.bel {w0 w : World} {b : Nat} {s : Js} (h : JIn w0 b s w) : Below w0.heap.size w0 w := by obtain ⟨v, -, -, -, h4⟩ := h; exact h4
theorem JIn.lt {w0 w : World} {b : Nat} {s : Js} (h : JIn w0 b s w) : b < w.heap.size := by obtain ⟨v, h1, -⟩ := h; exact h1.lt
theorem JIn.keep {w0 w w' : World} {b : Nat} {s : Js} (h : JIn w0 b s w) (hb : Below w.heap.size w w') : JIn w0 b s w' := by
  obtain ⟨v, h1, h2, h3, h4⟩ := h
  exact ⟨v, h1.keep hb, h2, h3, h4.trans (hb.mono h4.size)⟩
theorem putJ_more (s : Js) (t : List UInt8) (h1 : t.length ≤ 200) (h2 : s.l.length + t.length ≤ 65536) : putJ s ⟨false, t⟩ = (⟨s.n + 1, s.l ++ t⟩, [], false, 0) := by
  unfold putJ
  rw [if_neg (by simp only; omega), if_neg (by simp)]
theorem putJ_last (s : Js) (t : List UInt8) (h1 : t.length ≤ 200) (h2 : s.l.length + t.length ≤ 65536) : putJ s ⟨true, t⟩ = (⟨0, []⟩, s.l ++ t, true, 0) := by
  unfold putJ
  rw [if_neg (by simp only; omega), if_pos rfl]
theorem putJ_big (s : Js) (p : Pt) (h : 65536 < s.l.length + p.text.length) : putJ s p = (s, [], false, 3) := if_pos (.inr h)
end Go.Proofs.Ytclecalhbmpipaa
