/-
  The walk of the law FragCuts.
-/
import Derived.Test.YtclecalhbmpipaaFrag6
namespace Go.Proofs.Ytclecalhbmpipaa
open Go.RowKit
set_option linter.unusedVariables false

/-- What is there behind k parts. -/
def jK (l : List UInt8) (k : Nat) : Js := if k ≤ moreN l.length then ⟨k, l.take (200 * k)⟩ else ⟨0, []⟩
theorem jK_len (l : List UInt8) (k : Nat) (hl : l.length ≤ 65536) : (jK l k).l.length ≤ 65536 := by
  unfold jK; split
  · simp only [List.length_take]; omega
  · simp
theorem jK_n (l : List UInt8) (k : Nat) (hl : l.length ≤ 65536) : (jK l k).n ≤ 1000000 := by
  unfold jK; split
  · rename_i h; simp only; unfold moreN at h; omega
  · simp
theorem putJ_jK (l : List UInt8) (k : Nat) (hl : l.length ≤ 65536) (hk : k < moreN l.length) : putJ (jK l k) (ptAt l k) = (jK l (k + 1), [], false, 0) := by
  have h1 : ((l.drop (200 * k)).take 200).length ≤ 200 := by rw [List.length_take]; omega
  have e : jK l k = ⟨k, l.take (200 * k)⟩ := if_pos (by omega)
  have e2 : jK l (k + 1) = ⟨k + 1, l.take (200 * k) ++ (l.drop (200 * k)).take 200⟩ := by
    unfold jK
    rw [if_pos (by omega), show 200 * (k + 1) = 200 * k + 200 by omega, List.take_add]
  rw [e, e2]
  exact putJ_more ⟨k, l.take (200 * k)⟩ _ h1 (by rw [← List.length_append, ← List.take_add, List.length_take]; omega)
theorem putJ_end (l : List UInt8) (hl : l.length ≤ 65536) : putJ (jK l (moreN l.length)) (lastP l) = (jK l (moreN l.length + 1), l, true, 0) := by
  have e : jK l (moreN l.length) = ⟨moreN l.length, l.take (200 * moreN l.length)⟩ := if_pos (Nat.le_refl _)
  have e2 : jK l (moreN l.length + 1) = ⟨0, []⟩ := if_neg (by omega)
  rw [e, e2]
  have h := putJ_last ⟨moreN l.length, l.take (200 * moreN l.length)⟩ (l.drop (200 * moreN l.length)) (by rw [List.length_drop]; unfold moreN; omega) (by simp only [List.length_take, List.length_drop]; omega)
  simp only [List.take_append_drop] at h
  exact h
end Go.Proofs.Ytclecalhbmpipaa
