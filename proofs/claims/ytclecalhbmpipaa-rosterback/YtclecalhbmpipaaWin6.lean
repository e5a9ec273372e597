/-
  Layer 13: what an ack tells of a number.
-/
import Derived.Test.YtclecalhbmpipaaWin5
namespace Go.Proofs.Ytclecalhbmpipaa
open Go.RowKit
set_option linter.unusedVariables false

theorem shr_bit (B y : Nat) (hB : B < 4294967296) : (bits .and .u32 ((B : Int) / 2 ^ min y 32) 1 == 1) = (decide (y < 32) && B.testBit y) := by
  have e : ((B : Int) / 2 ^ min y 32) = ((B / 2 ^ min y 32 : Nat) : Int) := by simp
  have hle : B / 2 ^ min y 32 < 4294967296 := Nat.lt_of_le_of_lt (Nat.div_le_self _ _) hB
  rw [e, show (1 : Int) = ((1 : Nat) : Int) from rfl, u32_and_nat _ _ hle (by decide), Nat.and_one_is_mod]
  by_cases h : y < 32
  · rw [Nat.min_eq_left (by omega), Nat.testBit_eq_decide_div_mod_eq]
    generalize B / 2 ^ y % 2 = z
    simp only [h, decide_true, Bool.true_and]
    by_cases hz : z = 1
    · subst hz; rfl
    · rw [decide_eq_false hz, beq_eq_false_iff_ne]; omega
  · rw [Nat.min_eq_right (by omega)]
    have : B / 2 ^ 32 = 0 := Nat.div_eq_of_lt hB
    rw [this]
    simp [h]
def hasB (nx B n : Nat) : Bool := belowB n nx || (decide (1 ≤ distW n nx) && (decide (distW n nx ≤ 32) && B.testBit (distW n nx - 1)))
/-- An Out on whose way nothing is. -/
structure O0At (w : World) (b n : Nat) : Prop where
  c0 : w.cell? ⟨b, 0, none⟩ = some (.int .u32 (n : Int))
  c1 : w.cell? ⟨b, 1, none⟩ = some (.slice none 0 0)
  f0 : w.frozen? ⟨b, 0, none⟩ = false
  f1 : w.frozen? ⟨b, 1, none⟩ = false
theorem O0At.lt {w : World} {b n : Nat} (h : O0At w b n) : b < w.heap.size := block_lt_of_cell h.c0
theorem O0At.touch {S : Nat → Prop} {w w' : World} {b n : Nat} (h : O0At w b n) (ht : Touch S w w') (hb : ¬ S b) : O0At w' b n :=
  ⟨(ht.cell (p := ⟨b, 0, none⟩) h.lt hb).trans h.c0, (ht.cell (p := ⟨b, 1, none⟩) h.lt hb).trans h.c1, (ht.frozen (p := ⟨b, 0, none⟩) h.lt hb).trans h.f0, (ht.frozen (p := ⟨b, 1, none⟩) h.lt hb).trans h.f1⟩
end Go.Proofs.Ytclecalhbmpipaa
