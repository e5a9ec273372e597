/-
  A heap's cells as a list: how many are told, its bytes. Plain mathematics (no program in it).
-/
import Derived.Test.YtmghhigepjeicaaWirePut
namespace Go.Proofs.Ytmghhigepjeicaa
set_option linter.unusedVariables false

/-- Of the first k cells: how many there are up to the last one that isn't 0. -/
def usedK (l : List Int) : Nat → Nat
  | 0 => 0
  | k + 1 => if l.getD k 0 = 0 then usedK l k else k + 1
def usedN (l : List Int) : Nat := usedK l l.length
theorem usedK_zero (l : List Int) (k : Nat) (h : l.getD k 0 = 0) : usedK l (k + 1) = usedK l k := by rw [usedK, if_pos h]
theorem usedK_some (l : List Int) (k : Nat) (h : l.getD k 0 ≠ 0) : usedK l (k + 1) = k + 1 := by rw [usedK, if_neg h]
theorem usedK_le (l : List Int) (k : Nat) : usedK l k ≤ k := by
  induction k with
  | zero => exact Nat.le_refl _
  | succ k ih => rw [usedK]; split <;> omega
theorem usedN_le (l : List Int) : usedN l ≤ l.length := usedK_le l _
/-- Beyond, all are 0. -/
theorem usedK_beyond (l : List Int) (k j : Nat) (h1 : usedK l k ≤ j) (h2 : j < k) : l.getD j 0 = 0 := by
  induction k with
  | zero => omega
  | succ k ih =>
    rw [usedK] at h1
    split at h1
    · rename_i h
      by_cases e : j = k
      · rw [e]; exact h
      · exact ih h1 (by omega)
    · omega
theorem usedK_last (l : List Int) (k : Nat) (h : 0 < usedK l k) : l.getD (usedK l k - 1) 0 ≠ 0 := by
  induction k with
  | zero => simp [usedK] at h
  | succ k ih =>
    by_cases hz : l.getD k 0 = 0
    · rw [usedK_zero l k hz] at h ⊢; exact ih h
    · rw [usedK_some l k hz]; simpa using hz
theorem usedK_unique (l : List Int) (k n : Nat) (hn : n ≤ k) (h1 : ∀ j, n ≤ j → j < k → l.getD j 0 = 0) (h2 : 0 < n → l.getD (n - 1) 0 ≠ 0) : usedK l k = n := by
  have ha := usedK_le l k
  rcases Nat.lt_trichotomy (usedK l k) n with h | h | h
  · exact absurd (usedK_beyond l k (n - 1) (by omega) (by omega)) (h2 (by omega))
  · exact h
  · exact absurd (h1 (usedK l k - 1) (by omega) (by omega)) (usedK_last l k (by omega))
/-- A heap's bytes. -/
def heapB (l : List Int) : List UInt8 := numB (usedN l) ++ intsB (l.take (usedN l))
end Go.Proofs.Ytmghhigepjeicaa
