/-
  Layer 8: a table's bytes.
-/
import Derived.Test.YtcbadcbnknmdnaaUnit2
import Derived.Test.YtcbadcbnknmdnaaOrdPut
namespace Go.Proofs.Ytcbadcbnknmdnaa
open Go.RowKit
set_option linter.unusedVariables false

/-- A unit's bytes behind one of the number `last`. -/
def unB (last : Int) (u : Un) : List UInt8 := numsB [(u.id - last).toNat] ++ intsB u.ints.tail
def unsB : Int → List Un → List UInt8
  | _, [] => []
  | last, u :: l => unB last u ++ unsB u.id l
/-- The number of the last of them; `last` where there is none. -/
def lastId (last : Int) : List Un → Int
  | [] => last
  | u :: l => lastId u.id l
def tabB (us : List Un) (g : Int) : List UInt8 := numsB [(g + 1).toNat] ++ countsB [(us.length : Int)] ++ unsB 0 us
theorem unsB_append (last : Int) (l : List Un) (u : Un) : unsB last (l ++ [u]) = unsB last l ++ unB (lastId last l) u := by
  induction l generalizing last with
  | nil => simp [unsB, lastId]
  | cons x l ih => simp [unsB, lastId, ih]
theorem lastId_append (last : Int) (l : List Un) (u : Un) : lastId last (l ++ [u]) = u.id := by
  induction l generalizing last with
  | nil => rfl
  | cons x l ih => simp [lastId, ih]
theorem unsB_snoc (l : List Un) (k : Nat) (h : k < l.length) : unsB 0 (l.take (k + 1)) = unsB 0 (l.take k) ++ unB (lastId 0 (l.take k)) l[k] := by
  rw [List.take_succ_eq_append_getElem h, unsB_append]
theorem lastId_snoc (l : List Un) (k : Nat) (h : k < l.length) : lastId 0 (l.take (k + 1)) = l[k].id := by
  rw [List.take_succ_eq_append_getElem h, lastId_append]
/-- In a table the last number is below the next one's, and none is below 0. -/
theorem lastId_lt {us : List Un} {g : Int} (h : TabOk us g) (k : Nat) (hk : k < us.length) : 0 ≤ lastId 0 (us.take k) ∧ lastId 0 (us.take k) < us[k].id := by
  cases k with
  | zero =>
    have := (h.2.2.1 _ (List.getElem_mem hk)).1
    simp [lastId]; omega
  | succ k =>
    rw [lastId_snoc us k (by omega)]
    have h1 := (h.2.2.1 _ (List.getElem_mem (show k < us.length by omega))).1
    have h2 := h.2.1 k (k + 1) (by omega) hk (by omega)
    exact ⟨by omega, h2⟩
end Go.Proofs.Ytcbadcbnknmdnaa
