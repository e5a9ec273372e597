/-
  A stack: its values, and what each of its calls comes to.
-/
import Derived.Test.YtcbadcbnknmdnaaVals
import Derived.BigQuiet
import Derived.Deep.QuietTactic
import Derived.Deep.OwnRows
import Derived.Laws.CopyOwn
import Derived.Outline
namespace Go.Proofs.Ytcbadcbnknmdnaa
open Go.RowKit
set_option linter.unusedVariables false

def bound64 (x : Int) : Prop := -9223372036854775808 ≤ x ∧ x ≤ 9223372036854775807
/-- The cells of a stack: values, what is left of older ones, how many. -/
def stackG (L : List Int) (c : Nat) (i : Nat) : Value := if i < 64 then .int .i64 (L.getD i 0) else .int .i64 (c : Nat)
def stackF (l r : List Int) (i : Nat) : Value := if i < 64 then .int .i64 ((l ++ r).getD i 0) else .int .i64 (l.length : Nat)
theorem infoI64' : (Try.prog.info? 2).map (·.size) = some 1 := by kernel_rfl
/-- A row's cells as they stand, whole. -/
theorem row_whole {w : World} {b : Nat} {t : TypeId} {n : Nat} {f : Nat → Value} (h : w.rowIs b t n f) : w.heap[b]? = some (.cells ((List.range n).map f).toArray t (0, 0)) := by
  obtain ⟨c, hb, hn, hc⟩ := h
  rw [hb]
  congr 2
  apply Array.ext
  · simp [hn]
  · intro i h1 h2
    have := hc i (by omega)
    rw [Array.getElem?_eq_getElem h1] at this
    simpa using this
theorem stack_list (L : List Int) (c : Nat) (h : L.length = 64) : (List.range 65).map (stackG L c) = L.map (Value.int .i64) ++ [.int .i64 (c : Nat)] := by
  apply List.ext_getElem
  · simp; omega
  · intro i h1 h2
    have h1' : i < 65 := by simpa using h1
    simp only [List.getElem_map, List.getElem_range, stackG]
    by_cases hi : i < 64
    · rw [if_pos hi, List.getElem_append_left (by simp; omega), List.getElem_map]
      simp [List.getD, List.getElem?_eq_getElem (show i < L.length by omega)]
    · rw [if_neg hi, List.getElem_append_right (by simp; omega)]
      simp
theorem row_list {w : World} {b : Nat} {t : TypeId} {n : Nat} {f : Nat → Value} (h : w.heap[b]? = some (.cells ((List.range n).map f).toArray t (0, 0))) : w.rowIs b t n f :=
  ⟨_, h, by simp, fun i hi => by simp [hi]⟩
theorem add_cell {w : World} {b off j : Nat} {v : Value} (h : w.cell? ⟨b, off + j, none⟩ = some v) : w.cell? ((⟨b, off, none⟩ : Addr).add j) = some v := by
  by_cases hz : j = 0
  · subst hz; simpa [Addr.add] using h
  · simpa [Addr.add, hz] using h
end Go.Proofs.Ytcbadcbnknmdnaa
