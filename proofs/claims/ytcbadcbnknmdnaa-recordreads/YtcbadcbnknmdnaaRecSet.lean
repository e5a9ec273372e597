/-
  A number of a record is another one.
-/
import Derived.Test.YtcbadcbnknmdnaaVals
namespace Go.Proofs.Ytcbadcbnknmdnaa
open Go.RowKit
set_option linter.unusedVariables false

theorem flatten_set {k : Nat} {ls : List (List Int)} (hw : Wide k ls) : ∀ i (h : i < ls.length) j, j < k → ∀ v : Int, ls.flatten.set (i * k + j) v = (ls.set i (ls[i].set j v)).flatten := by
  induction ls with
  | nil => intro i h; simp at h
  | cons x l ih =>
    intro i h j hj v
    have hx := hw x (by simp)
    cases i with
    | zero =>
      rw [List.flatten_cons, Nat.zero_mul, Nat.zero_add, List.set_append_left _ _ (by omega)]
      simp
    | succ i =>
      have e : (i + 1) * k + j = x.length + (i * k + j) := by rw [hx, Nat.add_mul]; omega
      rw [List.flatten_cons, e, List.set_append_right _ _ (by omega), Nat.add_sub_cancel_left, ih (fun y hy => hw y (by simp [hy])) i (by simpa using h) j hj v]
      simp
theorem wide_set {k : Nat} {ls : List (List Int)} (hw : Wide k ls) (i : Nat) (x : List Int) (hx : x.length = k) : Wide k (ls.set i x) := by
  intro y hy
  rcases List.mem_or_eq_of_mem_set hy with h | h
  · exact hw y h
  · rw [h]; exact hx
theorem recCells_set {k : Nat} {ls : List (List Int)} (hw : Wide k ls) (i : Nat) (h : i < ls.length) (j : Nat) (hj : j < k) (v : Int) : (recCells ls).set (i * k + j) (.int .i64 v) = recCells (ls.set i (ls[i].set j v)) := by
  unfold recCells
  rw [← flatten_set hw i h j hj v, List.map_set]
theorem own_someR {w : World} {base : Nat} {e : TypeId} {size : Nat} {a : Option Addr} {n c : Nat} {xs : List Value} (h : w.ownsRow base e size (.slice a n c) n xs) (hn : 0 < n) : ∃ g, a = some ⟨g, 0, none⟩ := by
  rcases h.2 with ⟨_, h0⟩ | ⟨g, cap, cur, hv, -⟩
  · omega
  · cases hv; exact ⟨g, rfl⟩
theorem own_noneR {w : World} {base : Nat} {e : TypeId} {size : Nat} {n c : Nat} {xs : List Value} (h : w.ownsRow base e size (.slice none n c) n xs) : n = 0 := by
  rcases h.2 with ⟨_, h0⟩ | ⟨g, cap, cur, hv, -⟩
  · exact h0
  · cases hv
theorem OwnRec.set {e : TypeId} {k B g c : Nat} {w : World} {ls : List (List Int)} (h : OwnRec e k B (some ⟨g, 0, none⟩) c ls w) (hw : Wide k ls) (i : Nat) (hi : i < ls.length) (j : Nat) (hj : j < k) (v : Int) :
    OwnRec e k B (some ⟨g, 0, none⟩) c (ls.set i (ls[i].set j v)) (w.setCell ⟨g, i * k + j, none⟩ (.int .i64 v)) := by
  have h1 := (h.1.stored (i * k + j) (.int .i64 v)).1
  rw [recCells_set hw i hi j hj] at h1
  exact ⟨by rw [List.length_set]; exact h1, h.2⟩
theorem OwnRec.row {e : TypeId} {k B c : Nat} {w : World} {a : Option Addr} {ls : List (List Int)} (h : OwnRec e k B a c ls w) (hw : Wide k ls) (hk : 0 < k) : RecRow k w a ls := RecRow.of_own hw hk h.1
theorem NewRec.own {e : TypeId} {k c : Nat} {w w' : World} {a : Option Addr} {ls : List (List Int)} (h : NewRec e k w a c ls w') : OwnRec e k w.heap.size a c ls w' := ⟨h.1, h.2.1⟩
end Go.Proofs.Ytcbadcbnknmdnaa
