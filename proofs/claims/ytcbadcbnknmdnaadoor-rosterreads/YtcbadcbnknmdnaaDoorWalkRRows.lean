/-
  The walk of the law RosterRows.
-/
import Derived.Test.YtcbadcbnknmdnaaDoorRosL2
import Derived.Test.YtcbadcbnknmdnaaDoorRosL3
namespace Go.Proofs.YtcbadcbnknmdnaaDoor
open Go.RowKit
set_option linter.unusedVariables false

/-- A list that came in, cut where it is longer than forty. -/
theorem arg40p {w : World} {a : Option Addr} {len cap : Nat} {ns : List Int} (h : NumArg .i64 w a len cap ns) : ∃ l : List Int, l.length ≤ 40 ∧ IntRow .i64 w a l ∧ ((40 < len ∧ l.length = 40) ∨ (len ≤ 40 ∧ l.length = len)) := by
  obtain ⟨rfl, h1, h2, h3, h4, -, h5⟩ := h
  by_cases hl : 40 < ns.length
  · exact ⟨ns.take 40, by simp; omega, h4.take 40, .inl ⟨hl, by simp; omega⟩⟩
  · exact ⟨ns, by omega, h4, .inr ⟨by omega, rfl⟩⟩
/-- The law's memory: three boxes of rosters, and the document's list. -/
structure RrM (w : World) (R S X n n' : Nat) (e' : Int) (a : Option Addr) (N c : Nat) (W : World) : Prop where
  r : W.cell? ⟨R, 0, none⟩ = some (.int .u32 (n : Int)) ∧ W.cell? ⟨R, 1, none⟩ = some (.int .i64 0) ∧ W.cell? ⟨S, 0, none⟩ = some (.int .u32 (n' : Int)) ∧ W.cell? ⟨S, 1, none⟩ = some (.int .i64 e')
  x0 : W.cell? ⟨X, 0, none⟩ = some (.slice a N c)
  x1 : W.cell? ⟨X, 1, none⟩ = some (.int .i64 e')
  row : ActL W (.slice a N c) (lstP n')
  tab : DbAt W
  bel : Below w.heap.size w W
theorem RrM.keep {w : World} {R S X n n' : Nat} {e' : Int} {a : Option Addr} {N c : Nat} {W W' : World} (h : RrM w R S X n n' e' a N c W) (hb : Below W.heap.size W W') : RrM w R S X n n' e' a N c W' :=
  ⟨keep4i hb h.r, (hb.cell (block_lt_of_cell h.x0)).trans h.x0, (hb.cell (block_lt_of_cell h.x1)).trans h.x1, h.row.below hb, h.tab.below hb, h.bel.trans (hb.mono h.bel.size)⟩
theorem withP_case (n : Nat) (l : List Chg) : ∃ n' e' z, withP n 0 l = (n', e', z) ∧ ((z ≠ 0 ∧ n' = n ∧ e' = 0) ∨ (z = 0 ∧ e' = (l.length : Int) ∧ (l.length = 0 → n' = n))) := by
  unfold withP
  by_cases h : (runP n l).2 = 0
  · rw [if_pos h]
    refine ⟨_, _, _, rfl, .inr ⟨rfl, by omega, fun h0 => ?_⟩⟩
    rw [List.eq_nil_of_length_eq_zero h0]; rfl
  · rw [if_neg h]
    exact ⟨_, _, _, rfl, .inl ⟨h, rfl, rfl⟩⟩
theorem withP_lt {n : Nat} (hn : n < 4294967296) (e : Int) (l : List Chg) : (withP n e l).1 < 4294967296 := by
  unfold withP
  split
  · exact runP_lt l n hn
  · exact hn
theorem twice_same (a : Nat) (e : Int) : ((a == a) && (e == e)) = true := by simp
end Go.Proofs.YtcbadcbnknmdnaaDoor
