/-
  Layer 11: a gather: Have, and a snapshot that isn't whole.
-/
import Derived.Test.YthgnkkpmnfjohaaChunk12
namespace Go.Proofs.Ythgnkkpmnfjohaa
open Go.RowKit
set_option linter.unusedVariables false

set_option maxRecDepth 100000 in
set_option maxHeartbeats 2000000 in
theorem have_any (b B0 : Nat) (g : GaS) (w : World) (h : GaAt w b B0 g) : Calls Try.prog 13 #[.pointer (some ⟨b, 0, none⟩)] w fun r w' => r = .returned (.tuple #[.int .i64 (g.cm : Int), .int .i64 (g.ts.length : Int)]) ∧ Below w.heap.size w w' := by
  have c3 := h.c3
  have c4 := h.c4
  have hbl := block_lt_of_cell c3
  simp only at hbl
  clear h
  go_enter Try.func13, Try.ntmps13
  go_upto_region 1 with (fail)
  go_quiet (fail)
  go_wp2
  go_ret2
  exact ⟨rfl, ⟨rfl, rfl, rfl, Nat.le_refl _, fun _ _ => rfl⟩⟩
set_option maxRecDepth 100000 in
set_option maxHeartbeats 2000000 in
theorem whole_stall (b B0 : Nat) (g : GaS) (w : World) (h : GaAt w b B0 g) (hs : g.cm = 0 ∨ g.cm < g.ts.length) : Calls Try.prog 14 #[.pointer (some ⟨b, 0, none⟩)] w fun r w' => r = .returned (.tuple #[.string (bs []), .int .i64 0, .int .i64 15]) ∧ Below w.heap.size w w' := by
  have c3 := h.c3
  have c4 := h.c4
  have hbl := block_lt_of_cell c3
  simp only at hbl
  clear h
  have hcs : ((g.cm : Int) == 0) = true ∨ (((g.cm : Int) == 0) = false ∧ decide ((g.cm : Int) < (g.ts.length : Int)) = true ∧ g.cm < g.ts.length) := by
    by_cases h0 : g.cm = 0
    · exact .inl (by rw [h0]; rfl)
    · exact .inr ⟨by rw [beq_eq_false_iff_ne]; omega, by simp; omega, by omega⟩
  generalize gaA B0 g.ts = ga at c3
  generalize g.ts.length = n at c3 hcs hs
  generalize g.cm = m at c4 hcs hs
  rcases hcs with hc1 | ⟨hc1, hc2, hc3⟩
  all_goals
    go_enter Try.func14, Try.ntmps14
    go_upto_region 1 with (fail)
    go_quiet (fail)
    go_wp2
    go_ret3
    exact ⟨rfl, ⟨rfl, rfl, rfl, Nat.le_refl _, fun _ _ => rfl⟩⟩
end Go.Proofs.Ythgnkkpmnfjohaa
