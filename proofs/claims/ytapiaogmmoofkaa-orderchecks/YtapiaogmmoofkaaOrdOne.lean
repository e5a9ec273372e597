/-
  Layer 9: an order as an argument.
-/
import Derived.Test.YtapiaogmmoofkaaRecArgs
namespace Go.Proofs.Ytapiaogmmoofkaa
open Go.RowKit
set_option linter.unusedVariables false

theorem ord_of {H : Type} {enc : TypeId × Value → H} {w : World} {base : Nat} {sp : Nat → Bool} {held : Bool} {v : Value} {d : DataW H} {p : List MemPlace} (hv : ∃ cs, v = .agg cs ∧ cs.size = Try.prog.cellsOf 61) (h : DataW.Trod enc Try.prog w base sp held 61 v d p) :
    ∃ k u a b : Int, v = .agg #[.int .i64 k, .int .i64 u, .int .i64 a, .int .i64 b] := by
  obtain ⟨cs, rfl, hsz⟩ := hv
  have cS : Try.prog.cellsOf 61 = 4 := by kernel_rfl
  have c_int : Try.prog.cellsOf 3 = 1 := by kernel_rfl
  have c_int64 : Try.prog.cellsOf 2 = 1 := by kernel_rfl
  rw [cS] at hsz
  obtain ⟨l⟩ := cs
  obtain ⟨v0, v1, v2, v3, rfl⟩ := list_4 (l := l) hsz
  obtain ⟨fuel, ht⟩ := h
  obtain ⟨ys, n', hn', hy, hlen, hyl, hf⟩ := DataW.trod_struct Try.underlying61 ht
  obtain ⟨y0, y1, y2, y3, rfl⟩ := list_4 (show ys.length = 4 by simpa using hyl)
  have g0 : DataW.trod enc Try.prog w base sp held n' 3 [v0] = some y0 := by simpa [c_int, Value.cells] using hf 0 _ rfl
  have g1 : DataW.trod enc Try.prog w base sp held n' 2 [v1] = some y1 := by simpa [c_int64, Value.cells] using hf 1 _ rfl
  have g2 : DataW.trod enc Try.prog w base sp held n' 2 [v2] = some y2 := by simpa [c_int64, Value.cells] using hf 2 _ rfl
  have g3 : DataW.trod enc Try.prog w base sp held n' 2 [v3] = some y3 := by simpa [c_int64, Value.cells] using hf 3 _ rfl
  obtain ⟨k0, q0, _, wf0⟩ := DataW.trod_int Try.underlying3 g0
  obtain ⟨k1, q1, _, wf1⟩ := DataW.trod_int Try.underlying2 g1
  obtain ⟨k2, q2, _, wf2⟩ := DataW.trod_int Try.underlying2 g2
  obtain ⟨k3, q3, _, wf3⟩ := DataW.trod_int Try.underlying2 g3
  simp only [List.cons.injEq, and_true] at q0 q1 q2 q3
  subst q0 q1 q2 q3
  exact ⟨k0, k1, k2, k3, rfl⟩
end Go.Proofs.Ytapiaogmmoofkaa
