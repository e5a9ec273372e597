/-
  A list of the plan's calls as an argument.
-/
import Derived.Test.YtlhcihjplolgiaaVals
namespace Go.Proofs.Ytlhcihjplolgiaa
open Go.RowKit Go.WideShapes Go.ChangeShapes
set_option linter.unusedVariables false

theorem vlist_5 {α : Type} {l : List α} (h : l.length = 5) : ∃ a b c d e, l = [a, b, c, d, e] := by
  match l, h with
  | [a, b, c, d, e], _ => exact ⟨a, b, c, d, e, rfl⟩
def acts17R (r : List Value) : Prop := ∃ k0 k1 k2 k3 k4, r = [.int .i64 k0, .int .i64 k1, .int .i64 k2, .int .i64 k3, .bool k4] ∧ (Lit.int .i64 k0).wf = true ∧ (Lit.int .i64 k1).wf = true ∧ (Lit.int .i64 k2).wf = true ∧ (Lit.int .i64 k3).wf = true
theorem acts17_of {H : Type} {enc : TypeId × Value → H} {w : World} {base : Nat} {sp : Nat → Bool} {held : Bool} {fuel : Nat} {a : Option Addr} {len cap : Nat} {x : DataW H × List MemPlace} (h : DataW.trod enc Try.prog w base sp held fuel 91 [.slice a len cap] = some x) : ∃ ls, ValArg 5 acts17R w a len cap ls := by
  rcases Deep.open_slice Try.underlying91 h with ⟨hcs, _⟩ | ⟨ad, l, c, m, n, D, Pl, hcs, _, hl, hm, hmm, _, hx⟩
  · simp at hcs
    obtain ⟨rfl, rfl, rfl⟩ := hcs
    exact ⟨[], rfl, Nat.le_refl _, by simp [maxLen], fun h => by simp at h, fun x hx => by simp at hx⟩
  · simp at hcs
    obtain ⟨rfl, rfl, rfl⟩ := hcs
    have hmc : len ≤ m := by rw [hmm]; split <;> omega
    have cS : Try.prog.cellsOf 99 = 5 := by kernel_rfl
    have c_bool : Try.prog.cellsOf 4 = 1 := by kernel_rfl
    have c_int : Try.prog.cellsOf 3 = 1 := by kernel_rfl
    rw [cS] at hx
    have each : ∀ i, i < len → ∃ r : List Value, r.length = 5 ∧ (∀ j, j < 5 → w.cell? (ad.add (i * 5 + j)) = r[j]?) ∧ acts17R r := by
      intro i hi
      obtain ⟨cs', hc, ht⟩ := hx i (by omega)
      obtain ⟨ys, n', hn', hy, hlen, hyl, hf⟩ := DataW.trod_struct Try.underlying99 ht
      obtain ⟨_, hcl, hat⟩ := World.cells?_some hc
      obtain ⟨v0, v1, v2, v3, v4, rfl⟩ := vlist_5 hcl
      obtain ⟨y0, y1, y2, y3, y4, rfl⟩ := vlist_5 (show ys.length = 5 by simpa using hyl)
      have g0 : DataW.trod enc Try.prog w base sp held n' 3 [v0] = some y0 := by simpa [c_bool, c_int] using hf 0 _ rfl
      have g1 : DataW.trod enc Try.prog w base sp held n' 3 [v1] = some y1 := by simpa [c_bool, c_int] using hf 1 _ rfl
      have g2 : DataW.trod enc Try.prog w base sp held n' 3 [v2] = some y2 := by simpa [c_bool, c_int] using hf 2 _ rfl
      have g3 : DataW.trod enc Try.prog w base sp held n' 3 [v3] = some y3 := by simpa [c_bool, c_int] using hf 3 _ rfl
      have g4 : DataW.trod enc Try.prog w base sp held n' 4 [v4] = some y4 := by simpa [c_bool, c_int] using hf 4 _ rfl
      obtain ⟨k0, q0, _, wf0⟩ := DataW.trod_int Try.underlying3 g0
      obtain ⟨k1, q1, _, wf1⟩ := DataW.trod_int Try.underlying3 g1
      obtain ⟨k2, q2, _, wf2⟩ := DataW.trod_int Try.underlying3 g2
      obtain ⟨k3, q3, _, wf3⟩ := DataW.trod_int Try.underlying3 g3
      obtain ⟨k4, q4, _⟩ := DataW.trod_bool Try.underlying4 g4
      simp only [List.cons.injEq, and_true] at q0 q1 q2 q3 q4
      subst q0 q1 q2 q3 q4
      refine ⟨[.int .i64 k0, .int .i64 k1, .int .i64 k2, .int .i64 k3, .bool k4], rfl, fun j hj => ?_, ⟨_, _, _, _, _, rfl, wf0, wf1, wf2, wf3⟩⟩
      have a0 := hat j (by simpa using hj)
      rw [Deep.add_add] at a0
      exact a0
    exact valArg_of 5 (by decide) hl hm each

end Go.Proofs.Ytlhcihjplolgiaa
