/-
  Lists of records of whole numbers as a law's argument: what their reading gives the walk.
-/
import Derived.Test.YthggfjjiohdbmaaRecs
import Derived.Test.YthggfjjiohdbmaaNums
import Derived.Deep.Slices
namespace Go.Proofs.Ythggfjjiohdbmaa
open Go.RowKit Go.WideShapes Go.ChangeShapes
set_option linter.unusedVariables false

def RecArg (k : Nat) (w : World) (a : Option Addr) (len cap : Nat) (ls : List (List Int)) : Prop :=
  len = ls.length ∧ len ≤ cap ∧ cap ≤ maxLen ∧ Wide k ls ∧ RecRow k w a ls ∧ (a = none → ls = []) ∧ ∀ r ∈ ls, ∀ y ∈ r, B64 y
theorem RecArg.below {k : Nat} (hk : 0 < k) {w w' : World} {a : Option Addr} {len cap : Nat} {ls : List (List Int)} (h : RecArg k w a len cap ls) (hb : Below w.heap.size w w') : RecArg k w' a len cap ls :=
  ⟨h.1, h.2.1, h.2.2.1, h.2.2.2.1, h.2.2.2.2.1.below hk hb, h.2.2.2.2.2⟩
theorem list_4 {α : Type} {l : List α} (h : l.length = 4) : ∃ a b c d, l = [a, b, c, d] := by
  match l, h with
  | [a, b, c, d], _ => exact ⟨a, b, c, d, rfl⟩
theorem list_6 {α : Type} {l : List α} (h : l.length = 6) : ∃ a b c d e f, l = [a, b, c, d, e, f] := by
  match l, h with
  | [a, b, c, d, e, f], _ => exact ⟨a, b, c, d, e, f, rfl⟩
theorem list_7 {α : Type} {l : List α} (h : l.length = 7) : ∃ a b c d e f g, l = [a, b, c, d, e, f, g] := by
  match l, h with
  | [a, b, c, d, e, f, g], _ => exact ⟨a, b, c, d, e, f, g, rfl⟩
theorem recArg_of (k : Nat) (hk : 0 < k) {w : World} {ad : Addr} {len cap : Nat} (hl : len ≤ cap) (hm : cap ≤ maxLen)
    (each : ∀ i, i < len → ∃ r : List Int, r.length = k ∧ (∀ j, j < k → w.cell? (ad.add (i * k + j)) = some (.int .i64 (r.getD j 0))) ∧ ∀ y ∈ r, B64 y) : ∃ ls, RecArg k w (some ad) len cap ls := by
  let F : Nat → List Int := fun i => if hi : i < len then (each i hi).choose else []
  have hF : ∀ i, i < len → (F i).length = k ∧ (∀ j, j < k → w.cell? (ad.add (i * k + j)) = some (.int .i64 ((F i).getD j 0))) ∧ ∀ y ∈ F i, B64 y := by
    intro i hi
    have := (each i hi).choose_spec
    simp only [F, hi, dif_pos]
    exact this
  clear_value F
  refine ⟨(List.range len).map F, by simp, hl, hm, fun x hx => ?_, fun h0 => ?_, fun h => (by cases h), fun x hx => ?_⟩
  · simp only [List.mem_map, List.mem_range] at hx
    obtain ⟨i, hi, rfl⟩ := hx
    exact (hF i hi).1
  · obtain ⟨b, off, spot⟩ := ad
    have hlen : 0 < len := by simpa using h0
    have h00 := (hF 0 hlen).2.1 0 hk
    have hspot : spot = none := by simpa [Addr.add] using World.cell?_spot h00
    subst hspot
    refine ⟨b, off, rfl, fun i hi j hj => ?_⟩
    have hil : i < len := by simpa using hi
    simp only [List.getElem_map, List.getElem_range]
    rw [Nat.add_assoc]
    exact cell_addR ((hF i hil).2.1 j hj)
  · simp only [List.mem_map, List.mem_range] at hx
    obtain ⟨i, hi, rfl⟩ := hx
    exact (hF i hi).2.2
theorem ords_of {H : Type} {enc : TypeId × Value → H} {w : World} {base : Nat} {sp : Nat → Bool} {held : Bool} {fuel : Nat} {a : Option Addr} {len cap : Nat} {x : DataW H × List MemPlace} (h : DataW.trod enc Try.prog w base sp held fuel 42 [.slice a len cap] = some x) : ∃ ls, RecArg 4 w a len cap ls := by
  rcases Deep.open_slice Try.underlying42 h with ⟨hcs, _⟩ | ⟨ad, l, c, m, n, D, Pl, hcs, _, hl, hm, hmm, _, hx⟩
  · simp at hcs
    obtain ⟨rfl, rfl, rfl⟩ := hcs
    exact ⟨[], rfl, Nat.le_refl _, by simp [maxLen], fun x hx => by simp at hx, fun h => by simp at h, fun _ => rfl, fun x hx => by simp at hx⟩
  · simp at hcs
    obtain ⟨rfl, rfl, rfl⟩ := hcs
    have hmc : len ≤ m := by rw [hmm]; split <;> omega
    have cS : Try.prog.cellsOf 23 = 4 := by kernel_rfl
    have c_int : Try.prog.cellsOf 3 = 1 := by kernel_rfl
    have c_int64 : Try.prog.cellsOf 2 = 1 := by kernel_rfl
    rw [cS] at hx
    have each : ∀ i, i < len → ∃ r : List Int, r.length = 4 ∧ (∀ j, j < 4 → w.cell? (ad.add (i * 4 + j)) = some (.int .i64 (r.getD j 0))) ∧ ∀ y ∈ r, B64 y := by
      intro i hi
      obtain ⟨cs', hc, ht⟩ := hx i (by omega)
      obtain ⟨ys, n', hn', hy, hlen, hyl, hf⟩ := DataW.trod_struct Try.underlying23 ht
      obtain ⟨_, hcl, hat⟩ := World.cells?_some hc
      obtain ⟨v0, v1, v2, v3, rfl⟩ := list_4 hcl
      obtain ⟨y0, y1, y2, y3, rfl⟩ := list_4 (show ys.length = 4 by simpa using hyl)
      have g0 : DataW.trod enc Try.prog w base sp held n' 3 [v0] = some y0 := by simpa [c_int] using hf 0 _ rfl
      have g1 : DataW.trod enc Try.prog w base sp held n' 2 [v1] = some y1 := by simpa [c_int64] using hf 1 _ rfl
      have g2 : DataW.trod enc Try.prog w base sp held n' 2 [v2] = some y2 := by simpa [c_int64] using hf 2 _ rfl
      have g3 : DataW.trod enc Try.prog w base sp held n' 2 [v3] = some y3 := by simpa [c_int64] using hf 3 _ rfl
      obtain ⟨k0, q0, _, wf0⟩ := DataW.trod_int Try.underlying3 g0
      obtain ⟨k1, q1, _, wf1⟩ := DataW.trod_int Try.underlying2 g1
      obtain ⟨k2, q2, _, wf2⟩ := DataW.trod_int Try.underlying2 g2
      obtain ⟨k3, q3, _, wf3⟩ := DataW.trod_int Try.underlying2 g3
      simp only [List.cons.injEq, and_true] at q0 q1 q2 q3
      subst q0 q1 q2 q3
      refine ⟨[k0, k1, k2, k3], rfl, fun j hj => ?_, fun y hy => ?_⟩
      · have a0 := hat j (by simpa using hj)
        rw [Deep.add_add] at a0
        rw [a0]
        have : j = 0 ∨ j = 1 ∨ j = 2 ∨ j = 3 := by omega
        rcases this with rfl | rfl | rfl | rfl <;> rfl
      · simp only [List.mem_cons, List.not_mem_nil, or_false] at hy
        rcases hy with rfl | rfl | rfl | rfl
        · exact wf_i64 wf0
        · exact wf_i64 wf1
        · exact wf_i64 wf2
        · exact wf_i64 wf3
    exact recArg_of 4 (by decide) hl hm each

theorem acts8_of {H : Type} {enc : TypeId × Value → H} {w : World} {base : Nat} {sp : Nat → Bool} {held : Bool} {fuel : Nat} {a : Option Addr} {len cap : Nat} {x : DataW H × List MemPlace} (h : DataW.trod enc Try.prog w base sp held fuel 24 [.slice a len cap] = some x) : ∃ ls, RecArg 7 w a len cap ls := by
  rcases Deep.open_slice Try.underlying24 h with ⟨hcs, _⟩ | ⟨ad, l, c, m, n, D, Pl, hcs, _, hl, hm, hmm, _, hx⟩
  · simp at hcs
    obtain ⟨rfl, rfl, rfl⟩ := hcs
    exact ⟨[], rfl, Nat.le_refl _, by simp [maxLen], fun x hx => by simp at hx, fun h => by simp at h, fun _ => rfl, fun x hx => by simp at hx⟩
  · simp at hcs
    obtain ⟨rfl, rfl, rfl⟩ := hcs
    have hmc : len ≤ m := by rw [hmm]; split <;> omega
    have cS : Try.prog.cellsOf 34 = 7 := by kernel_rfl
    have c_int : Try.prog.cellsOf 3 = 1 := by kernel_rfl
    have c_int64 : Try.prog.cellsOf 2 = 1 := by kernel_rfl
    rw [cS] at hx
    have each : ∀ i, i < len → ∃ r : List Int, r.length = 7 ∧ (∀ j, j < 7 → w.cell? (ad.add (i * 7 + j)) = some (.int .i64 (r.getD j 0))) ∧ ∀ y ∈ r, B64 y := by
      intro i hi
      obtain ⟨cs', hc, ht⟩ := hx i (by omega)
      obtain ⟨ys, n', hn', hy, hlen, hyl, hf⟩ := DataW.trod_struct Try.underlying34 ht
      obtain ⟨_, hcl, hat⟩ := World.cells?_some hc
      obtain ⟨v0, v1, v2, v3, v4, v5, v6, rfl⟩ := list_7 hcl
      obtain ⟨y0, y1, y2, y3, y4, y5, y6, rfl⟩ := list_7 (show ys.length = 7 by simpa using hyl)
      have g0 : DataW.trod enc Try.prog w base sp held n' 3 [v0] = some y0 := by simpa [c_int] using hf 0 _ rfl
      have g1 : DataW.trod enc Try.prog w base sp held n' 3 [v1] = some y1 := by simpa [c_int] using hf 1 _ rfl
      have g2 : DataW.trod enc Try.prog w base sp held n' 3 [v2] = some y2 := by simpa [c_int] using hf 2 _ rfl
      have g3 : DataW.trod enc Try.prog w base sp held n' 2 [v3] = some y3 := by simpa [c_int64] using hf 3 _ rfl
      have g4 : DataW.trod enc Try.prog w base sp held n' 2 [v4] = some y4 := by simpa [c_int64] using hf 4 _ rfl
      have g5 : DataW.trod enc Try.prog w base sp held n' 2 [v5] = some y5 := by simpa [c_int64] using hf 5 _ rfl
      have g6 : DataW.trod enc Try.prog w base sp held n' 2 [v6] = some y6 := by simpa [c_int64] using hf 6 _ rfl
      obtain ⟨k0, q0, _, wf0⟩ := DataW.trod_int Try.underlying3 g0
      obtain ⟨k1, q1, _, wf1⟩ := DataW.trod_int Try.underlying3 g1
      obtain ⟨k2, q2, _, wf2⟩ := DataW.trod_int Try.underlying3 g2
      obtain ⟨k3, q3, _, wf3⟩ := DataW.trod_int Try.underlying2 g3
      obtain ⟨k4, q4, _, wf4⟩ := DataW.trod_int Try.underlying2 g4
      obtain ⟨k5, q5, _, wf5⟩ := DataW.trod_int Try.underlying2 g5
      obtain ⟨k6, q6, _, wf6⟩ := DataW.trod_int Try.underlying2 g6
      simp only [List.cons.injEq, and_true] at q0 q1 q2 q3 q4 q5 q6
      subst q0 q1 q2 q3 q4 q5 q6
      refine ⟨[k0, k1, k2, k3, k4, k5, k6], rfl, fun j hj => ?_, fun y hy => ?_⟩
      · have a0 := hat j (by simpa using hj)
        rw [Deep.add_add] at a0
        rw [a0]
        have : j = 0 ∨ j = 1 ∨ j = 2 ∨ j = 3 ∨ j = 4 ∨ j = 5 ∨ j = 6 := by omega
        rcases this with rfl | rfl | rfl | rfl | rfl | rfl | rfl <;> rfl
      · simp only [List.mem_cons, List.not_mem_nil, or_false] at hy
        rcases hy with rfl | rfl | rfl | rfl | rfl | rfl | rfl
        · exact wf_i64 wf0
        · exact wf_i64 wf1
        · exact wf_i64 wf2
        · exact wf_i64 wf3
        · exact wf_i64 wf4
        · exact wf_i64 wf5
        · exact wf_i64 wf6
    exact recArg_of 7 (by decide) hl hm each

end Go.Proofs.Ythggfjjiohdbmaa
