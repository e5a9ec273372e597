/-
  Lists of structs of plain fields as a law's argument: what their reading gives the walk (the openers are made by wip/genvals.py).
-/
import Derived.Test.YtlhcihjplolgiaaChunk2
import Derived.Test.YtlhcihjplolgiaaChunk1
import Derived.Deep.Slices
namespace Go.Proofs.Ytlhcihjplolgiaa
open Go.RowKit Go.WideShapes Go.ChangeShapes
set_option linter.unusedVariables false

def ValArg (k : Nat) (P : List Value → Prop) (w : World) (a : Option Addr) (len cap : Nat) (ls : List (List Value)) : Prop :=
  len = ls.length ∧ len ≤ cap ∧ cap ≤ maxLen ∧ VRow k w a ls ∧ ∀ r ∈ ls, P r
theorem vlist_2 {α : Type} {l : List α} (h : l.length = 2) : ∃ a b, l = [a, b] := by
  match l, h with
  | [a, b], _ => exact ⟨a, b, rfl⟩
theorem vlist_4 {α : Type} {l : List α} (h : l.length = 4) : ∃ a b c d, l = [a, b, c, d] := by
  match l, h with
  | [a, b, c, d], _ => exact ⟨a, b, c, d, rfl⟩
theorem valArg_of (k : Nat) (hk : 0 < k) {P : List Value → Prop} {w : World} {ad : Addr} {len cap : Nat} (hl : len ≤ cap) (hm : cap ≤ maxLen)
    (each : ∀ i, i < len → ∃ r : List Value, r.length = k ∧ (∀ j, j < k → w.cell? (ad.add (i * k + j)) = r[j]?) ∧ P r) : ∃ ls, ValArg k P w (some ad) len cap ls := by
  let F : Nat → List Value := fun i => if hi : i < len then (each i hi).choose else []
  have hF : ∀ i, i < len → (F i).length = k ∧ (∀ j, j < k → w.cell? (ad.add (i * k + j)) = (F i)[j]?) ∧ P (F i) := by
    intro i hi
    have := (each i hi).choose_spec
    simp only [F, hi, dif_pos]
    exact this
  clear_value F
  refine ⟨(List.range len).map F, by simp, hl, hm, fun h0 => ?_, fun x hx => ?_⟩
  · obtain ⟨b, off, spot⟩ := ad
    have hlen : 0 < len := by simpa using h0
    have h00 := (hF 0 hlen).2.1 0 hk
    have h0k := (hF 0 hlen).1
    rw [List.getElem?_eq_getElem (show 0 < (F 0).length by omega)] at h00
    have hspot : spot = none := by simpa [Addr.add] using World.cell?_spot h00
    subst hspot
    refine ⟨b, off, rfl, fun i hi j hj => ?_⟩
    have hil : i < len := by simpa using hi
    simp only [List.getElem_map, List.getElem_range]
    have h1 := (hF i hil).2.1 j hj
    have hjk := (hF i hil).1
    rw [List.getElem?_eq_getElem (show j < (F i).length by omega)] at h1 ⊢
    rw [Nat.add_assoc]
    exact cell_addN h1
  · simp only [List.mem_map, List.mem_range] at hx
    obtain ⟨i, hi, rfl⟩ := hx
    exact (hF i hi).2.2
def ptsR (r : List Value) : Prop := ∃ k0 k1, r = [.bool k0, .string k1] ∧ k1.size ≤ maxLen
theorem pts_of {H : Type} {enc : TypeId × Value → H} {w : World} {base : Nat} {sp : Nat → Bool} {held : Bool} {fuel : Nat} {a : Option Addr} {len cap : Nat} {x : DataW H × List MemPlace} (h : DataW.trod enc Try.prog w base sp held fuel 147 [.slice a len cap] = some x) : ∃ ls, ValArg 2 ptsR w a len cap ls := by
  rcases Deep.open_slice Try.underlying147 h with ⟨hcs, _⟩ | ⟨ad, l, c, m, n, D, Pl, hcs, _, hl, hm, hmm, _, hx⟩
  · simp at hcs
    obtain ⟨rfl, rfl, rfl⟩ := hcs
    exact ⟨[], rfl, Nat.le_refl _, by simp [maxLen], fun h => by simp at h, fun x hx => by simp at hx⟩
  · simp at hcs
    obtain ⟨rfl, rfl, rfl⟩ := hcs
    have hmc : len ≤ m := by rw [hmm]; split <;> omega
    have cS : Try.prog.cellsOf 151 = 2 := by kernel_rfl
    have c_bool : Try.prog.cellsOf 4 = 1 := by kernel_rfl
    have c_string : Try.prog.cellsOf 9 = 1 := by kernel_rfl
    rw [cS] at hx
    have each : ∀ i, i < len → ∃ r : List Value, r.length = 2 ∧ (∀ j, j < 2 → w.cell? (ad.add (i * 2 + j)) = r[j]?) ∧ ptsR r := by
      intro i hi
      obtain ⟨cs', hc, ht⟩ := hx i (by omega)
      obtain ⟨ys, n', hn', hy, hlen, hyl, hf⟩ := DataW.trod_struct Try.underlying151 ht
      obtain ⟨_, hcl, hat⟩ := World.cells?_some hc
      obtain ⟨v0, v1, rfl⟩ := vlist_2 hcl
      obtain ⟨y0, y1, rfl⟩ := vlist_2 (show ys.length = 2 by simpa using hyl)
      have g0 : DataW.trod enc Try.prog w base sp held n' 4 [v0] = some y0 := by simpa [c_bool, c_string] using hf 0 _ rfl
      have g1 : DataW.trod enc Try.prog w base sp held n' 9 [v1] = some y1 := by simpa [c_bool, c_string] using hf 1 _ rfl
      obtain ⟨k0, q0, _⟩ := DataW.trod_bool Try.underlying4 g0
      obtain ⟨k1, q1, _, wf1⟩ := DataW.trod_string Try.underlying9 g1
      simp only [List.cons.injEq, and_true] at q0 q1
      subst q0 q1
      refine ⟨[.bool k0, .string k1], rfl, fun j hj => ?_, ⟨_, _, rfl, wf1⟩⟩
      have a0 := hat j (by simpa using hj)
      rw [Deep.add_add] at a0
      exact a0
    exact valArg_of 2 (by decide) hl hm each

def acts13R (r : List Value) : Prop := ∃ k0 k1 k2 k3, r = [.int .i64 k0, .int .i64 k1, .int .u32 k2, .string k3] ∧ (Lit.int .i64 k0).wf = true ∧ (Lit.int .i64 k1).wf = true ∧ (Lit.int .u32 k2).wf = true ∧ k3.size ≤ maxLen
end Go.Proofs.Ytlhcihjplolgiaa
