/-
  Lists of calls as a law's argument: what their reading gives the walk.
-/
import Derived.Test.YtmghhigepjeicaaNums
import Derived.Deep.Slices
namespace Go.Proofs.Ytmghhigepjeicaa
open Go.RowKit Go.WideShapes Go.ChangeShapes
set_option linter.unusedVariables false

/-- A call of the law. -/
structure ActV where
  kind : Int
  n : Int
  x : Int
  l : List Int
def i64B (x : Int) : Prop := -9223372036854775808 ≤ x ∧ x ≤ 9223372036854775807
def ActOk (a : ActV) : Prop := i64B a.kind ∧ i64B a.n ∧ i64B a.x ∧ ∀ y ∈ a.l, i64B y
/-- A list lies there as a call's argument. -/
def ActL (w : World) (v : Value) (l : List Int) : Prop := ∃ a c, v = .slice a l.length c ∧ l.length ≤ c ∧ c ≤ maxLen ∧ IntRow .i64 w a l ∧ (a = none → l = [])
theorem ActL.below {w w' : World} {v : Value} {l : List Int} (h : ActL w v l) (hb : Below w.heap.size w w') : ActL w' v l := by
  obtain ⟨a, c, h1, h2, h3, h4, h5⟩ := h
  exact ⟨a, c, h1, h2, h3, h4.below hb, h5⟩
/-- Calls lie one behind the other from a on. -/
def ActRow (w : World) (a : Option Addr) (m : List ActV) : Prop :=
  0 < m.length → ∃ b off, a = some ⟨b, off, none⟩ ∧ ∀ i (h : i < m.length), w.cell? ⟨b, off + i * 4, none⟩ = some (.int .i64 m[i].kind) ∧ w.cell? ⟨b, off + i * 4 + 1, none⟩ = some (.int .i64 m[i].n) ∧ w.cell? ⟨b, off + i * 4 + 2, none⟩ = some (.int .i64 m[i].x) ∧
    ∃ v, w.cell? ⟨b, off + i * 4 + 3, none⟩ = some v ∧ ActL w v m[i].l
def ActsArg (w : World) (a : Option Addr) (len cap : Nat) (m : List ActV) : Prop := len = m.length ∧ len ≤ maxLen ∧ len ≤ cap ∧ ActRow w a m ∧ ∀ x ∈ m, ActOk x
theorem four_of {α : Type} {l : List α} (h : l.length = 4) : ∃ a b c d, l = [a, b, c, d] := by
  match l, h with
  | [a, b, c, d], _ => exact ⟨a, b, c, d, rfl⟩
theorem acts_of {H : Type} {enc : TypeId × Value → H} {w : World} {base : Nat} {sp : Nat → Bool} {held : Bool} {fuel : Nat} {a : Option Addr} {len cap : Nat} {x : DataW H × List MemPlace} (h : DataW.trod enc Try.prog w base sp held fuel 42 [.slice a len cap] = some x) : ∃ m, ActsArg w a len cap m := by
  rcases Deep.open_slice Try.underlying42 h with ⟨hcs, _⟩ | ⟨ad, l, c, m, n, D, Pl, hcs, _, hl, hm, hmm, _, hx⟩
  · simp at hcs
    obtain ⟨rfl, rfl, rfl⟩ := hcs
    exact ⟨[], rfl, by simp [maxLen], Nat.le_refl _, fun h => by simp at h, by simp⟩
  · simp at hcs
    obtain ⟨rfl, rfl, rfl⟩ := hcs
    have hmc : len ≤ m := by rw [hmm]; split <;> omega
    have c29 : Try.prog.cellsOf 47 = 4 := by kernel_rfl
    have c3 : Try.prog.cellsOf 3 = 1 := by kernel_rfl
    have c4 : Try.prog.cellsOf 2 = 1 := by kernel_rfl
    have c27 : Try.prog.cellsOf 23 = 1 := by kernel_rfl
    rw [c29] at hx
    have each : ∀ i, i < len → ∃ f : ActV, w.cell? (ad.add (i * 4)) = some (.int .i64 f.kind) ∧ w.cell? (ad.add (i * 4 + 1)) = some (.int .i64 f.n) ∧ w.cell? (ad.add (i * 4 + 2)) = some (.int .i64 f.x) ∧ (∃ v, w.cell? (ad.add (i * 4 + 3)) = some v ∧ ActL w v f.l) ∧ ActOk f := by
      intro i hi
      obtain ⟨cs', hc, ht⟩ := hx i (by omega)
      obtain ⟨ys, n', hn', hy, hlen, hyl, hf⟩ := DataW.trod_struct Try.underlying47 ht
      obtain ⟨_, hcl, hat⟩ := World.cells?_some hc
      obtain ⟨v0, v1, v2, v3, rfl⟩ := four_of hcl
      obtain ⟨y0, y1, y2, y3, rfl⟩ := four_of (by simpa using hyl)
      have g0 : DataW.trod enc Try.prog w base sp held n' 3 [v0] = some y0 := by simpa [c3] using hf 0 _ rfl
      have g1 : DataW.trod enc Try.prog w base sp held n' 3 [v1] = some y1 := by simpa [c3] using hf 1 _ rfl
      have g2 : DataW.trod enc Try.prog w base sp held n' 2 [v2] = some y2 := by simpa [c4] using hf 2 _ rfl
      have g3 : DataW.trod enc Try.prog w base sp held n' 23 [v3] = some y3 := by simpa [c27] using hf 3 _ rfl
      obtain ⟨k0, q0, _, wf0⟩ := DataW.trod_int Try.underlying3 g0
      obtain ⟨k1, q1, _, wf1⟩ := DataW.trod_int Try.underlying3 g1
      obtain ⟨k2, q2, _, wf2⟩ := DataW.trod_int Try.underlying2 g2
      simp only [List.cons.injEq, and_true] at q0 q1 q2
      have h2 : ∃ x n c, v3 = .slice x n c := by
        rcases Deep.open_slice Try.underlying23 g3 with ⟨hcs, _⟩ | ⟨ad, l, c, m, n, D, Pl, hcs, _⟩
        · simp at hcs; exact ⟨_, _, _, hcs⟩
        · simp at hcs; exact ⟨_, _, _, hcs⟩
      obtain ⟨x2, n2, c2, rfl⟩ := h2
      obtain ⟨l, hl1, hl2, hl3, hl4, hl5, hl6, hl7⟩ := nums_of (k := .i64) Try.underlying23 Try.underlying2 c4 g3
      subst hl1
      have a0 := hat 0 (by decide)
      have a1 := hat 1 (by decide)
      have a2 := hat 2 (by decide)
      have a3 := hat 3 (by decide)
      rw [Deep.add_add] at a0 a1 a2 a3
      subst q0 q1 q2
      exact ⟨⟨k0, k1, k2, l⟩, a0, a1, a2, ⟨_, a3, x2, c2, rfl, hl3, hl4, hl5, hl6⟩, wf_i64 wf0, wf_i64 wf1, wf_i64 wf2, fun y hy => wf_i64 (hl7 y hy)⟩
    let F : Nat → ActV := fun i => if hi : i < len then (each i hi).choose else ⟨0, 0, 0, []⟩
    have hF : ∀ i, i < len → w.cell? (ad.add (i * 4)) = some (.int .i64 (F i).kind) ∧ w.cell? (ad.add (i * 4 + 1)) = some (.int .i64 (F i).n) ∧ w.cell? (ad.add (i * 4 + 2)) = some (.int .i64 (F i).x) ∧ (∃ v, w.cell? (ad.add (i * 4 + 3)) = some v ∧ ActL w v (F i).l) ∧ ActOk (F i) := by
      intro i hi
      have := (each i hi).choose_spec
      simp only [F, hi, dif_pos]
      exact this
    clear_value F
    refine ⟨(List.range len).map F, by simp, by omega, hl, fun h0 => ?_, fun x hx => ?_⟩
    · obtain ⟨b, off, spot⟩ := ad
      have hlen : 0 < len := by simpa using h0
      have h00 := (hF 0 (by omega)).1
      have hspot : spot = none := by simpa [Addr.add] using World.cell?_spot h00
      subst hspot
      refine ⟨b, off, rfl, fun i hi => ?_⟩
      have hil : i < len := by simpa using hi
      obtain ⟨e0, e1, e2, ⟨v, e3, hr⟩, -⟩ := hF i hil
      simp only [List.getElem_map, List.getElem_range]
      exact ⟨cell_addN e0, by rw [Nat.add_assoc]; exact cell_addN e1, by rw [Nat.add_assoc]; exact cell_addN e2, v, by rw [Nat.add_assoc]; exact cell_addN e3, hr⟩
    · simp only [List.mem_map, List.mem_range] at hx
      obtain ⟨i, hi, rfl⟩ := hx
      exact (hF i hi).2.2.2.2
theorem ActRow.below {w w' : World} {a : Option Addr} {m : List ActV} (h : ActRow w a m) (hb : Below w.heap.size w w') : ActRow w' a m := by
  intro h0
  obtain ⟨b, off, e, hc⟩ := h h0
  have hlt := block_lt_of_cell (hc 0 h0).1
  refine ⟨b, off, e, fun i hi => ?_⟩
  obtain ⟨c0, c1, c2, v, c3, hr⟩ := hc i hi
  exact ⟨(hb.cell (p := ⟨b, off + i * 4, none⟩) hlt).trans c0, (hb.cell (p := ⟨b, off + i * 4 + 1, none⟩) hlt).trans c1, (hb.cell (p := ⟨b, off + i * 4 + 2, none⟩) hlt).trans c2, v, (hb.cell (p := ⟨b, off + i * 4 + 3, none⟩) hlt).trans c3, hr.below hb⟩
end Go.Proofs.Ytmghhigepjeicaa
