/-
  Layer 18: the document's own: behind changes.
-/
import Derived.Test.YtcbadcbnknmdnaaRosR5
import Derived.Test.YtcbadcbnknmdnaaRosR4
namespace Go.Proofs.Ytcbadcbnknmdnaa
open Go.RowKit
set_option linter.unusedVariables false

theorem act_row {w : World} {a : Option Addr} {c : Nat} {l : List Int} {N : Nat} (hN : l.length = N) (h : ActL w (.slice a N c) l) : IntRow .i64 w a l ∧ (a = none → l = []) := by
  obtain ⟨a', c', e1, h1, h2, h3, h4⟩ := h
  simp only [Value.slice.injEq] at e1
  obtain ⟨rfl, -, rfl⟩ := e1
  exact ⟨h3, h4⟩
/-- The document's With under way. -/
structure DwM (w : World) (v0 : Value) (e0 : Int) (v : Value) (e : Int) (wr : World) : Prop where
  r0 : wr.cell? ⟨w.heap.size, 0, none⟩ = some v0
  r1 : wr.cell? ⟨w.heap.size, 1, none⟩ = some (.int .i64 e0)
  s0 : wr.cell? ⟨w.heap.size + 1, 0, none⟩ = some (.slice none 0 0)
  s1 : wr.cell? ⟨w.heap.size + 1, 1, none⟩ = some (.int .i64 0)
  b0 : wr.cell? ⟨w.heap.size + 2, 0, none⟩ = some v
  b1 : wr.cell? ⟨w.heap.size + 2, 1, none⟩ = some (.int .i64 e)
  fr : ∀ b j, w.heap.size ≤ b → b ≤ w.heap.size + 2 → wr.frozen? ⟨b, j, none⟩ = false
  bel : Below w.heap.size w wr
theorem DwM.lt {w : World} {v0 : Value} {e0 : Int} {v : Value} {e : Int} {wr : World} (h : DwM w v0 e0 v e wr) : w.heap.size + 2 < wr.heap.size := block_lt_of_cell h.b0
theorem DwM.keep {w : World} {v0 : Value} {e0 : Int} {v : Value} {e : Int} {wr w' : World} (h : DwM w v0 e0 v e wr) (hb : Below wr.heap.size wr w') : DwM w v0 e0 v e w' := by
  have hl := h.lt
  have hc : ∀ b j, b ≤ w.heap.size + 2 → w'.cell? ⟨b, j, none⟩ = wr.cell? ⟨b, j, none⟩ := fun b j hb2 => hb.cell (p := ⟨b, j, none⟩) (show b < wr.heap.size by omega)
  exact ⟨(hc _ _ (by omega)).trans h.r0, (hc _ _ (by omega)).trans h.r1, (hc _ _ (by omega)).trans h.s0, (hc _ _ (by omega)).trans h.s1, (hc _ _ (by omega)).trans h.b0, (hc _ _ (by omega)).trans h.b1, fun b j h1 h2 => (hb.frozen (p := ⟨b, j, none⟩) (show b < wr.heap.size by omega)).trans (h.fr b j h1 h2), h.bel.trans (hb.mono h.bel.size)⟩
theorem DwM.set {w : World} {v0 : Value} {e0 : Int} {v : Value} {e : Int} {wr : World} (h : DwM w v0 e0 v e wr) (u : Value) (f : Int) : DwM w v0 e0 u f ((wr.setCell ⟨w.heap.size + 2, 0, none⟩ u).setCell ⟨w.heap.size + 2, 1, none⟩ (.int .i64 f)) := by
  have h1 : (wr.setCell ⟨w.heap.size + 2, 0, none⟩ u).cell? ⟨w.heap.size + 2, 1, none⟩ = some (.int .i64 e) := by
    rw [World.cell?_setCell_other _ _ _ _ (by simp)]; exact h.b1
  refine ⟨?_, ?_, ?_, ?_, ?_, World.cell?_setCell_same' _ _ _ (by rw [h1]; rfl), fun b j h1 h2 => by rw [World.frozen?_setCell, World.frozen?_setCell]; exact h.fr b j h1 h2, (h.bel.setCell (p := ⟨w.heap.size + 2, 0, none⟩) (by simp) _).setCell (p := ⟨w.heap.size + 2, 1, none⟩) (by simp) _⟩
  · rw [World.cell?_setCell_other _ _ _ _ (by simp), World.cell?_setCell_other _ _ _ _ (by simp)]; exact h.r0
  · rw [World.cell?_setCell_other _ _ _ _ (by simp), World.cell?_setCell_other _ _ _ _ (by simp)]; exact h.r1
  · rw [World.cell?_setCell_other _ _ _ _ (by simp), World.cell?_setCell_other _ _ _ _ (by simp)]; exact h.s0
  · rw [World.cell?_setCell_other _ _ _ _ (by simp), World.cell?_setCell_other _ _ _ _ (by simp)]; exact h.s1
  · rw [World.cell?_setCell_other _ _ _ _ (by simp)]
    exact World.cell?_setCell_same' _ _ _ (by rw [h.b0]; rfl)
/-- A list that came, or one of the call's own, is not touched by two stores to a box. -/
theorem act_set {w : World} {a : Option Addr} {N c : Nat} {l : List Int} {B : Nat} (h : ActL w (.slice a N c) l) (hne : ∀ x, a = some x → 0 < l.length → x.block ≠ B) (u v : Value) : ActL ((w.setCell ⟨B, 0, none⟩ u).setCell ⟨B, 1, none⟩ v) (.slice a N c) l := by
  obtain ⟨a', c', e1, h1, h2, h3, h4⟩ := h
  have e1' := e1
  simp only [Value.slice.injEq] at e1'
  obtain ⟨rfl, -, rfl⟩ := e1'
  refine ⟨a, c, e1, h1, h2, fun h0 => ?_, h4⟩
  exact (h3.touch (S := fun b => b = B) (((Touch.refl (fun b => b = B) w).setCell (p := ⟨B, 0, none⟩) (fun _ => rfl) _).setCell (p := ⟨B, 1, none⟩) (fun _ => rfl) _) (fun x hx e => hne x hx h0 e)) h0
theorem act_lt {w : World} {a : Option Addr} {N c : Nat} {l : List Int} (h : ActL w (.slice a N c) l) : ∀ x, a = some x → 0 < l.length → x.block < w.heap.size := fun x hx h0 => by
  obtain ⟨a', c', e1, h1, h2, h3, h4⟩ := h
  simp only [Value.slice.injEq] at e1
  obtain ⟨rfl, -, rfl⟩ := e1
  obtain ⟨b, off, e, hb⟩ := h3.lt h0
  rw [hx] at e
  cases e
  exact hb
def DwPost (n : Nat) (e : Int) (m : List Chg) (a0 : Option Addr) (w : World) (r : Ending) (w' : World) : Prop := ∃ a c, r = .returned (.tuple #[docV a (lenP (withP n e m).1) c (withP n e m).2.1, .int .i64 (withP n e m).2.2]) ∧ Hid (ActL w' (.slice a (lenP (withP n e m).1) c) (lstP (withP n e m).1)) ∧ ((a = a0 ∧ (withP n e m).1 = n) ∨ ∀ x, a = some x → w.heap.size ≤ x.block) ∧ Below w.heap.size w w'
theorem keep7r {w w' : World} {p1 p2 p3 p4 p5 p6 p7 : Addr} {a1 a2 a3 a4 a5 a6 a7 : Value} (hb : Below w.heap.size w w') (h : w.cell? p1 = some a1 ∧ w.cell? p2 = some a2 ∧ w.cell? p3 = some a3 ∧ w.cell? p4 = some a4 ∧ w.cell? p5 = some a5 ∧ w.cell? p6 = some a6 ∧ w.cell? p7 = some a7) : w'.cell? p1 = some a1 ∧ w'.cell? p2 = some a2 ∧ w'.cell? p3 = some a3 ∧ w'.cell? p4 = some a4 ∧ w'.cell? p5 = some a5 ∧ w'.cell? p6 = some a6 ∧ w'.cell? p7 = some a7 := by
  obtain ⟨h1, h2, h3, h4, h5, h6, h7⟩ := h
  exact ⟨(hb.cell (block_lt_of_cell h1)).trans h1, (hb.cell (block_lt_of_cell h2)).trans h2, (hb.cell (block_lt_of_cell h3)).trans h3, (hb.cell (block_lt_of_cell h4)).trans h4, (hb.cell (block_lt_of_cell h5)).trans h5, (hb.cell (block_lt_of_cell h6)).trans h6, (hb.cell (block_lt_of_cell h7)).trans h7⟩
theorem keep7s {w : World} {B : Nat} {u v : Value} {p1 p2 p3 p4 p5 p6 p7 : Addr} {a1 a2 a3 a4 a5 a6 a7 : Value} (hne : p1.block ≠ B ∧ p2.block ≠ B ∧ p3.block ≠ B ∧ p4.block ≠ B ∧ p5.block ≠ B ∧ p6.block ≠ B ∧ p7.block ≠ B) (h : w.cell? p1 = some a1 ∧ w.cell? p2 = some a2 ∧ w.cell? p3 = some a3 ∧ w.cell? p4 = some a4 ∧ w.cell? p5 = some a5 ∧ w.cell? p6 = some a6 ∧ w.cell? p7 = some a7) : ((w.setCell ⟨B, 0, none⟩ u).setCell ⟨B, 1, none⟩ v).cell? p1 = some a1 ∧ ((w.setCell ⟨B, 0, none⟩ u).setCell ⟨B, 1, none⟩ v).cell? p2 = some a2 ∧ ((w.setCell ⟨B, 0, none⟩ u).setCell ⟨B, 1, none⟩ v).cell? p3 = some a3 ∧ ((w.setCell ⟨B, 0, none⟩ u).setCell ⟨B, 1, none⟩ v).cell? p4 = some a4 ∧ ((w.setCell ⟨B, 0, none⟩ u).setCell ⟨B, 1, none⟩ v).cell? p5 = some a5 ∧ ((w.setCell ⟨B, 0, none⟩ u).setCell ⟨B, 1, none⟩ v).cell? p6 = some a6 ∧ ((w.setCell ⟨B, 0, none⟩ u).setCell ⟨B, 1, none⟩ v).cell? p7 = some a7 := by
  have hx : ∀ (p : Addr), p.block ≠ B → ((w.setCell ⟨B, 0, none⟩ u).setCell ⟨B, 1, none⟩ v).cell? p = w.cell? p := fun p hp => by
    rw [World.cell?_setCell_other _ _ _ _ (fun e => hp (by rw [← e])), World.cell?_setCell_other _ _ _ _ (fun e => hp (by rw [← e]))]
  obtain ⟨h1, h2, h3, h4, h5, h6, h7⟩ := h
  obtain ⟨n1, n2, n3, n4, n5, n6, n7⟩ := hne
  exact ⟨(hx _ n1).trans h1, (hx _ n2).trans h2, (hx _ n3).trans h3, (hx _ n4).trans h4, (hx _ n5).trans h5, (hx _ n6).trans h6, (hx _ n7).trans h7⟩
end Go.Proofs.Ytcbadcbnknmdnaa
