/-
  Layer 18: the document's own: behind one that joins.
-/
import Derived.Test.YtcbadcbnknmdnaaRosR4
namespace Go.Proofs.Ytcbadcbnknmdnaa
open Go.RowKit
set_option linter.unusedVariables false

theorem introw_drew {w : World} {a : Option Addr} {l : List Int} (h : IntRow .i64 w a l) : IntRow .i64 w.drew a l := h
theorem act_set2 {w : World} {a : Option Addr} {c : Nat} {l : List Int} {B : Nat} (h : ActL w (.slice a l.length c) l) (hne : ∀ x, a = some x → x.block ≠ B) (u v : Value) : ActL ((w.setCell ⟨B, 0, none⟩ u).setCell ⟨B, 1, none⟩ v) (.slice a l.length c) l := by
  obtain ⟨a', c', e1, h1, h2, h3, h4⟩ := h
  simp only [Value.slice.injEq, true_and] at e1
  obtain ⟨rfl, rfl⟩ := e1
  exact ⟨a, c, rfl, h1, h2, h3.touch (S := fun b => b = B) (((Touch.refl (fun b => b = B) w).setCell (p := ⟨B, 0, none⟩) (fun _ => rfl) _).setCell (p := ⟨B, 1, none⟩) (fun _ => rfl) _) (fun x hx e => hne x hx e), h4⟩
theorem keep3r {w w' : World} {p q r : Addr} {a b c : Value} (hb : Below w.heap.size w w') (h : w.cell? p = some a ∧ w.cell? q = some b ∧ w.cell? r = some c) : w'.cell? p = some a ∧ w'.cell? q = some b ∧ w'.cell? r = some c :=
  ⟨(hb.cell (block_lt_of_cell h.1)).trans h.1, (hb.cell (block_lt_of_cell h.2.1)).trans h.2.1, (hb.cell (block_lt_of_cell h.2.2)).trans h.2.2⟩
theorem keepSet3 {w : World} {B : Nat} {a b c v u : Value} (h : w.cell? ⟨B, 0, none⟩ = some a ∧ w.cell? ⟨B, 1, none⟩ = some b ∧ w.cell? ⟨B + 1, 1, none⟩ = some c) : ((w.setCell ⟨B + 1 + 1, 0, none⟩ v).setCell ⟨B + 1 + 1, 1, none⟩ u).cell? ⟨B, 0, none⟩ = some a ∧ ((w.setCell ⟨B + 1 + 1, 0, none⟩ v).setCell ⟨B + 1 + 1, 1, none⟩ u).cell? ⟨B, 1, none⟩ = some b ∧ ((w.setCell ⟨B + 1 + 1, 0, none⟩ v).setCell ⟨B + 1 + 1, 1, none⟩ u).cell? ⟨B + 1, 1, none⟩ = some c := by
  refine ⟨?_, ?_, ?_⟩
  · rw [World.cell?_setCell_other _ _ _ _ (by simp), World.cell?_setCell_other _ _ _ _ (by simp)]; exact h.1
  · rw [World.cell?_setCell_other _ _ _ _ (by simp), World.cell?_setCell_other _ _ _ _ (by simp)]; exact h.2.1
  · rw [World.cell?_setCell_other _ _ _ _ (by simp), World.cell?_setCell_other _ _ _ _ (by simp)]; exact h.2.2
theorem keepRes {w w' : World} {s t : Addr} {a b : Value} (hb : Below w.heap.size w w') (h : w.cell? s = some a ∧ w.cell? t = some b ∧ w.frozen? s = false ∧ w.frozen? t = false) : w'.cell? s = some a ∧ w'.cell? t = some b ∧ w'.frozen? s = false ∧ w'.frozen? t = false ∧ s.block < w'.heap.size :=
  ⟨(hb.cell (block_lt_of_cell h.1)).trans h.1, (hb.cell (block_lt_of_cell h.2.1)).trans h.2.1, (hb.frozen (block_lt_of_cell h.1)).trans h.2.2.1, (hb.frozen (block_lt_of_cell h.2.1)).trans h.2.2.2, Nat.lt_of_lt_of_le (block_lt_of_cell h.1) hb.size⟩
end Go.Proofs.Ytcbadcbnknmdnaa
