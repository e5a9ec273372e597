/-
  Layer 18: a roster out of bytes.
-/
import Derived.Test.YtcbadcbnknmdnaaWalkRPlays
namespace Go.Proofs.Ytcbadcbnknmdnaa
open Go.RowKit
set_option linter.unusedVariables false

/-- A roster's two numbers, as the reader takes them. -/
def rosS (st : St) : St × Nat × Nat := ((countS (countS st 4294967295).1 1099511627776).1, (countS st 4294967295).2, (countS (countS st 4294967295).1 1099511627776).2)
def rosT (t : St × Nat × Nat) : Nat × Nat := if t.1.2 = 0 then t.2 else (0, 0)
theorem rosT_le (st : St) : (rosT (rosS st)).1 < 4294967296 ∧ (rosT (rosS st)).2 ≤ 1099511627776 := by
  have h1 := countS_le st 4294967295
  have h2 := countS_le (countS st 4294967295).1 1099511627776
  unfold rosT
  split
  · exact ⟨Nat.lt_succ_of_le h1, h2⟩
  · exact ⟨by decide, by decide⟩
theorem cell_to {b : Nat} {st : St} {w w' : World} (h : InTo w b st w') {p : Addr} {v : Value} (hp : p.block ≠ b) (hc : w.cell? p = some v) : w'.cell? p = some v := (h.2.cell (block_lt_of_cell hc) (fun e => hp e)).trans hc
theorem froz_to {b : Nat} {st : St} {w w' : World} (h : InTo w b st w') {p : Addr} (hp : p.block ≠ b) (hl : p.block < w.heap.size) : w'.frozen? p = w.frozen? p := h.2.frozen hl (fun e => hp e)
theorem into_set {w W : World} {b X : Nat} {st : St} (h : InTo w b st W) (hX : w.heap.size ≤ X) (hb : b < w.heap.size) (u v : Value) : InTo w b st ((W.setCell ⟨X, 0, none⟩ u).setCell ⟨X, 1, none⟩ v) :=
  ⟨h.1.touch (S := fun k => k = X) (((Touch.refl (fun k => k = X) W).setCell (p := ⟨X, 0, none⟩) (fun _ => rfl) _).setCell (p := ⟨X, 1, none⟩) (fun _ => rfl) _) (fun e => by omega), (h.2.setCell (p := ⟨X, 0, none⟩) (fun e => by simp only at e; omega) _).setCell (p := ⟨X, 1, none⟩) (fun e => by simp only at e; omega) _⟩
theorem into_alloc {w W : World} {b : Nat} {st : St} (h : InTo w b st W) (o : Obj) : InTo w b st (W.alloc o) := ⟨h.1.below (bel_alloc (Below.refl _ _) _), h.2.alloc o⟩
theorem into_trans {w W V : World} {b : Nat} {s t : St} (h : InTo w b s W) (k : InTo W b t V) : InTo w b t V := ⟨k.1, h.2.trans k.2⟩
def RReadPost18 (b : Nat) (t : St × Nat × Nat) (w : World) (r : Ending) (w' : World) : Prop := r = .returned (rosV (rosT t).1 ((rosT t).2 : Nat)) ∧ InTo w b t.1 w'
end Go.Proofs.Ytcbadcbnknmdnaa
