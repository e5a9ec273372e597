/-
  Layer 18: the document's reader of a roster.
-/
import Derived.Test.YtcbadcbnknmdnaaRosT5
namespace Go.Proofs.Ytcbadcbnknmdnaa
open Go.RowKit
set_option linter.unusedVariables false

def RrPost (T : St × Nat × Nat) (w : World) (r : Ending) (w' : World) : Prop := ∃ a c, r = .returned (.tuple #[.agg #[.string (bs T.1.1), .int .i64 (T.1.2 : Nat)], docV a (lenP (rosT T).1) c ((rosT T).2 : Nat)]) ∧ Below w.heap.size w w' ∧ Hid (ActL w' (.slice a (lenP (rosT T).1) c) (lstP (rosT T).1))
theorem R5.res {w : World} {st : St} {wr : World} (h : R5 w st wr) (y0 y1 x0 x1 : Value) : Below w.heap.size w ((((wr.setCell ⟨w.heap.size + 1, 0, none⟩ y0).setCell ⟨w.heap.size + 1, 1, none⟩ y1).setCell ⟨w.heap.size + 2, 0, none⟩ x0).setCell ⟨w.heap.size + 2, 1, none⟩ x1) := by
  have a1 : w.heap.size ≤ w.heap.size + 1 := by omega
  have a2 : w.heap.size ≤ w.heap.size + 2 := by omega
  exact (((h.bel.setCell (p := ⟨w.heap.size + 1, 0, none⟩) a1 _).setCell (p := ⟨w.heap.size + 1, 1, none⟩) a1 _).setCell (p := ⟨w.heap.size + 2, 0, none⟩) a2 _).setCell (p := ⟨w.heap.size + 2, 1, none⟩) a2 _
theorem act_res5 {w : World} {C : Nat} {st : St} {k : Int} {a : Option Addr} {c : Nat} {V : List Int} {wr : World} (h : RdR w C st k a c V wr) (y0 y1 x0 x1 : Value) : ActL ((((wr.setCell ⟨w.heap.size + 1, 0, none⟩ y0).setCell ⟨w.heap.size + 1, 1, none⟩ y1).setCell ⟨w.heap.size + 2, 0, none⟩ x0).setCell ⟨w.heap.size + 2, 1, none⟩ x1) (.slice a V.length c) V := by
  have hlo := h.lo
  refine own18_act (h.row.touch (S := fun z => z ≤ w.heap.size + 2) (((((Touch.refl (fun z => z ≤ w.heap.size + 2) wr).setCell (p := ⟨w.heap.size + 1, 0, none⟩) (fun _ => ?_) _).setCell (p := ⟨w.heap.size + 1, 1, none⟩) (fun _ => ?_) _).setCell (p := ⟨w.heap.size + 2, 0, none⟩) (fun _ => ?_) _).setCell (p := ⟨w.heap.size + 2, 1, none⟩) (fun _ => ?_) _) (fun y hy e => by have := h.row.2 y hy; omega)) <;> (simp only; omega)
end Go.Proofs.Ytcbadcbnknmdnaa
