/-
  Layer 3: an image of bytes: what the reader makes of them, as plain functions of what is left and of the error.
-/
import Derived.Test.YtpilkaggiajjmaaCodeText
import Derived.Test.YtpilkaggiajjmaaWireTake
import Derived.Test.YtpilkaggiajjmaaRefMore
namespace Go.Proofs.Ytpilkaggiajjmaa
open Go.RowKit
set_option linter.unusedVariables false

abbrev St := List UInt8 × Nat
/-- Behind an error nothing is left; there is not too much. -/
def StOk (st : St) : Prop := (st.2 ≠ 0 → st.1 = []) ∧ st.1.length ≤ 1000000000
theorem countS_stOk {st : St} {most : Int} (h : StOk st) : StOk (countS st most).1 := countS_ok st most h.1 h.2
theorem numS_stOk {st : St} (h : StOk st) : StOk (numS st).1 := numS_ok st h.1 h.2
theorem failS_stOk {st : St} {x : Nat} (h : StOk st) : StOk (failS st x) := ⟨failS_ok st x h.1, by unfold failS; split; simp; exact h.2⟩
/-- An instruction. -/
def insS (st : St) : St × (Nat × Int) :=
  if hasA (countS st 22).2 then ((numS (countS st 22).1).1, ((countS st 22).2, unzig (numS (countS st 22).1).2))
  else (if (countS st 22).2 = 0 then failS (countS st 22).1 14 else (countS st 22).1, ((countS st 22).2, 0))
theorem countS_le (st : St) (most : Nat) : (countS st most).2 ≤ most := by
  unfold countS
  split
  · exact Nat.zero_le _
  · omega
theorem insS_stOk {st : St} (h : StOk st) : StOk (insS st).1 := by
  unfold insS
  split
  · exact numS_stOk (countS_stOk h)
  · split
    · exact failS_stOk (countS_stOk h)
    · exact countS_stOk h
/-- So many things, one behind the other. -/
def runS {α : Type} (f : St → St × α) : Nat → St → St × List α
  | 0, st => (st, [])
  | n + 1, st => ((f (runS f n st).1).1, (runS f n st).2 ++ [(f (runS f n st).1).2])
theorem runS_len {α : Type} (f : St → St × α) (n : Nat) (st : St) : (runS f n st).2.length = n := by
  induction n with
  | zero => rfl
  | succ n ih => simp [runS, ih]
theorem runS_stOk {α : Type} {f : St → St × α} (hf : ∀ st, StOk st → StOk (f st).1) (n : Nat) {st : St} (h : StOk st) : StOk (runS f n st).1 := by
  induction n with
  | zero => exact h
  | succ n ih => exact hf _ ih
/-- A function. -/
def fnS (st : St) : St × Fn :=
  ((runS insS (countS (countS (countS st 16).1 16).1 128).2 (countS (countS (countS st 16).1 16).1 128).1).1,
   ⟨((countS st 16).2 : Nat), ((countS (countS st 16).1 16).2 : Nat), (runS insS (countS (countS (countS st 16).1 16).1 128).2 (countS (countS (countS st 16).1 16).1 128).1).2⟩)
/-- An image: the functions, the error. -/
def parseS (l : List UInt8) : List Fn × Nat :=
  if (endS (runS fnS (countS (l, 0) 16).2 (countS (l, 0) 16).1).1).2 ≠ 0 then ([], (endS (runS fnS (countS (l, 0) 16).2 (countS (l, 0) 16).1).1).2)
  else ((runS fnS (countS (l, 0) 16).2 (countS (l, 0) 16).1).2, 0)
theorem InSt.stOk {w : World} {b : Nat} {st : St} (h : InSt w b st) : StOk st := ⟨h.2.2.2.2.2.1, h.2.2.2.2.1⟩
theorem InTo.trans {w w1 w2 : World} {b : Nat} {st st' : St} (h : InTo w b st w1) (h' : InTo w1 b st' w2) : InTo w b st' w2 := ⟨h'.1, h.2.trans h'.2⟩
theorem InSt.alloc {w : World} {b : Nat} {st : St} (h : InSt w b st) (o : Obj) : InSt (w.alloc o) b st := h.below ((Below.refl _ _).alloc (Nat.le_refl _) _)
theorem InTo.alloc0 {w w1 : World} {b : Nat} {st : St} {o : Obj} (h : InTo (w.alloc o) b st w1) : InTo w b st w1 := ⟨h.1, ((Touch.refl _ w).alloc o).trans h.2⟩
/-- What a store into a block of the call's own leaves of a reader. -/
theorem InTo.set2 {w w1 : World} {b B : Nat} {st : St} (h : InTo w b st w1) (hB : w.heap.size ≤ B) (hb : b < w.heap.size) (u v : Value) : InTo w b st ((w1.setCell ⟨B, 0, none⟩ u).setCell ⟨B, 1, none⟩ v) := by
  have ht : Touch (fun k => k = B) w1 ((w1.setCell ⟨B, 0, none⟩ u).setCell ⟨B, 1, none⟩ v) := ((Touch.refl (fun k => k = B) w1).setCell (p := ⟨B, 0, none⟩) (fun _ => rfl) _).setCell (p := ⟨B, 1, none⟩) (fun _ => rfl) _
  exact ⟨h.1.touch ht (by omega), h.2.trans' ht (fun k hk e => by omega)⟩
/-- The call's result lies as it was laid, behind calls of the reader. -/
theorem new2 {w w1 : World} {b : Nat} {x y : Value} {t : TypeId} (hb : b < w.heap.size) (h : Touch (fun k => k = b) (w.alloc (.cells #[x, y] t)) w1) :
    w1.cell? ⟨w.heap.size, 0, none⟩ = some x ∧ w1.cell? ⟨w.heap.size, 1, none⟩ = some y ∧ w1.frozen? ⟨w.heap.size, 0, none⟩ = false ∧ w1.frozen? ⟨w.heap.size, 1, none⟩ = false ∧ w.heap.size < w1.heap.size := by
  have hne : ¬ w.heap.size = b := by omega
  have hz := h.size
  exact ⟨(h.cell (p := ⟨w.heap.size, 0, none⟩) (by simp) hne).trans (by simp), (h.cell (p := ⟨w.heap.size, 1, none⟩) (by simp) hne).trans (by simp), (h.frozen (p := ⟨w.heap.size, 0, none⟩) (by simp) hne).trans (frozen_new _ _ _ _), (h.frozen (p := ⟨w.heap.size, 1, none⟩) (by simp) hne).trans (frozen_new _ _ _ _), by simp at hz; omega⟩
end Go.Proofs.Ytpilkaggiajjmaa
