/-
  The document's own way to take a number: what it comes to.
-/
import Derived.Test.YtfkhfincggligaaRefTake
import Derived.BigQuiet
import Derived.Deep.Cut
import Derived.LoopN
namespace Go.Proofs.Ytfkhfincggligaa
open Go.RowKit
set_option linter.unusedVariables false

/-- The memory of a call that takes a number, behind k bytes. -/
structure TakeW (w wr : World) (l : List UInt8) (x : Value) : Prop where
  c0 : wr.cell? ⟨w.heap.size, 0, none⟩ = some (.string (bs l))
  c1 : wr.cell? ⟨w.heap.size, 1, none⟩ = some x
  f0 : wr.frozen? ⟨w.heap.size, 0, none⟩ = false
  f1 : wr.frozen? ⟨w.heap.size, 1, none⟩ = false
  r0 : wr.cell? ⟨w.heap.size + 1, 0, none⟩ = some (.string ⟨#[]⟩)
  r1 : wr.cell? ⟨w.heap.size + 1, 1, none⟩ = some (.int .i64 0)
  g0 : wr.frozen? ⟨w.heap.size + 1, 0, none⟩ = false
  g1 : wr.frozen? ⟨w.heap.size + 1, 1, none⟩ = false
  sz : w.heap.size + 1 < wr.heap.size
  bel : Below w.heap.size w wr
theorem TakeW.keep {w wr w' : World} {l : List UInt8} {x : Value} (h : TakeW w wr l x) (hb : Below wr.heap.size wr w') : TakeW w w' l x := by
  have hs := h.sz
  have hz := hb.size
  refine ⟨(hb.cell (p := ⟨w.heap.size, 0, none⟩) (by show w.heap.size < _; omega)).trans h.c0, (hb.cell (p := ⟨w.heap.size, 1, none⟩) (by show w.heap.size < _; omega)).trans h.c1, (hb.frozen (p := ⟨w.heap.size, 0, none⟩) (by show w.heap.size < _; omega)).trans h.f0, (hb.frozen (p := ⟨w.heap.size, 1, none⟩) (by show w.heap.size < _; omega)).trans h.f1,
    (hb.cell (p := ⟨w.heap.size + 1, 0, none⟩) hs).trans h.r0, (hb.cell (p := ⟨w.heap.size + 1, 1, none⟩) hs).trans h.r1, (hb.frozen (p := ⟨w.heap.size + 1, 0, none⟩) hs).trans h.g0, (hb.frozen (p := ⟨w.heap.size + 1, 1, none⟩) hs).trans h.g1, by omega, h.bel.trans (hb.mono (by omega))⟩
theorem TakeW.set {w wr : World} {l : List UInt8} {x : Value} (h : TakeW w wr l x) (l' : List UInt8) (x' : Value) : TakeW w ((wr.setCell ⟨w.heap.size, 0, none⟩ (.string (bs l'))).setCell ⟨w.heap.size, 1, none⟩ x') l' x' := by
  have hs := h.sz
  refine ⟨?_, World.cell?_setCell_same _ _ _ ((World.cell?_setCell_other _ _ _ _ (by simp)).trans h.c1), by simpa using h.f0, by simpa using h.f1, ?_, ?_, by simpa using h.g0, by simpa using h.g1, by simpa using hs, (h.bel.setCell (Nat.le_refl _) _).setCell (Nat.le_refl _) _⟩
  · rw [World.cell?_setCell_other _ _ _ _ (by simp)]; exact World.cell?_setCell_same _ _ _ h.c0
  · rw [World.cell?_setCell_other _ _ _ _ (by simp), World.cell?_setCell_other _ _ _ _ (by simp)]; exact h.r0
  · rw [World.cell?_setCell_other _ _ _ _ (by simp), World.cell?_setCell_other _ _ _ _ (by simp)]; exact h.r1
theorem TakeW.store {w wr : World} {l : List UInt8} {x : Value} (h : TakeW w wr l x) (l' : List UInt8) (x' : Value) (o : Obj) (n : Nat) : TakeW w ((((wr.setCell ⟨w.heap.size, 0, none⟩ (.string (bs l'))).setCell ⟨w.heap.size, 1, none⟩ x').alloc o).drewN n) l' x' := by
  have key := h.set l' x'
  have k2 := key.keep ((Below.refl _ _).alloc (Nat.le_refl _) o)
  exact ⟨k2.c0, k2.c1, k2.f0, k2.f1, k2.r0, k2.r1, k2.g0, k2.g1, k2.sz, ⟨k2.bel.os, k2.bel.tape, k2.bel.output, k2.bel.size, k2.bel.block⟩⟩
theorem TakeW.end0 {w wr : World} {l : List UInt8} {x : Value} (h : TakeW w wr l x) (a b : Value) : Below w.heap.size w ((wr.setCell ⟨w.heap.size + 1, 0, none⟩ a).setCell ⟨w.heap.size + 1, 1, none⟩ b) :=
  (h.bel.setCell (Nat.le_succ _) _).setCell (Nat.le_succ _) _
theorem rawS_one {l : List UInt8} {b : UInt8} {r : List UInt8} (h : l = b :: r) : rawS (l, 0) 1 = ((r, 0), [b]) := by
  subst h; exact rawS_yes (b :: r) 1 (by simp)
end Go.Proofs.Ytfkhfincggligaa
