/-
  The document's own reading of an image: what it comes to.
-/
import Derived.Test.YtdkokfpbmmjfkaaRMem
import Derived.Test.YtdkokfpbmmjfkaaCodeMath
import Derived.Test.YtdkokfpbmmjfkaaRefMore
import Derived.RegionTactic
namespace Go.Proofs.Ytdkokfpbmmjfkaa
open Go.RowKit
set_option linter.unusedVariables false

theorem cell_new (W : World) (n : Nat) (h : W.heap.size = n) (cs : Array Value) (t : TypeId) (j : Nat) : (W.alloc (.cells cs t)).cell? ⟨n, j, none⟩ = cs[j]? := by subst h; simp
theorem inV_eq (st : St) : inV st = .agg #[.string (bs st.1), .int .i64 (st.2 : Nat)] := rfl
/-- Three blocks of the call's own, the first ones behind w. -/
structure Bx (w wr : World) (A1 A2 A3 : Array Value) : Prop where
  c1 : ∀ j, wr.cell? ⟨w.heap.size, j, none⟩ = A1[j]?
  c2 : ∀ j, wr.cell? ⟨w.heap.size + 1, j, none⟩ = A2[j]?
  c3 : ∀ j, wr.cell? ⟨w.heap.size + 1 + 1, j, none⟩ = A3[j]?
  f1 : ∀ j, wr.frozen? ⟨w.heap.size, j, none⟩ = false
  f2 : ∀ j, wr.frozen? ⟨w.heap.size + 1, j, none⟩ = false
  f3 : ∀ j, wr.frozen? ⟨w.heap.size + 1 + 1, j, none⟩ = false
  sz : w.heap.size + 1 + 1 < wr.heap.size
  bel : Below w.heap.size w wr
theorem Bx.new (w : World) (A1 A2 A3 : Array Value) (t1 t2 t3 : TypeId) : Bx w (((w.alloc (.cells A1 t1)).alloc (.cells A2 t2)).alloc (.cells A3 t3)) A1 A2 A3 := by
  have z1 : (w.alloc (.cells A1 t1)).heap.size = w.heap.size + 1 := by simp
  have z2 : ((w.alloc (.cells A1 t1)).alloc (.cells A2 t2)).heap.size = w.heap.size + 1 + 1 := by simp
  refine ⟨fun j => ?_, fun j => ?_, fun j => ?_, fun j => ?_, fun j => ?_, fun j => ?_, by simp, (((Below.refl _ _).alloc (Nat.le_refl _) _).alloc (by omega) _).alloc (by omega) _⟩
  · rw [World.cell?_alloc_lt _ _ _ (by show w.heap.size < _; omega), World.cell?_alloc_lt _ _ _ (by show w.heap.size < _; omega)]; simp
  · rw [World.cell?_alloc_lt _ _ _ (by show w.heap.size + 1 < _; omega), ← z1]; simp
  · generalize (w.alloc (.cells A1 t1)).alloc (.cells A2 t2) = wB at z2 ⊢
    rw [← z2]; simp
  · rw [frozen_old _ _ _ (by show w.heap.size < _; omega), frozen_old _ _ _ (by show w.heap.size < _; omega)]; exact frozen_new _ _ _ _
  · rw [frozen_old _ _ _ (by show w.heap.size + 1 < _; omega), ← z1]; exact frozen_new _ _ _ _
  · rw [← z2]; exact frozen_new _ _ _ _
theorem Bx.keep {w wr w' : World} {A1 A2 A3 : Array Value} (h : Bx w wr A1 A2 A3) (hb : Below wr.heap.size wr w') : Bx w w' A1 A2 A3 := by
  have hs := h.sz
  exact ⟨fun j => (hb.cell (p := ⟨w.heap.size, j, none⟩) (by show w.heap.size < _; omega)).trans (h.c1 j), fun j => (hb.cell (p := ⟨w.heap.size + 1, j, none⟩) (by show w.heap.size + 1 < _; omega)).trans (h.c2 j), fun j => (hb.cell (p := ⟨w.heap.size + 1 + 1, j, none⟩) hs).trans (h.c3 j),
    fun j => (hb.frozen (p := ⟨w.heap.size, j, none⟩) (by show w.heap.size < _; omega)).trans (h.f1 j), fun j => (hb.frozen (p := ⟨w.heap.size + 1, j, none⟩) (by show w.heap.size + 1 < _; omega)).trans (h.f2 j), fun j => (hb.frozen (p := ⟨w.heap.size + 1 + 1, j, none⟩) hs).trans (h.f3 j),
    by have := hb.size; omega, h.bel.trans (hb.mono h.bel.size)⟩
/-- A pair stored into the first block. -/
theorem Bx.set1 {w wr : World} {x0 x1 : Value} {A2 A3 : Array Value} (h : Bx w wr #[x0, x1] A2 A3) (y0 y1 : Value) : Bx w ((wr.setCell ⟨w.heap.size, 0, none⟩ y0).setCell ⟨w.heap.size, 1, none⟩ y1) #[y0, y1] A2 A3 := by
  have ht : Touch (fun k => k = w.heap.size) wr ((wr.setCell ⟨w.heap.size, 0, none⟩ y0).setCell ⟨w.heap.size, 1, none⟩ y1) := ((Touch.refl (fun k => k = w.heap.size) wr).setCell (p := ⟨w.heap.size, 0, none⟩) (fun _ => rfl) _).setCell (p := ⟨w.heap.size, 1, none⟩) (fun _ => rfl) _
  have hs := h.sz
  have n1 : ¬ w.heap.size + 1 = w.heap.size := by omega
  have n2 : ¬ w.heap.size + 1 + 1 = w.heap.size := by omega
  have c0 : wr.cell? ⟨w.heap.size, 0, none⟩ = some x0 := (h.c1 0).trans rfl
  have c1 : wr.cell? ⟨w.heap.size, 1, none⟩ = some x1 := (h.c1 1).trans rfl
  refine ⟨fun j => ?_, fun j => (ht.cell (p := ⟨w.heap.size + 1, j, none⟩) (by show w.heap.size + 1 < _; omega) n1).trans (h.c2 j), fun j => (ht.cell (p := ⟨w.heap.size + 1 + 1, j, none⟩) hs n2).trans (h.c3 j), fun j => by simpa using h.f1 j, fun j => by simpa using h.f2 j, fun j => by simpa using h.f3 j, by have := ht.size; omega, (h.bel.setCell (by simp) _).setCell (by simp) _⟩
  match j with
  | 0 => rw [World.cell?_setCell_other _ _ _ _ (by simp)]; exact World.cell?_setCell_same _ _ _ c0
  | 1 => exact World.cell?_setCell_same _ _ _ ((World.cell?_setCell_other _ _ _ _ (by simp)).trans c1)
  | j + 2 => rw [World.cell?_setCell_other _ _ _ _ (by simp), World.cell?_setCell_other _ _ _ _ (by simp)]; exact (h.c1 (j + 2)).trans (by simp)
/-- A store behind the three. -/
theorem Bx.far {w wr : World} {A1 A2 A3 : Array Value} (h : Bx w wr A1 A2 A3) {p : Addr} (hp : w.heap.size + 1 + 1 < p.block) (u : Value) : Bx w (wr.setCell p u) A1 A2 A3 := by
  have ht : Touch (fun k => k = p.block) wr (wr.setCell p u) := (Touch.refl (fun k => k = p.block) wr).setCell (p := p) (fun _ => rfl) _
  have hs := h.sz
  exact ⟨fun j => (ht.cell (p := ⟨w.heap.size, j, none⟩) (by show w.heap.size < _; omega) (by show ¬ w.heap.size = _; omega)).trans (h.c1 j), fun j => (ht.cell (p := ⟨w.heap.size + 1, j, none⟩) (by show w.heap.size + 1 < _; omega) (by show ¬ w.heap.size + 1 = _; omega)).trans (h.c2 j), fun j => (ht.cell (p := ⟨w.heap.size + 1 + 1, j, none⟩) hs (by show ¬ w.heap.size + 1 + 1 = _; omega)).trans (h.c3 j),
    fun j => by simpa using h.f1 j, fun j => by simpa using h.f2 j, fun j => by simpa using h.f3 j, by have := ht.size; omega, h.bel.setCell (by omega) _⟩
end Go.Proofs.Ytdkokfpbmmjfkaa
