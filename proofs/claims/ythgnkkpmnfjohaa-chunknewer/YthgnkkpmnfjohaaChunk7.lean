/-
  Layer 11: a piece out of bytes.
-/
import Derived.Test.YthgnkkpmnfjohaaChunk6
import Derived.Test.YthgnkkpmnfjohaaChunk4
namespace Go.Proofs.Ythgnkkpmnfjohaa
open Go.RowKit
set_option linter.unusedVariables false

def zeroPc : Pc := ⟨0, 0, 0, 0, []⟩
/-- What is answered: the piece, or, beside an error, none. -/
def pcOr (t : St × Pc) : Pc := if t.1.2 = 0 then t.2 else zeroPc
theorem stxS_len (st : St) : (stxS 100 st).2.length ≤ 1000000 := by
  show (rawS (countS st 100).1 ((countS st 100).2 : Int)).2.length ≤ 1000000
  have h := countS_le st 100
  have h' : (countS st 100).2 ≤ 100 := h
  unfold rawS
  split
  · simp
  · simp only [List.length_take]; omega
/-- A piece's box: its cells. -/
structure PBox (X : Nat) (v0 v1 v2 v3 v4 : Value) (w : World) : Prop where
  c0 : w.cell? ⟨X, 0, none⟩ = some v0
  c1 : w.cell? ⟨X, 1, none⟩ = some v1
  c2 : w.cell? ⟨X, 2, none⟩ = some v2
  c3 : w.cell? ⟨X, 3, none⟩ = some v3
  c4 : w.cell? ⟨X, 4, none⟩ = some v4
  f : ∀ j, w.frozen? ⟨X, j, none⟩ = false
theorem PBox.lt {X : Nat} {v0 v1 v2 v3 v4 : Value} {w : World} (h : PBox X v0 v1 v2 v3 v4 w) : X < w.heap.size := block_lt_of_cell h.c0
theorem PBox.touch {S : Nat → Prop} {X : Nat} {v0 v1 v2 v3 v4 : Value} {w w' : World} (h : PBox X v0 v1 v2 v3 v4 w) (ht : Touch S w w') (hs : ¬ S X) : PBox X v0 v1 v2 v3 v4 w' :=
  ⟨(ht.cell (p := ⟨X, 0, none⟩) h.lt hs).trans h.c0, (ht.cell (p := ⟨X, 1, none⟩) h.lt hs).trans h.c1, (ht.cell (p := ⟨X, 2, none⟩) h.lt hs).trans h.c2, (ht.cell (p := ⟨X, 3, none⟩) h.lt hs).trans h.c3, (ht.cell (p := ⟨X, 4, none⟩) h.lt hs).trans h.c4, fun j => (ht.frozen (p := ⟨X, j, none⟩) h.lt hs).trans (h.f j)⟩
theorem PBox.new (W : World) (X : Nat) (hX : W.heap.size = X) (v0 v1 v2 v3 v4 : Value) (t : TypeId) : PBox X v0 v1 v2 v3 v4 (W.alloc (.cells #[v0, v1, v2, v3, v4] t)) := by
  subst hX
  exact ⟨by simp, by simp, by simp, by simp, by simp, fun j => frozen_new _ _ _ _⟩
theorem PBox.set0 {X : Nat} {v0 v1 v2 v3 v4 : Value} {w : World} (h : PBox X v0 v1 v2 v3 v4 w) (x y : Value) : PBox X x y v2 v3 v4 ((w.setCell ⟨X, 0, none⟩ x).setCell ⟨X, 1, none⟩ y) :=
  ⟨(World.cell?_setCell_other _ _ _ _ (by simp)).trans (World.cell?_setCell_same _ _ _ h.c0), World.cell?_setCell_same _ _ _ ((World.cell?_setCell_other _ _ _ _ (by simp)).trans h.c1),
    (World.cell?_setCell_other _ _ _ _ (by simp)).trans ((World.cell?_setCell_other _ _ _ _ (by simp)).trans h.c2), (World.cell?_setCell_other _ _ _ _ (by simp)).trans ((World.cell?_setCell_other _ _ _ _ (by simp)).trans h.c3), (World.cell?_setCell_other _ _ _ _ (by simp)).trans ((World.cell?_setCell_other _ _ _ _ (by simp)).trans h.c4), fun j => by simpa using h.f j⟩
theorem PBox.set2 {X : Nat} {v0 v1 v2 v3 v4 : Value} {w : World} (h : PBox X v0 v1 v2 v3 v4 w) (x : Value) : PBox X v0 v1 x v3 v4 (w.setCell ⟨X, 2, none⟩ x) :=
  ⟨(World.cell?_setCell_other _ _ _ _ (by simp)).trans h.c0, (World.cell?_setCell_other _ _ _ _ (by simp)).trans h.c1, World.cell?_setCell_same _ _ _ h.c2, (World.cell?_setCell_other _ _ _ _ (by simp)).trans h.c3, (World.cell?_setCell_other _ _ _ _ (by simp)).trans h.c4, fun j => by simpa using h.f j⟩
theorem PBox.set3 {X : Nat} {v0 v1 v2 v3 v4 : Value} {w : World} (h : PBox X v0 v1 v2 v3 v4 w) (x : Value) : PBox X v0 v1 v2 x v4 (w.setCell ⟨X, 3, none⟩ x) :=
  ⟨(World.cell?_setCell_other _ _ _ _ (by simp)).trans h.c0, (World.cell?_setCell_other _ _ _ _ (by simp)).trans h.c1, (World.cell?_setCell_other _ _ _ _ (by simp)).trans h.c2, World.cell?_setCell_same _ _ _ h.c3, (World.cell?_setCell_other _ _ _ _ (by simp)).trans h.c4, fun j => by simpa using h.f j⟩
theorem PBox.set4 {X : Nat} {v0 v1 v2 v3 v4 : Value} {w : World} (h : PBox X v0 v1 v2 v3 v4 w) (x : Value) : PBox X v0 v1 v2 v3 x (w.setCell ⟨X, 4, none⟩ x) :=
  ⟨(World.cell?_setCell_other _ _ _ _ (by simp)).trans h.c0, (World.cell?_setCell_other _ _ _ _ (by simp)).trans h.c1, (World.cell?_setCell_other _ _ _ _ (by simp)).trans h.c2, (World.cell?_setCell_other _ _ _ _ (by simp)).trans h.c3, World.cell?_setCell_same _ _ _ h.c4, fun j => by simpa using h.f j⟩
/-- The reader at b, the answer's box, the piece's box behind it. -/
structure PrMem (w : World) (b : Nat) (st : St) (v0 v1 v2 v3 v4 : Value) (wr : World) : Prop where
  inst : InSt wr b st
  rb : PBox w.heap.size (.int .i64 0) (.int .i64 0) (.int .u64 0) (.int .i64 0) (.string ⟨#[]⟩) wr
  pb : PBox (w.heap.size + 1) v0 v1 v2 v3 v4 wr
  tch : Touch (fun k => k = b) w wr
theorem PrMem.read {w : World} {b : Nat} {st st' : St} {v0 v1 v2 v3 v4 : Value} {wr w' : World} (h : PrMem w b st v0 v1 v2 v3 v4 wr) (hb : b < w.heap.size) (hi : InTo wr b st' w') : PrMem w b st' v0 v1 v2 v3 v4 w' :=
  ⟨hi.1, h.rb.touch hi.2 (by show ¬ w.heap.size = b; omega), h.pb.touch hi.2 (by show ¬ w.heap.size + 1 = b; omega), h.tch.trans hi.2⟩
theorem PrMem.keep {w : World} {b : Nat} {st : St} {v0 v1 v2 v3 v4 : Value} {wr w' : World} (h : PrMem w b st v0 v1 v2 v3 v4 wr) (hb : Below wr.heap.size wr w') : PrMem w b st v0 v1 v2 v3 v4 w' :=
  ⟨h.inst.below hb, h.rb.touch (touch_of_below (S := fun _ => False) hb) id, h.pb.touch (touch_of_below (S := fun _ => False) hb) id, h.tch.trans (touch_of_below hb)⟩
theorem PrMem.put {w : World} {b : Nat} {st : St} {v0 v1 v2 v3 v4 u0 u1 u2 u3 u4 : Value} {wr w' : World} (h : PrMem w b st v0 v1 v2 v3 v4 wr) (hb : b < w.heap.size) (ht : Touch (fun k => k = w.heap.size + 1) wr w') (hp : PBox (w.heap.size + 1) u0 u1 u2 u3 u4 w') : PrMem w b st u0 u1 u2 u3 u4 w' :=
  ⟨h.inst.touch ht (by show ¬ b = w.heap.size + 1; omega), h.rb.touch ht (by show ¬ w.heap.size = w.heap.size + 1; omega), hp, h.tch.trans' ht (fun j hj e => by omega)⟩
theorem PrMem.fin {w : World} {b : Nat} {st : St} {v0 v1 v2 v3 v4 : Value} {wr : World} (h : PrMem w b st v0 v1 v2 v3 v4 wr) (hb : b < w.heap.size) (u0 u1 u2 u3 u4 : Value) : InTo w b st (set5 wr w.heap.size u0 u1 u2 u3 u4) := by
  have hs := set5_touch wr w.heap.size u0 u1 u2 u3 u4
  exact ⟨h.inst.touch hs (by show ¬ b = w.heap.size; omega), h.tch.trans' hs (fun j hj e => by omega)⟩
end Go.Proofs.Ythgnkkpmnfjohaa
