/-
  Layer 13: the document's own: one more is sent.
-/
import Derived.Test.YtcbadcbnknmdnaaDoorVApp
namespace Go.Proofs.YtcbadcbnknmdnaaDoor
open Go.RowKit
set_option linter.unusedVariables false

section
variable {P : Program} (w : World)
theorem step_app_ex {ops : Array Oper} {o : Oper} {a : Act} {K : Act → World → Prop} {Q : Exit → Act → World → Prop} {E : Prop} (hgd : o.guard = none) (s x : Operand) (t u : TypeId)
    (ho : o.op = .call { callee := .builtin .append, args := #[s, x], argTypes := #[t, u] }) (v xv : Value) (hs : a.eval s = v) (hx : a.eval x = xv) (n : Nat) (R : Option Addr → Nat → World → Prop)
    (hr : ∃ a' c' w', (Builtin.append_ #[t, u] o.type #[v, xv]).run P w = .ok (.slice a' n c') w' ∧ R a' c' w') (h : ∀ a' c' w', R a' c' w' → K (a.put o.dst (.slice a' n c')) w') : if Region.wanted o (yielded ops a.tmps) = true then Oper.wp P o a w K Q else E := by
  obtain ⟨a', c', w', hrun, hR⟩ := hr
  exact step_append_run w hgd s x t u ho v xv hs hx (.slice a' n c') w' hrun (h a' c' w' hR)
end
theorem lit13 {X : World} {k : Nat} (n : Nat) (t : List UInt8) (ty : TypeId) (hk : k = X.heap.size) : RRow (X.alloc (.cells #[.int .i64 (n : Int), .string (bs t)] ty)) (some ⟨k, 0, none⟩) [(n, t)] := by
  subst hk
  intro _
  refine ⟨_, _, rfl, fun i hi j hj => ?_⟩
  obtain rfl : i = 0 := by simpa using hi
  have : j = 0 ∨ j = 1 := by omega
  rcases this with rfl | rfl <;> simp [riC]
theorem RRow.drew {w : World} {a : Option Addr} {l : Its} (h : RRow w a l) : RRow w.drew a l := h
theorem k2b13 {W0 w' : World} (hb : Below W0.heap.size W0 w') {T : Nat} {t0 t1 : Value} (h : W0.cell? ⟨T, 0, none⟩ = some t0 ∧ W0.cell? ⟨T, 1, none⟩ = some t1) : w'.cell? ⟨T, 0, none⟩ = some t0 ∧ w'.cell? ⟨T, 1, none⟩ = some t1 :=
  ⟨(hb.cell (p := ⟨T, 0, none⟩) (block_lt_of_cell h.1)).trans h.1, (hb.cell (p := ⟨T, 1, none⟩) (block_lt_of_cell h.2)).trans h.2⟩
theorem set2_touch (w : World) (R : Nat) (x y : Value) : Touch (fun b => b = R) w ((w.setCell ⟨R, 0, none⟩ x).setCell ⟨R, 1, none⟩ y) :=
  ((Touch.refl (fun b => b = R) w).setCell (p := ⟨R, 0, none⟩) (fun _ => rfl) _).setCell (p := ⟨R, 1, none⟩) (fun _ => rfl) _
theorem k2s13 {w : World} {T R : Nat} {t0 t1 x y : Value} (hT : T ≠ R) (h : w.cell? ⟨T, 0, none⟩ = some t0 ∧ w.cell? ⟨T, 1, none⟩ = some t1) : ((w.setCell ⟨R, 0, none⟩ x).setCell ⟨R, 1, none⟩ y).cell? ⟨T, 0, none⟩ = some t0 ∧ ((w.setCell ⟨R, 0, none⟩ x).setCell ⟨R, 1, none⟩ y).cell? ⟨T, 1, none⟩ = some t1 :=
  ⟨((set2_touch w R x y).cell (p := ⟨T, 0, none⟩) (block_lt_of_cell h.1) hT).trans h.1, ((set2_touch w R x y).cell (p := ⟨T, 1, none⟩) (block_lt_of_cell h.2) hT).trans h.2⟩
/-- What is stored into a block of the call's own changes nothing of a row. -/
theorem RNew.set2 {w : World} {a0 a : Option Addr} {c : Nat} {L : Its} {w1 : World} (h : RNew w a0 a c L w1) {R : Nat} (hR : w.heap.size ≤ R) (ha : ∀ x, a = some x → x.block ≠ R) (x y : Value) : RNew w a0 a c L ((w1.setCell ⟨R, 0, none⟩ x).setCell ⟨R, 1, none⟩ y) := by
  have ht := set2_touch w1 R x y
  refine ⟨h.row.touch ht ha, h.nn, h.cap, h.cmax, h.fresh.imp id (fun g x hx => ⟨(g x hx).1, by have := (g x hx).2; have := ht.size; omega⟩), h.bel.trans (ht.below h.bel.size fun k hk e => by omega)⟩
def R13Post (w : World) (a0 : Option Addr) (n : Nat) (L : Its) (q : Value) (r : Ending) (w' : World) : Prop :=
  ∃ a c, r = .returned (.tuple #[.agg #[.int .i64 (n : Int), .slice a L.length c], q]) ∧ RNew w a0 a c L w'
theorem frozen_new13 (W : World) (n : Nat) (h : n = W.heap.size) (cs : Array Value) (t : TypeId) (j : Nat) : (W.alloc (.cells cs t)).frozen? ⟨n, j, none⟩ = false := by subst h; exact frozen_new _ _ _ _
/-- What came, at T; the answer's box, at T + 1. -/
structure Pu13 (w : World) (n N : Nat) (a : Option Addr) (c : Nat) (wx : World) : Prop where
  t0 : wx.cell? ⟨w.heap.size, 0, none⟩ = some (.int .i64 (n : Int))
  t1 : wx.cell? ⟨w.heap.size, 1, none⟩ = some (.slice a N c)
  r0 : wx.cell? ⟨w.heap.size + 1, 0, none⟩ = some (.int .i64 0)
  r1 : wx.cell? ⟨w.heap.size + 1, 1, none⟩ = some (.slice none 0 0)
  z0 : wx.frozen? ⟨w.heap.size + 1, 0, none⟩ = false
  z1 : wx.frozen? ⟨w.heap.size + 1, 1, none⟩ = false
  bel : Below w.heap.size w wx
theorem pu13 (w : World) (n N : Nat) (a : Option Addr) (c nq : Nat) (y1 y2 : TypeId) : Pu13 w n N a c (((w.alloc (.cells #[.int .i64 (n : Int), .slice a N c] y1)).alloc (.cells #[.int .i64 0, .slice none 0 0] y2)).drewN nq) := by
  have hA : Below w.heap.size w ((w.alloc (.cells #[.int .i64 (n : Int), .slice a N c] y1)).alloc (.cells #[.int .i64 0, .slice none 0 0] y2)) := bel_alloc (bel_alloc (Below.refl _ _) _) _
  refine ⟨?_, ?_, ?_, ?_, ?_, ?_, hA.trans ((drewN_bel _ nq).mono hA.size)⟩
  · exact alloc_cell (new_cell rfl rfl) _
  · exact alloc_cell (new_cell rfl rfl) _
  · exact new_cell (by simp) rfl
  · exact new_cell (by simp) rfl
  · exact frozen_new13 _ _ (by simp) _ _ _
  · exact frozen_new13 _ _ (by simp) _ _ _
end Go.Proofs.YtcbadcbnknmdnaaDoor
