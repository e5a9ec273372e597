/-
  Layer 4: the functions and the image that the law VerifyPlain makes.
-/
import Derived.Test.YtmonbjlkkhpinaaDoorPlainMath
import Derived.Test.YtmonbjlkkhpinaaDoorAwake4
namespace Go.Proofs.YtmonbjlkkhpinaaDoor
open Go.RowKit
set_option linter.unusedVariables false

set_option maxHeartbeats 2000000 in
theorem plainF_any (n : Int) (w : World) : Calls Tryd.prog 35 #[.int .i64 n] w (SmallPost n w) := by
  go_enter Tryd.func35, Tryd.ntmps35
  go_wp2_with fail
  refine (of_none 17 _).mono ?_
  rintro e w1 ⟨rfl, hb1⟩
  go_wp2_with fail
  refine (of_none 16 _).mono ?_
  rintro e w2 ⟨rfl, hb2⟩
  have hz1 := hb1.size
  simp at hz1
  have hz2 := hb2.size
  have hbA : Below (w.alloc (.cells #[.int .i64 0, .int .i64 0, .slice none 0 0] 29)).heap.size (w.alloc (.cells #[.int .i64 0, .int .i64 0, .slice none 0 0] 29)) w2 := hb1.trans (hb2.mono hb1.size)
  have HBA := Lib.hid hbA
  clear hb1 hb2 hbA
  go_wp2_with fail
  refine (make_any n n (some ⟨w2.heap.size, 0, none⟩) 2 load0 _ (by decide) (InsRow.lit w2 load0 _ _ rfl) (fun h => by cases h)).mono ?_
  rintro e w3 ⟨x, c, rfl, ho, hf, hb3⟩
  have hbB : Below (w.alloc (.cells #[.int .i64 0, .int .i64 0, .slice none 0 0] 29)).heap.size (w.alloc (.cells #[.int .i64 0, .int .i64 0, .slice none 0 0] 29)) w3 := (HBA.out.alloc HBA.out.size _).trans (hb3.mono (by have := HBA.out.size; simp at this ⊢; omega))
  have hz3 := hb3.size
  simp at hz3
  have q0 : w3.cell? ⟨w.heap.size, 0, none⟩ = some (.int .i64 0) := (hbB.cell (p := ⟨w.heap.size, 0, none⟩) (by simp)).trans (by simp)
  have q1 : w3.cell? ⟨w.heap.size, 1, none⟩ = some (.int .i64 0) := (hbB.cell (p := ⟨w.heap.size, 1, none⟩) (by simp)).trans (by simp)
  have q2 : w3.cell? ⟨w.heap.size, 2, none⟩ = some (.slice none 0 0) := (hbB.cell (p := ⟨w.heap.size, 2, none⟩) (by simp)).trans (by simp)
  have z0 : w3.frozen? ⟨w.heap.size, 0, none⟩ = false := (hbB.frozen (p := ⟨w.heap.size, 0, none⟩) (by simp)).trans (frozen_new _ _ _ _)
  have z1 : w3.frozen? ⟨w.heap.size, 1, none⟩ = false := (hbB.frozen (p := ⟨w.heap.size, 1, none⟩) (by simp)).trans (frozen_new _ _ _ _)
  have z2 : w3.frozen? ⟨w.heap.size, 2, none⟩ = false := (hbB.frozen (p := ⟨w.heap.size, 2, none⟩) (by simp)).trans (frozen_new _ _ _ _)
  have hl := block_lt_of_cell q0
  have HIR := Lib.hid (made_res (n := n) q0 ho (fun k hk => by have := hf k hk; simp at this; omega) (.int .i64 n) (.int .i64 n) (.slice x load0.length c))
  have HB := Lib.hid (show Below w.heap.size w w3 from ((Below.refl _ w).alloc (Nat.le_refl _) _).trans (hbB.mono (by simp)))
  clear ho hf hb3 hbB HBA
  go_wp2
  exact bodyPost_ret (v := .agg #[.int .i64 n, .int .i64 n, .slice x 2 c]) (by simp [results, Tryd.results35, go_sem, q0, q1, q2]; rfl) rfl ⟨x, c, rfl, HIR.out, ((HB.out.setCell (by simp) _).setCell (by simp) _).setCell (by simp) _⟩
theorem FnRow.lit3 (w : World) (f g h : Fn) (x : Option Addr) (c : Nat) (y : Option Addr) (d : Nat) (z : Option Addr) (e : Nat) (t : TypeId) (hr : InsRow w x f.code) (hs : InsRow w y g.code) (hq : InsRow w z h.code) : FnRow (w.alloc (.cells #[.int .i64 f.args, .int .i64 f.locals, .slice x f.code.length c, .int .i64 g.args, .int .i64 g.locals, .slice y g.code.length d, .int .i64 h.args, .int .i64 h.locals, .slice z h.code.length e] t)) (some ⟨w.heap.size, 0, none⟩) [f, g, h] := by
  intro _
  refine ⟨w.heap.size, 0, rfl, fun i hi => ?_⟩
  have hb : Below w.heap.size w (w.alloc (.cells #[.int .i64 f.args, .int .i64 f.locals, .slice x f.code.length c, .int .i64 g.args, .int .i64 g.locals, .slice y g.code.length d, .int .i64 h.args, .int .i64 h.locals, .slice z h.code.length e] t)) := (Below.refl _ _).alloc (Nat.le_refl _) _
  match i, hi with
  | 0, _ => exact ⟨by simp, by simp, x, c, by simp, hr.below hb⟩
  | 1, _ => exact ⟨by simp, by simp, y, d, by simp, hs.below hb⟩
  | 2, _ => exact ⟨by simp, by simp, z, e, by simp, hq.below hb⟩
def plainM (n p : Nat) : List Fn := [⟨1, 1, load0⟩, ⟨4, 4, load0⟩, ⟨0, 0, plainC n p⟩]
theorem plain_ok (n p : Nat) (h : n + p + 1 ≤ 128) : ImgOk (plainM n p) := by
  have hl : (plainC n p).length = n + (p + 1) := by simp [plainC]
  refine ⟨by simp [plainM], fun f hf => ?_⟩
  simp only [plainM, List.mem_cons, List.not_mem_nil, or_false] at hf
  rcases hf with rfl | rfl | rfl
  · refine ⟨by decide, by decide, by decide, by decide, by decide, fun x hx => ?_⟩
    simp [load0] at hx
    rcases hx with rfl | rfl <;> exact ⟨by decide, by decide, by decide⟩
  · refine ⟨by decide, by decide, by decide, by decide, by decide, fun x hx => ?_⟩
    simp [load0] at hx
    rcases hx with rfl | rfl <;> exact ⟨by decide, by decide, by decide⟩
  · refine ⟨by simp, by simp, by simp, by simp, by simp only [hl]; omega, fun x hx => ?_⟩
    simp only [plainC, List.mem_append, List.mem_replicate, List.mem_singleton] at hx
    rcases hx with ⟨_, rfl⟩ | ⟨_, rfl⟩ | rfl <;> exact ⟨by decide, by decide, by decide⟩
theorem plainM_check (n p : Nat) (h : n + p + 1 ≤ 128) : ∃ x : Int, checkS (plainM n p) = if n ≤ 64 ∧ n = p + 1 then ((0, 0), 0) else ((2, x), 14) := plain_check n p h
end Go.Proofs.YtmonbjlkkhpinaaDoor
