/-
  The walk of the law RosterPlays.
-/
import Derived.Test.YtcbadcbnknmdnaaWalkRRows
namespace Go.Proofs.Ytcbadcbnknmdnaa
open Go.RowKit
set_option linter.unusedVariables false

theorem chk_drop {n : Nat} {p : Int} {V : List Int} (h : chk n ⟨3, p, V⟩ = 0) : mostP n p V = true := by
  have hr := chk_range h
  simp only at hr
  simp only [chk] at h
  rw [if_neg (by omega)] at h
  split at h
  · omega
  · rw [if_neg (by decide)] at h
    split at h
    · omega
    · split at h
      · omega
      · rename_i h3
        cases hm : mostP n p V with
        | true => rfl
        | false => exact absurd ⟨trivial, hm⟩ h3
theorem withP_one (n : Nat) (e : Int) (q : Chg) (hn : n < 4294967296) (he : 0 ≤ e) : ∃ n2 e2, withP n e [q] = (n2, e2, chk n q) ∧ n2 < 4294967296 ∧ 0 ≤ e2 ∧ e2 ≤ e + 1 ∧ (q.k = 3 → chk n q = 0 → lenP n < 2 * q.v.length ∧ hasP n2 q.p = false) := by
  by_cases h : chk n q = 0
  · refine ⟨doP n q, e + 1, ?_, doP_lt hn h, by omega, by omega, fun hk _ => ?_⟩
    · simp only [withP, runP, h, if_true]; rfl
    · obtain ⟨k, p, v⟩ := q
      simp only at hk
      subst hk
      have hm := chk_drop h
      have hr := chk_range h
      have hh := chk_has h
      simp only at hr hh
      unfold mostP at hm
      simp only [Bool.and_eq_true, decide_eq_true_eq] at hm
      refine ⟨hm.2, ?_⟩
      show hasP (n ^^^ 2 ^ p.toNat) p = false
      rw [has_xor n hr.1 hr.2.1, if_pos rfl]
      have : hasP n p = true := hh
      rw [this]; rfl
  · refine ⟨n, e, ?_, hn, he, by omega, fun _ h0 => absurd h0 h⟩
    simp only [withP, runP, h, if_false]
/-- The law's memory between two rounds. -/
structure RpL (w : World) (R X n : Nat) (e : Int) (a : Option Addr) (c : Nat) (W : World) : Prop where
  r : W.cell? ⟨R, 0, none⟩ = some (.int .u32 (n : Int)) ∧ W.cell? ⟨R, 1, none⟩ = some (.int .i64 e) ∧ W.cell? ⟨X, 0, none⟩ = some (.slice a (lenP n) c) ∧ W.cell? ⟨X, 1, none⟩ = some (.int .i64 e)
  fr : ∀ b j, b = R ∨ b = X → W.frozen? ⟨b, j, none⟩ = false
  row : ActL W (.slice a (lenP n) c) (lstP n)
  off : ∀ x, a = some x → 0 < (lstP n).length → x.block ≠ R ∧ x.block ≠ X
  ne : R ≠ X
  le : w.heap.size ≤ R ∧ w.heap.size ≤ X
  bel : Below w.heap.size w W
theorem RpL.lt {w : World} {R X n : Nat} {e : Int} {a : Option Addr} {c : Nat} {W : World} (h : RpL w R X n e a c W) : R < W.heap.size ∧ X < W.heap.size := ⟨block_lt_of_cell h.r.1, block_lt_of_cell h.r.2.2.1⟩
theorem RpL.keep {w : World} {R X n : Nat} {e : Int} {a : Option Addr} {c : Nat} {W W' : World} (h : RpL w R X n e a c W) (hb : Below W.heap.size W W') : RpL w R X n e a c W' :=
  ⟨keep4i hb h.r, fun b j hbb => (hb.frozen (p := ⟨b, j, none⟩) (by have := h.lt; rcases hbb with rfl | rfl <;> simp only <;> omega)).trans (h.fr b j hbb), h.row.below hb, h.off, h.ne, h.le, h.bel.trans (hb.mono h.bel.size)⟩
structure Both2 (P Q : Prop) : Prop where
  a : P
  b : Q
theorem RpL.next {w : World} {R X n : Nat} {e : Int} {a : Option Addr} {c : Nat} {W : World} (h : RpL w R X n e a c W) (n2 : Nat) (e2 : Int) (a2 : Option Addr) (c2 : Nat) (hrow : ActL W (.slice a2 (lenP n2) c2) (lstP n2)) (ho : ∀ x, a2 = some x → 0 < (lstP n2).length → x.block ≠ R ∧ x.block ≠ X) : RpL w R X n2 e2 a2 c2 ((((W.setCell ⟨R, 0, none⟩ (.int .u32 (n2 : Int))).setCell ⟨R, 1, none⟩ (.int .i64 e2)).setCell ⟨X, 0, none⟩ (.slice a2 (lenP n2) c2)).setCell ⟨X, 1, none⟩ (.int .i64 e2)) := by
  have hne := h.ne
  have hle := h.le
  obtain ⟨q0, q1, q2, q3⟩ := h.r
  refine ⟨⟨?_, ?_, ?_, ?_⟩, fun b j hbb => by simp only [World.frozen?_setCell]; exact h.fr b j hbb, act_set (act_set hrow (fun x hx h9 => (ho x hx h9).1) _ _) (fun x hx h9 => (ho x hx h9).2) _ _, ho, hne, hle, ?_⟩
  · rw [World.cell?_setCell_other _ _ _ _ (by first | (simp; done) | (simp; omega)), World.cell?_setCell_other _ _ _ _ (by first | (simp; done) | (simp; omega)), World.cell?_setCell_other _ _ _ _ (by simp)]
    exact World.cell?_setCell_same' _ _ _ (by rw [q0]; rfl)
  · rw [World.cell?_setCell_other _ _ _ _ (by first | (simp; done) | (simp; omega)), World.cell?_setCell_other _ _ _ _ (by first | (simp; done) | (simp; omega))]
    exact World.cell?_setCell_same' _ _ _ (by rw [World.cell?_setCell_other _ _ _ _ (by simp), q1]; rfl)
  · rw [World.cell?_setCell_other _ _ _ _ (by simp)]
    exact World.cell?_setCell_same' _ _ _ (by rw [World.cell?_setCell_other _ _ _ _ (by first | (simp; done) | (simp; omega)), World.cell?_setCell_other _ _ _ _ (by first | (simp; done) | (simp; omega)), q2]; rfl)
  · exact World.cell?_setCell_same' _ _ _ (by rw [World.cell?_setCell_other _ _ _ _ (by simp), World.cell?_setCell_other _ _ _ _ (by first | (simp; done) | (simp; omega)), World.cell?_setCell_other _ _ _ _ (by first | (simp; done) | (simp; omega)), q3]; rfl)
  · exact (((h.bel.setCell (p := ⟨R, 0, none⟩) hle.1 _).setCell (p := ⟨R, 1, none⟩) hle.1 _).setCell (p := ⟨X, 0, none⟩) hle.2 _).setCell (p := ⟨X, 1, none⟩) hle.2 _
theorem RpL.next' {w : World} {R X n : Nat} {e : Int} {a : Option Addr} {c : Nat} {W : World} (h : RpL w R X n e a c W) (n2 : Nat) (e2 : Int) (a2 : Option Addr) (c2 : Nat) (hrow : ActL W (.slice a2 (lenP n2) c2) (lstP n2)) (ho : ∀ x, a2 = some x → 0 < (lstP n2).length → x.block ≠ R ∧ x.block ≠ X) : RpL w R X n2 e2 a2 c2 ((((W.setCell ⟨X, 0, none⟩ (.slice a2 (lenP n2) c2)).setCell ⟨X, 1, none⟩ (.int .i64 e2)).setCell ⟨R, 0, none⟩ (.int .u32 (n2 : Int))).setCell ⟨R, 1, none⟩ (.int .i64 e2)) := by
  have hne := h.ne
  have hle := h.le
  obtain ⟨q0, q1, q2, q3⟩ := h.r
  refine ⟨⟨?_, ?_, ?_, ?_⟩, fun b j hbb => by simp only [World.frozen?_setCell]; exact h.fr b j hbb, act_set (act_set hrow (fun x hx h9 => (ho x hx h9).2) _ _) (fun x hx h9 => (ho x hx h9).1) _ _, ho, hne, hle, ?_⟩
  · rw [World.cell?_setCell_other _ _ _ _ (by simp)]
    exact World.cell?_setCell_same' _ _ _ (by rw [World.cell?_setCell_other _ _ _ _ (by first | (simp; done) | (simp; omega)), World.cell?_setCell_other _ _ _ _ (by first | (simp; done) | (simp; omega)), q0]; rfl)
  · exact World.cell?_setCell_same' _ _ _ (by rw [World.cell?_setCell_other _ _ _ _ (by simp), World.cell?_setCell_other _ _ _ _ (by first | (simp; done) | (simp; omega)), World.cell?_setCell_other _ _ _ _ (by first | (simp; done) | (simp; omega)), q1]; rfl)
  · rw [World.cell?_setCell_other _ _ _ _ (by first | (simp; done) | (simp; omega)), World.cell?_setCell_other _ _ _ _ (by first | (simp; done) | (simp; omega)), World.cell?_setCell_other _ _ _ _ (by simp)]
    exact World.cell?_setCell_same' _ _ _ (by rw [q2]; rfl)
  · rw [World.cell?_setCell_other _ _ _ _ (by first | (simp; done) | (simp; omega)), World.cell?_setCell_other _ _ _ _ (by first | (simp; done) | (simp; omega))]
    exact World.cell?_setCell_same' _ _ _ (by rw [World.cell?_setCell_other _ _ _ _ (by simp), q3]; rfl)
  · exact (((h.bel.setCell (p := ⟨X, 0, none⟩) hle.2 _).setCell (p := ⟨X, 1, none⟩) hle.2 _).setCell (p := ⟨R, 0, none⟩) hle.1 _).setCell (p := ⟨R, 1, none⟩) hle.1 _
theorem touch_rx {R X : Nat} {w W : World} (h : Touch (fun b => b = R ∨ b = X) w W) (u v y z : Value) : Touch (fun b => b = R ∨ b = X) w ((((W.setCell ⟨R, 0, none⟩ u).setCell ⟨R, 1, none⟩ v).setCell ⟨X, 0, none⟩ y).setCell ⟨X, 1, none⟩ z) ∧ Touch (fun b => b = R ∨ b = X) w ((((W.setCell ⟨X, 0, none⟩ y).setCell ⟨X, 1, none⟩ z).setCell ⟨R, 0, none⟩ u).setCell ⟨R, 1, none⟩ v) :=
  ⟨(((h.setCell (p := ⟨R, 0, none⟩) (fun _ => .inl rfl) _).setCell (p := ⟨R, 1, none⟩) (fun _ => .inl rfl) _).setCell (p := ⟨X, 0, none⟩) (fun _ => .inr rfl) _).setCell (p := ⟨X, 1, none⟩) (fun _ => .inr rfl) _, (((h.setCell (p := ⟨X, 0, none⟩) (fun _ => .inr rfl) _).setCell (p := ⟨X, 1, none⟩) (fun _ => .inr rfl) _).setCell (p := ⟨R, 0, none⟩) (fun _ => .inl rfl) _).setCell (p := ⟨R, 1, none⟩) (fun _ => .inl rfl) _⟩
end Go.Proofs.Ytcbadcbnknmdnaa
