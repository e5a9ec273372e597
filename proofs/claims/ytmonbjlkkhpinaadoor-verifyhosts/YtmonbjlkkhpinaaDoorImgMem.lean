/-
  An image that grows in memory: functions of one's own, one behind the other; a function that grows; instructions of one's own.
-/
import Derived.Test.YtmonbjlkkhpinaaDoorCodeParse
namespace Go.Proofs.YtmonbjlkkhpinaaDoor
open Go.RowKit
set_option linter.unusedVariables false

/-- At block O lies a list of functions that grows: all that is theirs lies from B on. -/
structure ImgAt (B O : Nat) (l : List Pf) (a : Option Addr) (c : Nat) (wr : World) : Prop where
  row : wr.ownsRow 0 29 3 (.slice a l.length c) l.length (pfsCells l)
  rows : ∀ p ∈ l, InsRow wr p.x p.fn.code
  m0 : wr.cell? ⟨O, 0, none⟩ = some (.slice a l.length c)
  z0 : wr.frozen? ⟨O, 0, none⟩ = false
  own : ∀ k, (Value.slice a l.length c).ownBlock = some k → B ≤ k ∧ k ≠ O ∧ ∀ p ∈ l, p.val.ownBlock ≠ some k
  owns : ∀ p ∈ l, ∀ k, p.val.ownBlock = some k → B ≤ k ∧ k ≠ O ∧ k < wr.heap.size
  hO : B ≤ O
  lt : O < wr.heap.size
theorem ImgAt.below {B O : Nat} {l : List Pf} {a : Option Addr} {c : Nat} {wr wq : World} (h : ImgAt B O l a c wr) (hb : Below wr.heap.size wr wq) : ImgAt B O l a c wq :=
  ⟨own_touch h.row (touch_of_below (S := fun _ => False) hb) (fun _ _ => id), fun p hp => (h.rows p hp).below hb, (hb.cell (p := ⟨O, 0, none⟩) h.lt).trans h.m0, (hb.frozen (p := ⟨O, 0, none⟩) h.lt).trans h.z0, h.own, fun p hp k hk => by
    have h1 := h.owns p hp k hk
    exact ⟨h1.1, h1.2.1, Nat.lt_of_lt_of_le h1.2.2 hb.size⟩, h.hO, Nat.lt_of_lt_of_le h.lt hb.size⟩
theorem ImgAt.start (w : World) (t : TypeId) : ImgAt w.heap.size w.heap.size [] none 0 (w.alloc (.cells #[.slice none 0 0] t)) :=
  ⟨World.ownsRow_nil _ _ _ _, by simp, by simp, frozen_new _ _ _ _, fun k hk => by simp [Value.ownBlock] at hk, by simp, Nat.le_refl _, by simp⟩
theorem ImgAt.push {B O : Nat} {l : List Pf} {a : Option Addr} {c : Nat} {w4 : World} (h : ImgAt B O l a c w4) (p : Pf) (hp : InsRow w4 p.x p.fn.code) (hpo : ∀ k, p.val.ownBlock = some k → B ≤ k ∧ k ≠ O ∧ k < w4.heap.size ∧ (Value.slice a l.length c).ownBlock ≠ some k) (hl : l.length ≤ 1000) :
    ∃ a5 c5 w5, (Builtin.append_ #[22, 22] 22 #[.slice a l.length c, .slice (some ⟨w4.heap.size, 0, none⟩) 1 1]).run Tryd.prog (w4.alloc (.cells #[.int .i64 p.fn.args, .int .i64 p.fn.locals, .slice p.x p.fn.code.length p.c] 29)) = .ok (.slice a5 (l.length + 1) c5) w5 ∧
      w5.cell? ⟨O, 0, none⟩ = some (.slice a l.length c) ∧ w5.frozen? ⟨O, 0, none⟩ = false ∧ O < w5.heap.size ∧ ImgAt B O (l ++ [p]) a5 c5 (w5.setCell ⟨O, 0, none⟩ (.slice a5 (l.length + 1) c5)) ∧ Below B w4 (w5.setCell ⟨O, 0, none⟩ (.slice a5 (l.length + 1) c5)) := by
  obtain ⟨v5, w5, hrun, ho5, hg5, hf5⟩ := fn_append h.row p (by omega)
  obtain ⟨a5, c5, rfl⟩ := own_slice ho5
  have ht5 : Touch (fun k => (Value.slice a l.length c).ownBlock = some k) w4 w5 := ((Touch.refl _ w4).alloc _).trans (touch_grown hg5)
  have hz5 := ht5.size
  have hOl := h.lt
  have hOB := h.hO
  have hrl : ∀ k, (Value.slice a l.length c).ownBlock = some k → k < w4.heap.size := fun k hk => (h.row.lt k hk).2
  have nO : ¬ (Value.slice a l.length c).ownBlock = some O := fun e => (h.own O e).2.1 rfl
  have kc5 : w5.cell? ⟨O, 0, none⟩ = some (.slice a l.length c) := (ht5.cell (p := ⟨O, 0, none⟩) hOl nO).trans h.m0
  have kf5 : w5.frozen? ⟨O, 0, none⟩ = false := (ht5.frozen (p := ⟨O, 0, none⟩) hOl nO).trans h.z0
  have hS : Touch (fun k => k = O) w5 (w5.setCell ⟨O, 0, none⟩ (.slice a5 (l.length + 1) c5)) := (Touch.refl (fun k => k = O) w5).setCell (p := ⟨O, 0, none⟩) (fun _ => rfl) _
  have hzS := hS.size
  have hll : (l ++ [p]).length = l.length + 1 := by simp
  refine ⟨a5, c5, w5, hrun, kc5, kf5, by omega, ⟨?_, ?_, ?_, ?_, ?_, ?_, hOB, by omega⟩, (ht5.below (by omega) (fun k hk e => by have := (h.own k e).1; omega)).trans (hS.below (by omega) (fun k hk e => by omega))⟩
  · rw [hll]
    refine own_touch ho5 hS (fun k hk e => ?_)
    rcases hf5 k hk with h' | h'
    · exact (h.own k h').2.1 e
    · omega
  · intro q hq
    rcases List.mem_append.1 hq with hq | hq
    · exact ((h.rows q hq).touch' ht5 (fun k hk e => (h.own k e).2.2 q hq hk)).touch' hS (fun k hk => (h.owns q hq k hk).2.1)
    · simp at hq
      subst hq
      exact (hp.touch' ht5 (fun k hk => (hpo k hk).2.2.2)).touch' hS (fun k hk => (hpo k hk).2.1)
  · rw [hll]; exact World.cell?_setCell_same _ _ _ kc5
  · simpa using kf5
  · rw [hll]
    intro k hk
    rcases hf5 k hk with h' | h'
    · have hk1 := h.own k h'
      refine ⟨hk1.1, hk1.2.1, fun q hq => ?_⟩
      rcases List.mem_append.1 hq with hq | hq
      · exact hk1.2.2 q hq
      · simp at hq
        subst hq
        exact fun e => (hpo k e).2.2.2 h'
    · refine ⟨by omega, by omega, fun q hq => ?_⟩
      rcases List.mem_append.1 hq with hq | hq
      · exact fun e => by have := (h.owns q hq k e).2.2; omega
      · simp at hq
        subst hq
        exact fun e => by have := (hpo k e).2.2.1; omega
  · intro q hq k hk
    rcases List.mem_append.1 hq with hq | hq
    · have h1 := h.owns q hq k hk
      exact ⟨h1.1, h1.2.1, by omega⟩
    · simp at hq
      subst hq
      have h1 := hpo k hk
      exact ⟨h1.1, h1.2.1, by omega⟩
/-- A store into a block below B. -/
theorem ImgAt.far {B O : Nat} {l : List Pf} {a : Option Addr} {c : Nat} {wr : World} (h : ImgAt B O l a c wr) {p : Addr} (hp : p.block < B) (u : Value) : ImgAt B O l a c (wr.setCell p u) := by
  have ht : Touch (fun k => k = p.block) wr (wr.setCell p u) := (Touch.refl (fun k => k = p.block) wr).setCell (p := p) (fun _ => rfl) _
  have hO := h.hO
  have hOp : ¬ O = p.block := by omega
  refine ⟨own_touch h.row ht (fun k hk e => by have := (h.own k hk).1; omega), fun q hq => (h.rows q hq).touch' ht (fun k hk e => by have := (h.owns q hq k hk).1; omega), (ht.cell (p := ⟨O, 0, none⟩) h.lt hOp).trans h.m0, (ht.frozen (p := ⟨O, 0, none⟩) h.lt hOp).trans h.z0, h.own, fun q hq k hk => ?_, hO, Nat.lt_of_lt_of_le h.lt ht.size⟩
  have h1 := h.owns q hq k hk
  exact ⟨h1.1, h1.2.1, Nat.lt_of_lt_of_le h1.2.2 ht.size⟩
theorem ImgAt.fns {B O : Nat} {l : List Pf} {a : Option Addr} {c : Nat} {wr : World} (h : ImgAt B O l a c wr) : FnRow wr a (l.map (·.fn)) := FnRow.of_pf (c := c) h.row h.rows
/-- At block F lies a function whose instructions grow: they lie behind F. -/
structure FnAt (F : Nat) (ar lo : Int) (l : List (Nat × Int)) (a : Option Addr) (c : Nat) (wr : World) : Prop where
  row : wr.ownsRow 0 47 2 (.slice a l.length c) l.length (codeCells l)
  f0 : wr.cell? ⟨F, 0, none⟩ = some (.int .i64 ar)
  f1 : wr.cell? ⟨F, 1, none⟩ = some (.int .i64 lo)
  f2 : wr.cell? ⟨F, 2, none⟩ = some (.slice a l.length c)
  z2 : wr.frozen? ⟨F, 2, none⟩ = false
  own : ∀ k, (Value.slice a l.length c).ownBlock = some k → F < k
  lt : F < wr.heap.size
theorem FnAt.start (w : World) (ar lo : Int) (t : TypeId) : FnAt w.heap.size ar lo [] none 0 (w.alloc (.cells #[.int .i64 ar, .int .i64 lo, .slice none 0 0] t)) :=
  ⟨World.ownsRow_nil _ _ _ _, by simp, by simp, by simp, frozen_new _ _ _ _, fun k hk => by simp [Value.ownBlock] at hk, by simp⟩
theorem FnAt.below {F : Nat} {ar lo : Int} {l : List (Nat × Int)} {a : Option Addr} {c : Nat} {wr wq : World} (h : FnAt F ar lo l a c wr) (hb : Below wr.heap.size wr wq) : FnAt F ar lo l a c wq :=
  ⟨own_touch h.row (touch_of_below (S := fun _ => False) hb) (fun _ _ => id), (hb.cell (p := ⟨F, 0, none⟩) h.lt).trans h.f0, (hb.cell (p := ⟨F, 1, none⟩) h.lt).trans h.f1, (hb.cell (p := ⟨F, 2, none⟩) h.lt).trans h.f2, (hb.frozen (p := ⟨F, 2, none⟩) h.lt).trans h.z2, h.own, Nat.lt_of_lt_of_le h.lt hb.size⟩
theorem FnAt.push {F : Nat} {ar lo : Int} {l : List (Nat × Int)} {a : Option Addr} {c : Nat} {w4 : World} (h : FnAt F ar lo l a c w4) (op : Nat) (ag : Int) (hl : l.length ≤ 1000) :
    ∃ a5 c5 w5, (Builtin.append_ #[27, 27] 27 #[.slice a l.length c, .slice (some ⟨w4.heap.size, 0, none⟩) 1 1]).run Tryd.prog (w4.alloc (.cells #[.int .u8 op, .int .i64 ag] 47)) = .ok (.slice a5 (l.length + 1) c5) w5 ∧
      w5.cell? ⟨F, 2, none⟩ = some (.slice a l.length c) ∧ w5.frozen? ⟨F, 2, none⟩ = false ∧ F < w5.heap.size ∧ FnAt F ar lo (l ++ [(op, ag)]) a5 c5 (w5.setCell ⟨F, 2, none⟩ (.slice a5 (l.length + 1) c5)) ∧ Below F w4 (w5.setCell ⟨F, 2, none⟩ (.slice a5 (l.length + 1) c5)) := by
  obtain ⟨v5, w5, hrun, ho5, hg5, hf5⟩ := code_append (h.row.alloc (.cells #[.int .u8 op, .int .i64 ag] 47)) (some ⟨w4.heap.size, 0, none⟩) 1 (InsRow.lit w4 [(op, ag)] _ _ rfl) (fun h => by cases h) (by simp; omega)
  obtain ⟨a5, c5, rfl⟩ := own_slice ho5
  have ht5 : Touch (fun k => (Value.slice a l.length c).ownBlock = some k) w4 w5 := ((Touch.refl _ w4).alloc _).trans (touch_grown hg5)
  have hz5 := ht5.size
  have hFl := h.lt
  have nF : ¬ (Value.slice a l.length c).ownBlock = some F := fun e => by have := h.own F e; omega
  have kc : ∀ j, w5.cell? ⟨F, j, none⟩ = w4.cell? ⟨F, j, none⟩ := fun j => ht5.cell (p := ⟨F, j, none⟩) hFl nF
  have kf5 : w5.frozen? ⟨F, 2, none⟩ = false := (ht5.frozen (p := ⟨F, 2, none⟩) hFl nF).trans h.z2
  have hS : Touch (fun k => k = F) w5 (w5.setCell ⟨F, 2, none⟩ (.slice a5 (l.length + 1) c5)) := (Touch.refl (fun k => k = F) w5).setCell (p := ⟨F, 2, none⟩) (fun _ => rfl) _
  have hzS := hS.size
  have hll : (l ++ [(op, ag)]).length = l.length + 1 := by simp
  have hnew : ∀ k, (Value.slice a5 (l.length + 1) c5).ownBlock = some k → F < k := by
    intro k hk
    rcases hf5 k hk with h' | h'
    · exact h.own k h'
    · simp at h'; omega
  refine ⟨a5, c5, w5, hrun, (kc 2).trans h.f2, kf5, by omega, ⟨?_, ?_, ?_, ?_, by simpa using kf5, by rw [hll]; exact hnew, by omega⟩, (ht5.below (by omega) (fun k hk e => by have := h.own k e; omega)).trans (hS.below (by omega) (fun k hk e => by omega))⟩
  · rw [hll]; exact own_touch ho5 hS (fun k hk e => by have := hnew k hk; omega)
  · rw [World.cell?_setCell_other _ _ _ _ (by simp)]; exact (kc 0).trans h.f0
  · rw [World.cell?_setCell_other _ _ _ _ (by simp)]; exact (kc 1).trans h.f1
  · rw [hll]; exact World.cell?_setCell_same _ _ _ ((kc 2).trans h.f2)
end Go.Proofs.YtmonbjlkkhpinaaDoor
