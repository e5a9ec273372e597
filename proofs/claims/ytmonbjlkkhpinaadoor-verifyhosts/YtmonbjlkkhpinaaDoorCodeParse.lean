/-
  Layer 3: an image of bytes.
-/
import Derived.Test.YtmonbjlkkhpinaaDoorCodeFunc
namespace Go.Proofs.YtmonbjlkkhpinaaDoor
open Go.RowKit
set_option linter.unusedVariables false

/-- A function in memory: where its instructions lie. -/
structure Pf where
  fn : Fn
  x : Option Addr
  c : Nat
def Pf.val (p : Pf) : Value := .slice p.x p.fn.code.length p.c
def pfCells (p : Pf) : List Value := [.int .i64 p.fn.args, .int .i64 p.fn.locals, p.val]
def pfsCells (l : List Pf) : List Value := (l.map pfCells).flatten
theorem pfsCells_len (l : List Pf) : (pfsCells l).length = l.length * 3 := by
  induction l with
  | nil => rfl
  | cons x l ih => simp only [pfsCells, List.map_cons, List.flatten_cons, List.length_append, List.length_cons, pfCells, List.length_nil] at ih ⊢; omega
theorem pfsCells_at (l : List Pf) : ∀ i (h : i < l.length), (pfsCells l)[i * 3]? = some (.int .i64 l[i].fn.args) ∧ (pfsCells l)[i * 3 + 1]? = some (.int .i64 l[i].fn.locals) ∧ (pfsCells l)[i * 3 + 2]? = some l[i].val := by
  induction l with
  | nil => intro i h; simp at h
  | cons x l ih =>
    intro i h
    cases i with
    | zero => exact ⟨rfl, rfl, rfl⟩
    | succ i =>
      have := ih i (by simpa using h)
      have e : (i + 1) * 3 = i * 3 + 1 + 1 + 1 := by omega
      rw [e]
      exact this
theorem pfsCells_append (l m : List Pf) : pfsCells (l ++ m) = pfsCells l ++ pfsCells m := by simp [pfsCells]
theorem pfsCells_one (l : List Pf) : ∀ u ∈ pfsCells l, u.oneCell' = true := by
  intro u hu
  simp only [pfsCells, List.mem_flatten, List.mem_map] at hu
  obtain ⟨_, ⟨x, _, rfl⟩, h⟩ := hu
  simp only [pfCells, List.mem_cons, List.not_mem_nil, or_false] at h
  rcases h with rfl | rfl | rfl <;> rfl
theorem infoFn : (Tryd.prog.info? 29).map (fun i => (i.zero, i.size, i.bytes)) = some (some (.agg #[.int .i64 0, .int .i64 0, .slice none 0 0]), 3, 40) := by kernel_rfl
/-- One function put behind a row of the call's own. -/
theorem fn_append {w : World} {v : Value} {n : Nat} {l : List Pf} (hown : w.ownsRow 0 29 3 v n (pfsCells l)) (p : Pf) (hl : n ≤ 1000000) :
    ∃ v' w', (Builtin.append_ #[22, 22] 22 #[v, .slice (some ⟨w.heap.size, 0, none⟩) 1 1]).run Tryd.prog (w.alloc (.cells #[.int .i64 p.fn.args, .int .i64 p.fn.locals, p.val] 29)) = .ok v' w' ∧ w'.ownsRow 0 29 3 v' (n + 1) (pfsCells (l ++ [p])) ∧ (w.alloc (.cells #[.int .i64 p.fn.args, .int .i64 p.fn.locals, p.val] 29)).grownBy w' v.ownBlock ∧
      (∀ k, v'.ownBlock = some k → v.ownBlock = some k ∨ w.heap.size + 1 ≤ k) := by
  obtain ⟨i0, hi, hz0, hz1, hz2⟩ := info_parts infoFn
  have hcells : ∀ j u, (pfsCells [p])[j]? = some u → (w.alloc (.cells #[.int .i64 p.fn.args, .int .i64 p.fn.locals, p.val] 29)).cell? ((⟨w.heap.size, 0, none⟩ : Addr).add j) = some u := by
    intro j u hu
    match j, hu with
    | 0, hu => simp [pfsCells, pfCells] at hu; subst hu; simp [Addr.add]
    | 1, hu => simp [pfsCells, pfCells] at hu; subst hu; simp [Addr.add]
    | 2, hu => simp [pfsCells, pfCells] at hu; subst hu; simp [Addr.add]
  have := append_exact (P := Tryd.prog) (w.alloc (.cells #[.int .i64 p.fn.args, .int .i64 p.fn.locals, p.val] 29)) 22 22 29 i0 _ 3 40 Tryd.underlying22 hi hz0 hz1 hz2 rfl (by decide) v n (pfsCells l) (hown.alloc _) ⟨w.heap.size, 0, none⟩ 1 1 (pfsCells [p]) (pfsCells_len [p]) hcells (pfsCells_one [p]) (by unfold maxLen; omega) (by omega)
  rw [← pfsCells_append] at this
  obtain ⟨v', w', h1, h2, h3, h4⟩ := this
  refine ⟨v', w', h1, h2, h3, fun k hk => ?_⟩
  rcases h4 k hk with h | h
  · exact .inl h
  · exact .inr (by simpa using h)
/-- Functions in memory, each with its instructions. -/
theorem FnRow.of_pf {w : World} {base : Nat} {a : Option Addr} {n c : Nat} {l : List Pf} (h : w.ownsRow base 29 3 (.slice a n c) n (pfsCells l)) (hr : ∀ p ∈ l, InsRow w p.x p.fn.code) : FnRow w a (l.map (·.fn)) := by
  intro h0
  have h0' : 0 < l.length := by simpa using h0
  have hn : n = l.length := by have := h.1; rw [pfsCells_len] at this; omega
  rcases h.2 with ⟨hv, h00⟩ | ⟨g, cap, cur, hv, -⟩
  · omega
  · simp only [Value.slice.injEq] at hv
    obtain ⟨rfl, -, rfl⟩ := hv
    refine ⟨g, 0, rfl, fun i hi => ?_⟩
    have hi' : i < l.length := by simpa using hi
    obtain ⟨c1, c2, c3⟩ := pfsCells_at l i hi'
    have d1 := h.cells (g := g) rfl _ _ c1
    have d2 := h.cells (g := g) rfl _ _ c2
    have d3 := h.cells (g := g) rfl _ _ c3
    simp only [List.getElem_map]
    refine ⟨?_, ?_, l[i].x, l[i].c, ?_, hr _ (List.getElem_mem hi')⟩
    · by_cases hz : i * 3 = 0
      · rw [hz] at d1 ⊢; simpa [Addr.add] using d1
      · simpa [Addr.add, hz] using d1
    · simpa [Addr.add] using d2
    · simpa [Addr.add, Pf.val] using d3
/-- The memory of Parse: the reader at b; the image at M (functions l so far); the result behind w, not yet written. -/
structure PaMem (w : World) (b M : Nat) (st : St) (l : List Pf) (a : Option Addr) (c : Nat) (wr : World) : Prop where
  inst : InSt wr b st
  row : wr.ownsRow 0 29 3 (.slice a l.length c) l.length (pfsCells l)
  rows : ∀ p ∈ l, InsRow wr p.x p.fn.code
  m0 : wr.cell? ⟨M, 0, none⟩ = some (.slice a l.length c)
  z0 : wr.frozen? ⟨M, 0, none⟩ = false
  r0 : wr.cell? ⟨w.heap.size, 0, none⟩ = some (.slice none 0 0)
  g0 : wr.frozen? ⟨w.heap.size, 0, none⟩ = false
  own : ∀ k, (Value.slice a l.length c).ownBlock = some k → w.heap.size < k ∧ k ≠ M ∧ k ≠ b ∧ ∀ p ∈ l, p.val.ownBlock ≠ some k
  owns : ∀ p ∈ l, ∀ k, p.val.ownBlock = some k → w.heap.size < k ∧ k ≠ M ∧ k ≠ b ∧ k < wr.heap.size
  hb : w.heap.size < b
  hM : w.heap.size < M
  hMb : M ≠ b
  lt : M < wr.heap.size
  bel : Below w.heap.size w wr
theorem InsRow.touch' {S : Nat → Prop} {w w' : World} {p : Pf} (h : InsRow w p.x p.fn.code) (ht : Touch S w w') (hs : ∀ k, p.val.ownBlock = some k → ¬ S k) : InsRow w' p.x p.fn.code :=
  h.touch ht (fun x hx => hs x.block (by simp [Pf.val, hx, Value.ownBlock]))
theorem PaMem.step {w : World} {b M : Nat} {st st' : St} {f : Fn} {l : List Pf} {a : Option Addr} {c : Nat} {wr w4 : World} (h : PaMem w b M st l a c wr) (x : Option Addr) (cx : Nat) (hi : InTo wr.drew b st' w4)
    (hown : w4.ownsRow 0 47 2 (.slice x f.code.length cx) f.code.length (codeCells f.code)) (hnew : ∀ k, (Value.slice x f.code.length cx).ownBlock = some k → wr.drew.heap.size < k) (hl : l.length ≤ 1000) :
    w4.cell? ⟨M, 0, none⟩ = some (.slice a l.length c) ∧ M < w4.heap.size ∧ ∃ a5 c5 w5, (Builtin.append_ #[22, 22] 22 #[.slice a l.length c, .slice (some ⟨w4.heap.size, 0, none⟩) 1 1]).run Tryd.prog (w4.alloc (.cells #[.int .i64 f.args, .int .i64 f.locals, .slice x f.code.length cx] 29)) = .ok (.slice a5 (l.length + 1) c5) w5 ∧
      w5.cell? ⟨M, 0, none⟩ = some (.slice a l.length c) ∧ w5.frozen? ⟨M, 0, none⟩ = false ∧ PaMem w b M st' (l ++ [⟨f, x, cx⟩]) a5 c5 (w5.setCell ⟨M, 0, none⟩ (.slice a5 (l.length + 1) c5)) := by
  have ht4 : Touch (fun k => k = b) wr w4 := hi.2.drew0
  have hz4 := ht4.size
  have hMr := h.lt
  have hMw := h.hM
  have hbw := h.hb
  have hMb := h.hMb
  have hRl : w.heap.size < wr.heap.size := by omega
  have hown4 : w4.ownsRow 0 29 3 (.slice a l.length c) l.length (pfsCells l) := own_touch h.row ht4 (fun k hk e => (h.own k hk).2.2.1 e)
  have hnew' : ∀ k, (Value.slice x f.code.length cx).ownBlock = some k → wr.heap.size < k := hnew
  obtain ⟨v5, w5, hrun, ho5, hg5, hf5⟩ := fn_append hown4 ⟨f, x, cx⟩ (by omega)
  obtain ⟨a5, c5, rfl⟩ := own_slice ho5
  have ht5 : Touch (fun k => (Value.slice a l.length c).ownBlock = some k) w4 w5 := ((Touch.refl _ w4).alloc _).trans (touch_grown hg5)
  have hz5 := ht5.size
  have hrl : ∀ k, (Value.slice a l.length c).ownBlock = some k → k < wr.heap.size := fun k hk => (h.row.lt k hk).2
  have nM : ¬ (Value.slice a l.length c).ownBlock = some M := fun e => (h.own M e).2.1 rfl
  have nR : ¬ (Value.slice a l.length c).ownBlock = some w.heap.size := fun e => by have := (h.own _ e).1; omega
  have nb : ¬ (Value.slice a l.length c).ownBlock = some b := fun e => (h.own _ e).2.2.1 rfl
  have kc4 : w4.cell? ⟨M, 0, none⟩ = some (.slice a l.length c) := (ht4.cell (p := ⟨M, 0, none⟩) hMr hMb).trans h.m0
  have kc5 : w5.cell? ⟨M, 0, none⟩ = some (.slice a l.length c) := (ht5.cell (p := ⟨M, 0, none⟩) (by show M < _; omega) nM).trans kc4
  have kf5 : w5.frozen? ⟨M, 0, none⟩ = false := ((ht5.frozen (p := ⟨M, 0, none⟩) (by show M < _; omega) nM).trans (ht4.frozen (p := ⟨M, 0, none⟩) hMr hMb)).trans h.z0
  have hRb : ¬ w.heap.size = b := by omega
  have rc5 : w5.cell? ⟨w.heap.size, 0, none⟩ = wr.cell? ⟨w.heap.size, 0, none⟩ := (ht5.cell (p := ⟨w.heap.size, 0, none⟩) (by show w.heap.size < _; omega) nR).trans (ht4.cell (p := ⟨w.heap.size, 0, none⟩) hRl hRb)
  have rf5 : w5.frozen? ⟨w.heap.size, 0, none⟩ = wr.frozen? ⟨w.heap.size, 0, none⟩ := (ht5.frozen (p := ⟨w.heap.size, 0, none⟩) (by show w.heap.size < _; omega) nR).trans (ht4.frozen (p := ⟨w.heap.size, 0, none⟩) hRl hRb)
  have hRM : ¬ w.heap.size = M := by omega
  have hS : Touch (fun k => k = M) w5 (w5.setCell ⟨M, 0, none⟩ (.slice a5 (l.length + 1) c5)) := (Touch.refl (fun k => k = M) w5).setCell (p := ⟨M, 0, none⟩) (fun _ => rfl) _
  have hb4 : b < w4.heap.size := by have := hi.1.lt; omega
  have hnx : ∀ k, (Value.slice a5 (l.length + 1) c5).ownBlock = some k → (Value.slice a l.length c).ownBlock = some k ∨ w4.heap.size + 1 ≤ k := hf5
  have oldx : ∀ p ∈ l, ∀ k, p.val.ownBlock = some k → (Value.slice a l.length c).ownBlock ≠ some k := fun p hp k hk e => (h.own k e).2.2.2 p hp hk
  have xlt : ∀ k, (Value.slice x f.code.length cx).ownBlock = some k → k < w4.heap.size := fun k hk => (hown.lt k hk).2
  refine ⟨kc4, by omega, a5, c5, w5, hrun, kc5, kf5, ?_⟩
  have hll : (l ++ [(⟨f, x, cx⟩ : Pf)]).length = l.length + 1 := by simp
  refine ⟨?_, ?_, ?_, ?_, ?_, ?_, ?_, ?_, ?_, hbw, hMw, hMb, ?_, ?_⟩
  · exact (hi.1.touch ht5 nb).touch hS (fun e => hMb e.symm)
  · rw [hll]
    refine own_touch ho5 hS (fun k hk e => ?_)
    rcases hnx k hk with h' | h'
    · exact (h.own k h').2.1 e
    · omega
  · intro p hp
    rcases List.mem_append.1 hp with hp | hp
    · exact (((h.rows p hp).touch' ht4 (fun k hk => (h.owns p hp k hk).2.2.1)).touch' ht5 (fun k hk e => oldx p hp k hk e)).touch' hS (fun k hk => (h.owns p hp k hk).2.1)
    · simp at hp
      subst hp
      exact (((InsRow.of_own hown).touch ht5 (fun y hy e => by
        have := hnew' y.block (by simp [hy, Value.ownBlock])
        have := hrl _ e
        omega)).touch hS (fun y hy e => by
        have := hnew' y.block (by simp [hy, Value.ownBlock])
        omega))
  · rw [hll]; exact World.cell?_setCell_same _ _ _ kc5
  · simpa using kf5
  · exact ((hS.cell (p := ⟨w.heap.size, 0, none⟩) (by show w.heap.size < _; omega) hRM).trans rc5).trans h.r0
  · exact ((hS.frozen (p := ⟨w.heap.size, 0, none⟩) (by show w.heap.size < _; omega) hRM).trans rf5).trans h.g0
  · rw [hll]
    intro k hk
    rcases hnx k hk with h' | h'
    · have hk1 := h.own k h'
      refine ⟨hk1.1, hk1.2.1, hk1.2.2.1, fun p hp => ?_⟩
      rcases List.mem_append.1 hp with hp | hp
      · exact hk1.2.2.2 p hp
      · simp at hp
        subst hp
        intro e
        have := hnew' k e
        have := hrl k h'
        omega
    · refine ⟨by omega, by omega, by omega, fun p hp => ?_⟩
      rcases List.mem_append.1 hp with hp | hp
      · intro e
        have := (h.owns p hp k e).2.2.2
        omega
      · simp at hp
        subst hp
        intro e
        have := xlt k e
        omega
  · intro p hp k hk
    rcases List.mem_append.1 hp with hp | hp
    · have h1 := h.owns p hp k hk
      have h2 := hS.size
      exact ⟨h1.1, h1.2.1, h1.2.2.1, by omega⟩
    · simp at hp
      subst hp
      have h1 := hnew' k hk
      have h2 : b < wr.heap.size := h.inst.lt
      have h3 := xlt k hk
      have h4 := hS.size
      exact ⟨by omega, by omega, by omega, by omega⟩
  · have := hS.size; omega
  · have hB := h.bel
    have hbz := hB.size
    exact ((hB.trans (ht4.below hbz (fun k hk e => by omega))).trans (ht5.below (by omega) (fun k hk e => by have := (h.own k e).1; omega))).trans (hS.below (by omega) (fun k hk e => by omega))
def ParsePost (w : World) (l : List UInt8) (e : Ending) (w' : World) : Prop :=
  ∃ a c, e = .returned (.tuple #[.agg #[.slice a (parseS l).1.length c], .int .i64 ((parseS l).2 : Nat)]) ∧ FnRow w' a (parseS l).1 ∧ Below w.heap.size w w'
theorem PaMem.start {w w1 w2 : World} {st st' : St} (hin : InSt w1 (w.heap.size + 1) st) (hb1 : Below (w.heap.size + 1) (w.alloc (.cells #[.slice none 0 0] 24)) w1) (h2 : InTo (w1.alloc (.cells #[.slice none 0 0] 24)) (w.heap.size + 1) st' w2) : PaMem w (w.heap.size + 1) w1.heap.size st' [] none 0 w2 := by
  have hlt := hin.lt
  have hz1 := hb1.size
  have ht := h2.2
  have hz2 := ht.size
  simp at hz2
  have c1 : w1.cell? ⟨w.heap.size, 0, none⟩ = some (.slice none 0 0) := (hb1.cell (p := ⟨w.heap.size, 0, none⟩) (by simp)).trans (by simp)
  have f1 : w1.frozen? ⟨w.heap.size, 0, none⟩ = false := (hb1.frozen (p := ⟨w.heap.size, 0, none⟩) (by simp)).trans (frozen_new _ _ _ _)
  have hl1 : w.heap.size < w1.heap.size := by omega
  refine ⟨h2.1, World.ownsRow_nil _ _ _ _, by simp, (ht.cell (p := ⟨w1.heap.size, 0, none⟩) (by simp) (by show ¬ w1.heap.size = _; omega)).trans (by simp), (ht.frozen (p := ⟨w1.heap.size, 0, none⟩) (by simp) (by show ¬ w1.heap.size = _; omega)).trans (frozen_new _ _ _ _),
    (ht.cell (p := ⟨w.heap.size, 0, none⟩) (by simp; omega) (by simp)).trans ((World.cell?_alloc_lt _ _ _ hl1).trans c1), (ht.frozen (p := ⟨w.heap.size, 0, none⟩) (by simp; omega) (by simp)).trans ((frozen_old _ _ _ hl1).trans f1), fun k hk => by simp [Value.ownBlock] at hk, by simp, by omega, by omega, by omega, by omega, ?_⟩
  exact (((Below.refl _ w).alloc (Nat.le_refl _) _).trans (hb1.mono (by omega))).trans (((Below.refl _ w1).alloc (Nat.le_refl _) _ |>.mono (by omega)).trans (ht.below (by simp; omega) (fun k hk e => by omega)))
theorem PaMem.fin {w : World} {b M : Nat} {st st' : St} {l : List Pf} {a : Option Addr} {c : Nat} {wr w4 : World} (h : PaMem w b M st l a c wr) (hi : InTo wr b st' w4) (u : Value) :
    w4.cell? ⟨M, 0, none⟩ = some (.slice a l.length c) ∧ w4.cell? ⟨w.heap.size, 0, none⟩ = some (.slice none 0 0) ∧ w4.frozen? ⟨w.heap.size, 0, none⟩ = false ∧ w.heap.size < w4.heap.size ∧ M < w4.heap.size ∧
    FnRow (w4.setCell ⟨w.heap.size, 0, none⟩ u) a (l.map (·.fn)) ∧ Below w.heap.size w (w4.setCell ⟨w.heap.size, 0, none⟩ u) := by
  have ht4 := hi.2
  have hz4 := ht4.size
  have hMr := h.lt
  have hMw := h.hM
  have hbw := h.hb
  have hMb := h.hMb
  have hRl : w.heap.size < wr.heap.size := by omega
  have hRb : ¬ w.heap.size = b := by omega
  have hS : Touch (fun k => k = w.heap.size) w4 (w4.setCell ⟨w.heap.size, 0, none⟩ u) := (Touch.refl (fun k => k = w.heap.size) w4).setCell (p := ⟨w.heap.size, 0, none⟩) (fun _ => rfl) _
  refine ⟨(ht4.cell (p := ⟨M, 0, none⟩) hMr hMb).trans h.m0, (ht4.cell (p := ⟨w.heap.size, 0, none⟩) hRl hRb).trans h.r0, (ht4.frozen (p := ⟨w.heap.size, 0, none⟩) hRl hRb).trans h.g0, by omega, by omega, ?_, ?_⟩
  · refine FnRow.of_pf (base := 0) (n := l.length) (c := c) (own_touch (own_touch h.row ht4 (fun k hk e => (h.own k hk).2.2.1 e)) hS (fun k hk e => by have := (h.own k hk).1; omega)) (fun p hp => ?_)
    exact ((h.rows p hp).touch' ht4 (fun k hk => (h.owns p hp k hk).2.2.1)).touch' hS (fun k hk e => by have := (h.owns p hp k hk).1; omega)
  · exact (h.bel.trans (ht4.below h.bel.size (fun k hk e => by omega))).trans (hS.below (by have := h.bel.size; omega) (fun k hk e => by omega))
set_option maxHeartbeats 2000000 in
theorem parse_any (s : ByteArray) (w : World) (hs : s.size ≤ 1000000000) : Calls Tryd.prog 13 #[.string s] w (ParsePost w s.data.toList) := by
  have hP : parseS s.data.toList = if (endS (runS fnS (countS (s.data.toList, 0) 16).2 (countS (s.data.toList, 0) 16).1).1).2 ≠ 0 then ([], (endS (runS fnS (countS (s.data.toList, 0) 16).2 (countS (s.data.toList, 0) 16).1).1).2)
    else ((runS fnS (countS (s.data.toList, 0) 16).2 (countS (s.data.toList, 0) 16).1).2, 0) := rfl
  have hpost : ParsePost w s.data.toList = fun e w' => ∃ a c, e = .returned (.tuple #[.agg #[.slice a (parseS s.data.toList).1.length c], .int .i64 ((parseS s.data.toList).2 : Nat)]) ∧ FnRow w' a (parseS s.data.toList).1 ∧ Below w.heap.size w w' := rfl
  generalize ParsePost w s.data.toList = Post at hpost
  generalize parseS s.data.toList = pr at hP hpost
  have hq := countS_le (s.data.toList, 0) 16
  have hO := open_any s (w.alloc (.cells #[.slice none 0 0] 24)) hs
  rw [show (w.alloc (.cells #[.slice none 0 0] 24)).heap.size = w.heap.size + 1 by simp] at hO
  have hC := fun (w' : World) (h' : InSt w' (w.heap.size + 1) (s.data.toList, 0)) => count_any (w.heap.size + 1) s.data.toList 0 16 w' (by decide) (by decide) h'
  generalize s.data.toList = l0 at hP hq hO hC
  generalize countS (l0, 0) 16 = t1 at hP hq hC
  obtain ⟨st1, n⟩ := t1
  simp only at hP hq
  have HP := Lib.hid hP
  have HPost := Lib.hid hpost
  have HO := Lib.hid hO
  have HC := Lib.hid hC
  clear hP hpost hO hC
  go_enter Tryd.func13, Tryd.ntmps13
  go_wp2_with fail
  refine HO.out.mono ?_
  rintro r w1 ⟨rfl, hi1, hb1⟩
  have HI1 := Lib.hid hi1
  have HB1 := Lib.hid hb1
  clear hi1 hb1 HO
  go_wp2_with fail
  refine (HC.out _ (HI1.out.alloc _)).mono ?_
  rintro r w2 ⟨rfl, hi2⟩
  have HM := Lib.hid (PaMem.start HI1.out HB1.out hi2)
  clear hi2 HC HI1 HB1
  generalize w1.heap.size = M at HM
  generalize w.heap.size + 1 = b at HM
  simp only
  go_wp2
  go_loopw [11] (fun i wr => ∃ (k : Nat) (a : Option Addr) (c : Nat) (P : List Pf), k ≤ n ∧ i = .int .i64 k ∧ Hid (P.map (·.fn) = (runS fnS k st1).2) ∧ Hid (PaMem w b M (runS fnS k st1).1 P a c wr)) (fun i _ => n - (intOf i).toNat)
  case atStart => exact ⟨0, none, 0, [], by omega, rfl, Lib.hid rfl, HM⟩
  case round =>
    obtain ⟨k, a, c, P, hk, rfl, HPF, HR⟩ := hrel
    have hln := runS_len fnS k st1
    have hPl : P.length = k := by rw [← hln, ← HPF.out, List.length_map]
    by_cases hlt : k < n
    · have HN : Hid (runS fnS (k + 1) st1 = ((fnS (runS fnS k st1).1).1, (runS fnS k st1).2 ++ [(fnS (runS fnS k st1).1).2])) := Lib.hid rfl
      have hll : P.length ≤ 1000 := by omega
      clear hln hPl
      generalize runS fnS k st1 = q at HR HN HPF
      obtain ⟨sq, lq⟩ := q
      simp only at HR HN HPF
      have hRI : Calls Tryd.prog 38 #[.pointer (some ⟨b, 0, none⟩)] wr.drew (fun r w' => ∃ a c, r = .returned (.agg #[.int .i64 (fnS sq).2.args, .int .i64 (fnS sq).2.locals, .slice a (fnS sq).2.code.length c]) ∧ InTo wr.drew b (fnS sq).1 w' ∧
        w'.ownsRow 0 47 2 (.slice a (fnS sq).2.code.length c) (fnS sq).2.code.length (codeCells (fnS sq).2.code) ∧ ∀ k, (Value.slice a (fnS sq).2.code.length c).ownBlock = some k → wr.drew.heap.size < k) := readFunc_any b sq wr.drew HR.out.inst
      generalize fnS sq = y at HN hRI
      obtain ⟨sy, fy⟩ := y
      simp only at HN hRI
      have HRI := Lib.hid hRI
      clear hRI
      have f2 := HR.out.m0
      have hFl := HR.out.lt
      go_upto_region 5 with (fail)
      go_region_law (first
        | (refine step_append_run _ rfl (.tmp 14) (.tmp 17) 22 22 rfl _ _ (by rfl) (by rfl) (.slice a5 (P.length + 1) c5) w5 HR5.out ?_)
        | (go_simp; go_at_call 38; refine HRI.out.mono ?_; rintro r w4 ⟨x, cx, rfl, hi4, ho4, hn4⟩; obtain ⟨f4, hF4, a5, c5, w5, hr5, f5, z5, hm5⟩ := HR.out.step x cx hi4 ho4 hn4 hll; have HR5 := Lib.hid hr5; have HM5 := Lib.hid hm5; clear hi4 hr5 hm5 ho4 hn4))
      all_goals
        go_wp2
        go_roundw
        case rel => exact ⟨k + 1, a5, c5, P ++ [⟨fy, x, cx⟩], by omega, by go_num, Lib.hid (by rw [HN.out, List.map_append, HPF.out]; rfl), Lib.hid (by rw [HN.out]; exact HM5.out)⟩
        case measure => simp [intOf]; omega
    · obtain rfl : n = k := by omega
      clear hln hPl
      generalize runS fnS n st1 = q at HR HPF HP
      obtain ⟨sq, lq⟩ := q
      simp only at HR HPF HP
      have HE := Lib.hid (end_any b sq.1 sq.2 wr HR.out.inst)
      generalize endS sq = y at HE HP
      obtain ⟨ly, ey⟩ := y
      simp only at HP HE
      by_cases he : ey = 0
      · subst he
        have HP2 := Lib.hid (HP.out.trans (if_neg (by simp)))
        clear HP
        go_wp2_with fail
        refine HE.out.mono ?_
        rintro r w4 ⟨rfl, hi4⟩
        have hfin := HR.out.fin hi4 (.slice a P.length c)
        obtain ⟨m0, r0, g0, hRl, hMl, hF, hB⟩ := hfin
        have HF := Lib.hid hF
        have HB := Lib.hid hB
        clear hF hB hi4 HE HR HM
        go_wp2
        refine bodyPost_ret (v := .tuple #[.agg #[.slice a P.length c], .int .i64 0]) (by simp [results, Tryd.results13, go_sem, r0]) rfl ?_
        rw [HPost.out]
        refine ⟨a, c, ?_, ?_, HB.out⟩
        · rw [HP2.out]
          have : lq.length = P.length := by rw [← HPF.out, List.length_map]
          simp [this]
        · rw [HP2.out]
          have := HF.out
          rwa [HPF.out] at this
      · have hey : ((ey : Int) != 0) = true := by simp; omega
        have HP2 := Lib.hid (HP.out.trans (if_pos he))
        clear HP he
        go_wp2_with fail
        refine HE.out.mono ?_
        rintro r w4 ⟨rfl, hi4⟩
        have hfin := HR.out.fin hi4 (.slice none 0 0)
        obtain ⟨m0, r0, g0, hRl, hMl, hF, hB⟩ := hfin
        have HB := Lib.hid hB
        clear hF hB hi4 HE HR HM
        go_wp2
        refine bodyPost_ret (v := .tuple #[.agg #[.slice none 0 0], .int .i64 ey]) (by simp [results, Tryd.results13, go_sem, r0]) rfl ?_
        rw [HPost.out]
        refine ⟨none, 0, ?_, ?_, HB.out⟩
        · rw [HP2.out]; rfl
        · rw [HP2.out]; exact fun h => by simp at h
end Go.Proofs.YtmonbjlkkhpinaaDoor
