/-
  The document's own instructions, functions and images in memory.
-/
import Derived.Test.YtmonbjlkkhpinaaDoorImgMem
namespace Go.Proofs.YtmonbjlkkhpinaaDoor
open Go.RowKit
set_option linter.unusedVariables false

/-- An instruction's two cells. -/
def rInsCells (x : Nat × Int) : List Value := [.int .i64 (x.1 : Int), .int .i64 x.2]
def rCodeCells (l : List (Nat × Int)) : List Value := (l.map rInsCells).flatten
theorem rCodeCells_len (l : List (Nat × Int)) : (rCodeCells l).length = l.length * 2 := by
  induction l with
  | nil => rfl
  | cons x l ih => simp only [rCodeCells, List.map_cons, List.flatten_cons, List.length_append, List.length_cons, rInsCells, List.length_nil] at ih ⊢; omega
theorem rCodeCells_at (l : List (Nat × Int)) : ∀ i (h : i < l.length), (rCodeCells l)[i * 2]? = some (.int .i64 (l[i].1 : Int)) ∧ (rCodeCells l)[i * 2 + 1]? = some (.int .i64 l[i].2) := by
  induction l with
  | nil => intro i h; simp at h
  | cons x l ih =>
    intro i h
    cases i with
    | zero => exact ⟨rfl, rfl⟩
    | succ i =>
      have := ih i (by simpa using h)
      have e : (i + 1) * 2 = i * 2 + 1 + 1 := by omega
      rw [e]
      exact this
theorem rCodeCells_append (l m : List (Nat × Int)) : rCodeCells (l ++ m) = rCodeCells l ++ rCodeCells m := by simp [rCodeCells]
theorem rCodeCells_one (l : List (Nat × Int)) : ∀ u ∈ rCodeCells l, u.oneCell' = true := by
  intro u hu
  simp only [rCodeCells, List.mem_flatten, List.mem_map] at hu
  obtain ⟨_, ⟨x, _, rfl⟩, h⟩ := hu
  simp only [rInsCells, List.mem_cons, List.not_mem_nil, or_false] at h
  rcases h with rfl | rfl <;> rfl
/-- Instructions lie one behind the other from a on. -/
def RInsRow (w : World) (a : Option Addr) (l : List (Nat × Int)) : Prop :=
  0 < l.length → ∃ b off, a = some ⟨b, off, none⟩ ∧ ∀ i (h : i < l.length), w.cell? ⟨b, off + i * 2, none⟩ = some (.int .i64 (l[i].1 : Int)) ∧ w.cell? ⟨b, off + i * 2 + 1, none⟩ = some (.int .i64 l[i].2)
theorem RInsRow.touch {S : Nat → Prop} {w w' : World} {a : Option Addr} {l : List (Nat × Int)} (h : RInsRow w a l) (ht : Touch S w w') (hs : ∀ x, a = some x → ¬ S x.block) : RInsRow w' a l := by
  intro h0
  obtain ⟨b, off, e, hc⟩ := h h0
  have hlt := block_lt_of_cell (hc 0 h0).1
  have hsb : ¬ S b := hs _ e
  refine ⟨b, off, e, fun i hi => ?_⟩
  obtain ⟨c1, c2⟩ := hc i hi
  exact ⟨(ht.cell (p := ⟨b, off + i * 2, none⟩) hlt hsb).trans c1, (ht.cell (p := ⟨b, off + i * 2 + 1, none⟩) hlt hsb).trans c2⟩
theorem RInsRow.below {w w' : World} {a : Option Addr} {l : List (Nat × Int)} (h : RInsRow w a l) (hb : Below w.heap.size w w') : RInsRow w' a l :=
  h.touch (touch_of_below (S := fun _ => False) hb) (fun _ _ => id)
theorem RInsRow.lt {w : World} {a : Option Addr} {l : List (Nat × Int)} (h : RInsRow w a l) (h0 : 0 < l.length) : ∃ b off, a = some ⟨b, off, none⟩ ∧ b < w.heap.size := by
  obtain ⟨b, off, e, hc⟩ := h h0
  exact ⟨b, off, e, block_lt_of_cell (hc 0 h0).1⟩
theorem RInsRow.of_own {w : World} {base : Nat} {a : Option Addr} {n c : Nat} {l : List (Nat × Int)} (h : w.ownsRow base 65 2 (.slice a n c) n (rCodeCells l)) : RInsRow w a l := by
  intro h0
  have hn : n = l.length := by have := h.1; rw [rCodeCells_len] at this; omega
  rcases h.2 with ⟨hv, h00⟩ | ⟨g, cap, cur, hv, -⟩
  · omega
  · simp only [Value.slice.injEq] at hv
    obtain ⟨rfl, -, rfl⟩ := hv
    refine ⟨g, 0, rfl, fun i hi => ?_⟩
    obtain ⟨c1, c2⟩ := rCodeCells_at l i hi
    have d1 := h.cells (g := g) rfl _ _ c1
    have d2 := h.cells (g := g) rfl _ _ c2
    refine ⟨?_, ?_⟩
    · by_cases hz : i * 2 = 0
      · rw [hz] at d1 ⊢; simpa [Addr.add] using d1
      · simpa [Addr.add, hz] using d1
    · simpa [Addr.add] using d2
theorem RInsRow.cells {w : World} {b off : Nat} {l : List (Nat × Int)} (h : ∀ i (h : i < l.length), w.cell? ⟨b, off + i * 2, none⟩ = some (.int .i64 (l[i].1 : Int)) ∧ w.cell? ⟨b, off + i * 2 + 1, none⟩ = some (.int .i64 l[i].2)) :
    ∀ j u, (rCodeCells l)[j]? = some u → w.cell? ((⟨b, off, none⟩ : Addr).add j) = some u := by
  intro j u hu
  have hj : j < (rCodeCells l).length := (List.getElem?_eq_some_iff.1 hu).1
  rw [rCodeCells_len] at hj
  have hi : j / 2 < l.length := by omega
  obtain ⟨c1, c2⟩ := rCodeCells_at l (j / 2) hi
  obtain ⟨d1, d2⟩ := h (j / 2) hi
  rcases Nat.mod_two_eq_zero_or_one j with hm | hm
  · have e : j / 2 * 2 = j := by omega
    rw [e] at c1 d1
    rw [c1] at hu
    cases hu
    by_cases hz : j = 0
    · subst hz; simpa [Addr.add] using d1
    · simpa [Addr.add, hz] using d1
  · have e : j / 2 * 2 + 1 = j := by omega
    rw [e] at c2
    rw [Nat.add_assoc, e] at d2
    rw [c2] at hu
    cases hu
    have hz : j ≠ 0 := by omega
    simpa [Addr.add, hz] using d2
theorem RInsRow.lit (w : World) (l : List (Nat × Int)) (cells : Array Value) (t : TypeId) (hc : cells = (rCodeCells l).toArray) : RInsRow (w.alloc (.cells cells t)) (some ⟨w.heap.size, 0, none⟩) l := by
  subst hc
  intro h0
  refine ⟨w.heap.size, 0, rfl, fun i hi => ?_⟩
  obtain ⟨c1, c2⟩ := rCodeCells_at l i hi
  simp only [Nat.zero_add, World.cell?_alloc_new]
  simp [c1, c2]
theorem rInfoIns : (Tryd.prog.info? 65).map (fun i => (i.zero, i.size, i.bytes)) = some (some (.agg #[.int .i64 0, .int .i64 0]), 2, 16) := by kernel_rfl
/-- Instructions put behind a row of the call's own, from wherever they lie. -/
theorem rcode_append {w : World} {v : Value} {n : Nat} {l m : List (Nat × Int)} (hown : w.ownsRow 0 65 2 v n (rCodeCells l)) (a : Option Addr) (c : Nat) (hr : RInsRow w a m) (hn : a = none → m = []) (hl : n + m.length ≤ 1000000) :
    ∃ v' w', (Builtin.append_ #[61, 61] 61 #[v, .slice a m.length c]).run Tryd.prog w = .ok v' w' ∧ w'.ownsRow 0 65 2 v' (n + m.length) (rCodeCells (l ++ m)) ∧ w.grownBy w' v.ownBlock ∧
      (∀ k, v'.ownBlock = some k → v.ownBlock = some k ∨ w.heap.size ≤ k) := by
  obtain ⟨i0, hi, hz0, hz1, hz2⟩ := info_parts rInfoIns
  cases a with
  | none =>
    have := hn rfl
    subst this
    have hrun : (Builtin.append_ #[61, 61] 61 #[v, .slice none 0 c]).run Tryd.prog w = .ok v w := by
      rcases hown.2 with ⟨rfl, rfl⟩ | ⟨g, cap, cur, rfl, _, _, hnc, _⟩
      · simp [Builtin.append_, run_underlying Tryd.underlying61, sizeOf, typeInfo, hi, Builtin.lenOf, Builtin.firstCells]
      · simp [Builtin.append_, run_underlying Tryd.underlying61, sizeOf, typeInfo, hi, Builtin.lenOf, Builtin.firstCells, hnc, storeCells]
    exact ⟨v, w, hrun, by simpa using hown, ⟨rfl, rfl, rfl, Nat.le_refl _, fun _ _ _ => rfl⟩, fun k hk => .inl hk⟩
  | some x =>
    have hcells : ∀ j u, (rCodeCells m)[j]? = some u → w.cell? (x.add j) = some u := by
      intro j u hu
      have hj : j < (rCodeCells m).length := (List.getElem?_eq_some_iff.1 hu).1
      rw [rCodeCells_len] at hj
      obtain ⟨b, off, e, hc⟩ := hr (by omega)
      cases e
      exact RInsRow.cells hc j u hu
    have := append_exact (P := Tryd.prog) w 61 61 65 i0 _ 2 16 Tryd.underlying61 hi hz0 hz1 hz2 rfl (by decide) v n (rCodeCells l) hown x m.length c (rCodeCells m) (rCodeCells_len m) hcells (rCodeCells_one m) (by unfold maxLen; omega) (by omega)
    rw [← rCodeCells_append] at this
    exact this
/-- Functions lie one behind the other from a on. -/
def RFnRow (w : World) (a : Option Addr) (m : List Fn) : Prop :=
  0 < m.length → ∃ b off, a = some ⟨b, off, none⟩ ∧ ∀ i (h : i < m.length), w.cell? ⟨b, off + i * 3, none⟩ = some (.int .i64 m[i].args) ∧ w.cell? ⟨b, off + i * 3 + 1, none⟩ = some (.int .i64 m[i].locals) ∧
    ∃ x c, w.cell? ⟨b, off + i * 3 + 2, none⟩ = some (.slice x m[i].code.length c) ∧ RInsRow w x m[i].code
theorem RFnRow.below {w w' : World} {a : Option Addr} {m : List Fn} (h : RFnRow w a m) (hb : Below w.heap.size w w') : RFnRow w' a m := by
  intro h0
  obtain ⟨b, off, e, hc⟩ := h h0
  have hlt := block_lt_of_cell (hc 0 h0).1
  refine ⟨b, off, e, fun i hi => ?_⟩
  obtain ⟨c1, c2, x, c, c3, hr⟩ := hc i hi
  exact ⟨(hb.cell (p := ⟨b, off + i * 3, none⟩) hlt).trans c1, (hb.cell (p := ⟨b, off + i * 3 + 1, none⟩) hlt).trans c2, x, c, (hb.cell (p := ⟨b, off + i * 3 + 2, none⟩) hlt).trans c3, hr.below hb⟩
theorem rInfoFn : (Tryd.prog.info? 63).map (fun i => (i.zero, i.size, i.bytes)) = some (some (.agg #[.int .i64 0, .int .i64 0, .slice none 0 0]), 3, 40) := by kernel_rfl
/-- One function put behind a row of the call's own. -/
theorem rfn_append {w : World} {v : Value} {n : Nat} {l : List Pf} (hown : w.ownsRow 0 63 3 v n (pfsCells l)) (p : Pf) (hl : n ≤ 1000000) :
    ∃ v' w', (Builtin.append_ #[35, 35] 35 #[v, .slice (some ⟨w.heap.size, 0, none⟩) 1 1]).run Tryd.prog (w.alloc (.cells #[.int .i64 p.fn.args, .int .i64 p.fn.locals, p.val] 63)) = .ok v' w' ∧ w'.ownsRow 0 63 3 v' (n + 1) (pfsCells (l ++ [p])) ∧ (w.alloc (.cells #[.int .i64 p.fn.args, .int .i64 p.fn.locals, p.val] 63)).grownBy w' v.ownBlock ∧
      (∀ k, v'.ownBlock = some k → v.ownBlock = some k ∨ w.heap.size + 1 ≤ k) := by
  obtain ⟨i0, hi, hz0, hz1, hz2⟩ := info_parts rInfoFn
  have hcells : ∀ j u, (pfsCells [p])[j]? = some u → (w.alloc (.cells #[.int .i64 p.fn.args, .int .i64 p.fn.locals, p.val] 63)).cell? ((⟨w.heap.size, 0, none⟩ : Addr).add j) = some u := by
    intro j u hu
    match j, hu with
    | 0, hu => simp [pfsCells, pfCells] at hu; subst hu; simp [Addr.add]
    | 1, hu => simp [pfsCells, pfCells] at hu; subst hu; simp [Addr.add]
    | 2, hu => simp [pfsCells, pfCells] at hu; subst hu; simp [Addr.add]
  have := append_exact (P := Tryd.prog) (w.alloc (.cells #[.int .i64 p.fn.args, .int .i64 p.fn.locals, p.val] 63)) 35 35 63 i0 _ 3 40 Tryd.underlying35 hi hz0 hz1 hz2 rfl (by decide) v n (pfsCells l) (hown.alloc _) ⟨w.heap.size, 0, none⟩ 1 1 (pfsCells [p]) (pfsCells_len [p]) hcells (pfsCells_one [p]) (by unfold maxLen; omega) (by omega)
  rw [← pfsCells_append] at this
  obtain ⟨v', w', h1, h2, h3, h4⟩ := this
  refine ⟨v', w', h1, h2, h3, fun k hk => ?_⟩
  rcases h4 k hk with h | h
  · exact .inl h
  · exact .inr (by simpa using h)
/-- Functions in memory, each with its instructions. -/
theorem RFnRow.of_pf {w : World} {base : Nat} {a : Option Addr} {n c : Nat} {l : List Pf} (h : w.ownsRow base 63 3 (.slice a n c) n (pfsCells l)) (hr : ∀ p ∈ l, RInsRow w p.x p.fn.code) : RFnRow w a (l.map (·.fn)) := by
  intro h0
  have h0' : 0 < l.length := by simpa using h0
  have hn : n = l.length := by have := h.1; rw [pfsCells_len] at this; omega
  rcases h.2 with ⟨hv, h00⟩ | ⟨g, cap, cur, hv, -⟩
  · omega
  · simp only [Value.slice.injEq] at hv
    obtain ⟨rfl, -, rfl⟩ := hv
    refine ⟨g, 0, rfl, fun i hi => ?_⟩
    have hi' : i < l.length := by simpa using hi
    obtain ⟨c1, c2, c3⟩ := pfsCells_at l i hi'
    have d1 := h.cells (g := g) rfl _ _ c1
    have d2 := h.cells (g := g) rfl _ _ c2
    have d3 := h.cells (g := g) rfl _ _ c3
    simp only [List.getElem_map]
    refine ⟨?_, ?_, l[i].x, l[i].c, ?_, hr _ (List.getElem_mem hi')⟩
    · by_cases hz : i * 3 = 0
      · rw [hz] at d1 ⊢; simpa [Addr.add] using d1
      · simpa [Addr.add, hz] using d1
    · simpa [Addr.add] using d2
    · simpa [Addr.add, Pf.val] using d3
theorem RInsRow.touch' {S : Nat → Prop} {w w' : World} {p : Pf} (h : RInsRow w p.x p.fn.code) (ht : Touch S w w') (hs : ∀ k, p.val.ownBlock = some k → ¬ S k) : RInsRow w' p.x p.fn.code :=
  h.touch ht (fun x hx => hs x.block (by simp [Pf.val, hx, Value.ownBlock]))
/-- At block F lies a function whose instructions grow: they lie behind F. -/
structure RFnAt (F : Nat) (ar lo : Int) (l : List (Nat × Int)) (a : Option Addr) (c : Nat) (wr : World) : Prop where
  row : wr.ownsRow 0 65 2 (.slice a l.length c) l.length (rCodeCells l)
  f0 : wr.cell? ⟨F, 0, none⟩ = some (.int .i64 ar)
  f1 : wr.cell? ⟨F, 1, none⟩ = some (.int .i64 lo)
  f2 : wr.cell? ⟨F, 2, none⟩ = some (.slice a l.length c)
  z2 : wr.frozen? ⟨F, 2, none⟩ = false
  own : ∀ k, (Value.slice a l.length c).ownBlock = some k → F < k
  lt : F < wr.heap.size
theorem RFnAt.start (w : World) (ar lo : Int) (t : TypeId) : RFnAt w.heap.size ar lo [] none 0 (w.alloc (.cells #[.int .i64 ar, .int .i64 lo, .slice none 0 0] t)) :=
  ⟨World.ownsRow_nil _ _ _ _, by simp, by simp, by simp, frozen_new _ _ _ _, fun k hk => by simp [Value.ownBlock] at hk, by simp⟩
theorem RFnAt.below {F : Nat} {ar lo : Int} {l : List (Nat × Int)} {a : Option Addr} {c : Nat} {wr wq : World} (h : RFnAt F ar lo l a c wr) (hb : Below wr.heap.size wr wq) : RFnAt F ar lo l a c wq :=
  ⟨own_touch h.row (touch_of_below (S := fun _ => False) hb) (fun _ _ => id), (hb.cell (p := ⟨F, 0, none⟩) h.lt).trans h.f0, (hb.cell (p := ⟨F, 1, none⟩) h.lt).trans h.f1, (hb.cell (p := ⟨F, 2, none⟩) h.lt).trans h.f2, (hb.frozen (p := ⟨F, 2, none⟩) h.lt).trans h.z2, h.own, Nat.lt_of_lt_of_le h.lt hb.size⟩
theorem RFnAt.push {F : Nat} {ar lo : Int} {l : List (Nat × Int)} {a : Option Addr} {c : Nat} {w4 : World} (h : RFnAt F ar lo l a c w4) (op : Nat) (ag : Int) (hl : l.length ≤ 1000) :
    ∃ a5 c5 w5, (Builtin.append_ #[61, 61] 61 #[.slice a l.length c, .slice (some ⟨w4.heap.size, 0, none⟩) 1 1]).run Tryd.prog (w4.alloc (.cells #[.int .i64 op, .int .i64 ag] 65)) = .ok (.slice a5 (l.length + 1) c5) w5 ∧
      w5.cell? ⟨F, 2, none⟩ = some (.slice a l.length c) ∧ w5.frozen? ⟨F, 2, none⟩ = false ∧ F < w5.heap.size ∧ RFnAt F ar lo (l ++ [(op, ag)]) a5 c5 (w5.setCell ⟨F, 2, none⟩ (.slice a5 (l.length + 1) c5)) ∧ Below F w4 (w5.setCell ⟨F, 2, none⟩ (.slice a5 (l.length + 1) c5)) := by
  obtain ⟨v5, w5, hrun, ho5, hg5, hf5⟩ := rcode_append (h.row.alloc (.cells #[.int .i64 op, .int .i64 ag] 65)) (some ⟨w4.heap.size, 0, none⟩) 1 (RInsRow.lit w4 [(op, ag)] _ _ rfl) (fun h => by cases h) (by simp; omega)
  obtain ⟨a5, c5, rfl⟩ := own_slice ho5
  have ht5 : Touch (fun k => (Value.slice a l.length c).ownBlock = some k) w4 w5 := ((Touch.refl _ w4).alloc _).trans (touch_grown hg5)
  have hz5 := ht5.size
  have hFl := h.lt
  have nF : ¬ (Value.slice a l.length c).ownBlock = some F := fun e => by have := h.own F e; omega
  have kc : ∀ j, w5.cell? ⟨F, j, none⟩ = w4.cell? ⟨F, j, none⟩ := fun j => ht5.cell (p := ⟨F, j, none⟩) hFl nF
  have kf5 : w5.frozen? ⟨F, 2, none⟩ = false := (ht5.frozen (p := ⟨F, 2, none⟩) hFl nF).trans h.z2
  have hS : Touch (fun k => k = F) w5 (w5.setCell ⟨F, 2, none⟩ (.slice a5 (l.length + 1) c5)) := (Touch.refl (fun k => k = F) w5).setCell (p := ⟨F, 2, none⟩) (fun _ => rfl) _
  have hzS := hS.size
  have hll : (l ++ [(op, ag)]).length = l.length + 1 := by simp
  have hnew : ∀ k, (Value.slice a5 (l.length + 1) c5).ownBlock = some k → F < k := by
    intro k hk
    rcases hf5 k hk with h' | h'
    · exact h.own k h'
    · simp at h'; omega
  refine ⟨a5, c5, w5, hrun, (kc 2).trans h.f2, kf5, by omega, ⟨?_, ?_, ?_, ?_, by simpa using kf5, by rw [hll]; exact hnew, by omega⟩, (ht5.below (by omega) (fun k hk e => by have := h.own k e; omega)).trans (hS.below (by omega) (fun k hk e => by omega))⟩
  · rw [hll]; exact own_touch ho5 hS (fun k hk e => by have := hnew k hk; omega)
  · rw [World.cell?_setCell_other _ _ _ _ (by simp)]; exact (kc 0).trans h.f0
  · rw [World.cell?_setCell_other _ _ _ _ (by simp)]; exact (kc 1).trans h.f1
  · rw [hll]; exact World.cell?_setCell_same _ _ _ ((kc 2).trans h.f2)
/-- A list of functions of one's own: all that is theirs lies from B on. -/
structure ROwn (B : Nat) (l : List Pf) (a : Option Addr) (c : Nat) (wr : World) : Prop where
  row : wr.ownsRow 0 63 3 (.slice a l.length c) l.length (pfsCells l)
  rows : ∀ p ∈ l, RInsRow wr p.x p.fn.code
  own : ∀ k, (Value.slice a l.length c).ownBlock = some k → B ≤ k ∧ ∀ p ∈ l, p.val.ownBlock ≠ some k
  owns : ∀ p ∈ l, ∀ k, p.val.ownBlock = some k → B ≤ k ∧ k < wr.heap.size
theorem ROwn.below {B : Nat} {l : List Pf} {a : Option Addr} {c : Nat} {wr wq : World} (h : ROwn B l a c wr) (hb : Below wr.heap.size wr wq) : ROwn B l a c wq :=
  ⟨own_touch h.row (touch_of_below (S := fun _ => False) hb) (fun _ _ => id), fun p hp => (h.rows p hp).below hb, h.own, fun p hp k hk => ⟨(h.owns p hp k hk).1, Nat.lt_of_lt_of_le (h.owns p hp k hk).2 hb.size⟩⟩
theorem ROwn.start (w : World) : ROwn w.heap.size [] (some ⟨w.heap.size, 0, none⟩) 0 (w.alloc (.cells #[] 63)) :=
  ⟨World.ownsRow_made w #[] 0 (Nat.zero_le _) (by decide) rfl, by simp, fun k hk => ⟨by simp [Value.ownBlock] at hk; omega, by simp⟩, by simp⟩
theorem ROwn.push {B : Nat} {l : List Pf} {a : Option Addr} {c : Nat} {w4 : World} (h : ROwn B l a c w4) (hB : B ≤ w4.heap.size) (p : Pf) (hp : RInsRow w4 p.x p.fn.code) (hpo : ∀ k, p.val.ownBlock = some k → B ≤ k ∧ k < w4.heap.size ∧ (Value.slice a l.length c).ownBlock ≠ some k) (hl : l.length ≤ 1000) :
    ∃ a5 c5 w5, (Builtin.append_ #[35, 35] 35 #[.slice a l.length c, .slice (some ⟨w4.heap.size, 0, none⟩) 1 1]).run Tryd.prog (w4.alloc (.cells #[.int .i64 p.fn.args, .int .i64 p.fn.locals, .slice p.x p.fn.code.length p.c] 63)) = .ok (.slice a5 (l.length + 1) c5) w5 ∧
      ROwn B (l ++ [p]) a5 c5 w5 ∧ Below B w4 w5 := by
  obtain ⟨v5, w5, hrun, ho5, hg5, hf5⟩ := rfn_append h.row p (by omega)
  obtain ⟨a5, c5, rfl⟩ := own_slice ho5
  have ht5 : Touch (fun k => (Value.slice a l.length c).ownBlock = some k) w4 w5 := ((Touch.refl _ w4).alloc _).trans (touch_grown hg5)
  have hz5 := ht5.size
  have hll : (l ++ [p]).length = l.length + 1 := by simp
  refine ⟨a5, c5, w5, hrun, ⟨by rw [hll]; exact ho5, ?_, ?_, ?_⟩, ht5.below hB (fun k hk e => by have := (h.own k e).1; omega)⟩
  · intro q hq
    rcases List.mem_append.1 hq with hq | hq
    · exact (h.rows q hq).touch' ht5 (fun k hk e => (h.own k e).2 q hq hk)
    · simp at hq
      subst hq
      exact hp.touch' ht5 (fun k hk => (hpo k hk).2.2)
  · rw [hll]
    intro k hk
    rcases hf5 k hk with h' | h'
    · have hk1 := h.own k h'
      refine ⟨hk1.1, fun q hq => ?_⟩
      rcases List.mem_append.1 hq with hq | hq
      · exact hk1.2 q hq
      · simp at hq
        subst hq
        exact fun e => (hpo k e).2.2 h'
    · refine ⟨by omega, fun q hq => ?_⟩
      rcases List.mem_append.1 hq with hq | hq
      · exact fun e => by have := (h.owns q hq k e).2; omega
      · simp at hq
        subst hq
        exact fun e => by have := (hpo k e).2.1; omega
  · intro q hq k hk
    rcases List.mem_append.1 hq with hq | hq
    · exact ⟨(h.owns q hq k hk).1, Nat.lt_of_lt_of_le (h.owns q hq k hk).2 hz5⟩
    · simp at hq
      subst hq
      exact ⟨(hpo k hk).1, Nat.lt_of_lt_of_le (hpo k hk).2.1 hz5⟩
theorem ROwn.fns {B : Nat} {l : List Pf} {a : Option Addr} {c : Nat} {wr : World} (h : ROwn B l a c wr) : RFnRow wr a (l.map (·.fn)) := RFnRow.of_pf (c := c) h.row h.rows
end Go.Proofs.YtmonbjlkkhpinaaDoor
