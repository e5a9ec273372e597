/-
  The document's own instructions, functions and images in memory.
-/
import Derived.Test.YtdkokfpbmmjfkaaImgMem
namespace Go.Proofs.Ytdkokfpbmmjfkaa
open Go.RowKit
set_option linter.unusedVariables false

/-- An instruction's two cells. -/
def rInsCells (x : Nat × Int) : List Value := [.int .i64 (x.1 : Int), .int .i64 x.2]
def rCodeCells (l : List (Nat × Int)) : List Value := (l.map rInsCells).flatten
theorem rCodeCells_len (l : List (Nat × Int)) : (rCodeCells l).length = l.length * 2 := by
  induction l with
  | nil => rfl
  | cons x l ih => simp only [rCodeCells, List.map_cons, List.flatten_cons, List.length_append, List.length_cons, rInsCells, List.length_nil] at ih ⊢; omega
theorem rCodeCells_at (l : List (Nat × Int)) : ∀ i (h : i < l.length), (rCodeCells l)[i * 2]? = some (.int .i64 (l[i].1 : Int)) ∧ (rCodeCells l)[i * 2 + 1]? = some (.int .i64 l[i].2) := by
  induction l with
  | nil => intro i h; simp at h
  | cons x l ih =>
    intro i h
    cases i with
    | zero => exact ⟨rfl, rfl⟩
    | succ i =>
      have := ih i (by simpa using h)
      have e : (i + 1) * 2 = i * 2 + 1 + 1 := by omega
      rw [e]
      exact this
theorem rCodeCells_append (l m : List (Nat × Int)) : rCodeCells (l ++ m) = rCodeCells l ++ rCodeCells m := by simp [rCodeCells]
theorem rCodeCells_one (l : List (Nat × Int)) : ∀ u ∈ rCodeCells l, u.oneCell' = true := by
  intro u hu
  simp only [rCodeCells, List.mem_flatten, List.mem_map] at hu
  obtain ⟨_, ⟨x, _, rfl⟩, h⟩ := hu
  simp only [rInsCells, List.mem_cons, List.not_mem_nil, or_false] at h
  rcases h with rfl | rfl <;> rfl
/-- Instructions lie one behind the other from a on. -/
def RInsRow (w : World) (a : Option Addr) (l : List (Nat × Int)) : Prop :=
  0 < l.length → ∃ b off, a = some ⟨b, off, none⟩ ∧ ∀ i (h : i < l.length), w.cell? ⟨b, off + i * 2, none⟩ = some (.int .i64 (l[i].1 : Int)) ∧ w.cell? ⟨b, off + i * 2 + 1, none⟩ = some (.int .i64 l[i].2)
theorem RInsRow.touch {S : Nat → Prop} {w w' : World} {a : Option Addr} {l : List (Nat × Int)} (h : RInsRow w a l) (ht : Touch S w w') (hs : ∀ x, a = some x → ¬ S x.block) : RInsRow w' a l := by
  intro h0
  obtain ⟨b, off, e, hc⟩ := h h0
  have hlt := block_lt_of_cell (hc 0 h0).1
  have hsb : ¬ S b := hs _ e
  refine ⟨b, off, e, fun i hi => ?_⟩
  obtain ⟨c1, c2⟩ := hc i hi
  exact ⟨(ht.cell (p := ⟨b, off + i * 2, none⟩) hlt hsb).trans c1, (ht.cell (p := ⟨b, off + i * 2 + 1, none⟩) hlt hsb).trans c2⟩
theorem RInsRow.below {w w' : World} {a : Option Addr} {l : List (Nat × Int)} (h : RInsRow w a l) (hb : Below w.heap.size w w') : RInsRow w' a l :=
  h.touch (touch_of_below (S := fun _ => False) hb) (fun _ _ => id)
theorem RInsRow.lt {w : World} {a : Option Addr} {l : List (Nat × Int)} (h : RInsRow w a l) (h0 : 0 < l.length) : ∃ b off, a = some ⟨b, off, none⟩ ∧ b < w.heap.size := by
  obtain ⟨b, off, e, hc⟩ := h h0
  exact ⟨b, off, e, block_lt_of_cell (hc 0 h0).1⟩
theorem RInsRow.cells {w : World} {b off : Nat} {l : List (Nat × Int)} (h : ∀ i (h : i < l.length), w.cell? ⟨b, off + i * 2, none⟩ = some (.int .i64 (l[i].1 : Int)) ∧ w.cell? ⟨b, off + i * 2 + 1, none⟩ = some (.int .i64 l[i].2)) :
    ∀ j u, (rCodeCells l)[j]? = some u → w.cell? ((⟨b, off, none⟩ : Addr).add j) = some u := by
  intro j u hu
  have hj : j < (rCodeCells l).length := (List.getElem?_eq_some_iff.1 hu).1
  rw [rCodeCells_len] at hj
  have hi : j / 2 < l.length := by omega
  obtain ⟨c1, c2⟩ := rCodeCells_at l (j / 2) hi
  obtain ⟨d1, d2⟩ := h (j / 2) hi
  rcases Nat.mod_two_eq_zero_or_one j with hm | hm
  · have e : j / 2 * 2 = j := by omega
    rw [e] at c1 d1
    rw [c1] at hu
    cases hu
    by_cases hz : j = 0
    · subst hz; simpa [Addr.add] using d1
    · simpa [Addr.add, hz] using d1
  · have e : j / 2 * 2 + 1 = j := by omega
    rw [e] at c2
    rw [Nat.add_assoc, e] at d2
    rw [c2] at hu
    cases hu
    have hz : j ≠ 0 := by omega
    simpa [Addr.add, hz] using d2
theorem RInsRow.lit (w : World) (l : List (Nat × Int)) (cells : Array Value) (t : TypeId) (hc : cells = (rCodeCells l).toArray) : RInsRow (w.alloc (.cells cells t)) (some ⟨w.heap.size, 0, none⟩) l := by
  subst hc
  intro h0
  refine ⟨w.heap.size, 0, rfl, fun i hi => ?_⟩
  obtain ⟨c1, c2⟩ := rCodeCells_at l i hi
  simp only [Nat.zero_add, World.cell?_alloc_new]
  simp [c1, c2]
/-- Functions lie one behind the other from a on. -/
def RFnRow (w : World) (a : Option Addr) (m : List Fn) : Prop :=
  0 < m.length → ∃ b off, a = some ⟨b, off, none⟩ ∧ ∀ i (h : i < m.length), w.cell? ⟨b, off + i * 3, none⟩ = some (.int .i64 m[i].args) ∧ w.cell? ⟨b, off + i * 3 + 1, none⟩ = some (.int .i64 m[i].locals) ∧
    ∃ x c, w.cell? ⟨b, off + i * 3 + 2, none⟩ = some (.slice x m[i].code.length c) ∧ RInsRow w x m[i].code
theorem RFnRow.below {w w' : World} {a : Option Addr} {m : List Fn} (h : RFnRow w a m) (hb : Below w.heap.size w w') : RFnRow w' a m := by
  intro h0
  obtain ⟨b, off, e, hc⟩ := h h0
  have hlt := block_lt_of_cell (hc 0 h0).1
  refine ⟨b, off, e, fun i hi => ?_⟩
  obtain ⟨c1, c2, x, c, c3, hr⟩ := hc i hi
  exact ⟨(hb.cell (p := ⟨b, off + i * 3, none⟩) hlt).trans c1, (hb.cell (p := ⟨b, off + i * 3 + 1, none⟩) hlt).trans c2, x, c, (hb.cell (p := ⟨b, off + i * 3 + 2, none⟩) hlt).trans c3, hr.below hb⟩
theorem RInsRow.touch' {S : Nat → Prop} {w w' : World} {p : Pf} (h : RInsRow w p.x p.fn.code) (ht : Touch S w w') (hs : ∀ k, p.val.ownBlock = some k → ¬ S k) : RInsRow w' p.x p.fn.code :=
  h.touch ht (fun x hx => hs x.block (by simp [Pf.val, hx, Value.ownBlock]))
end Go.Proofs.Ytdkokfpbmmjfkaa
