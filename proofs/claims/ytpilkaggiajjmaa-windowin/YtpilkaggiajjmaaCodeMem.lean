/-
  Instructions, functions and images in memory.
-/
import Derived.Test.YtpilkaggiajjmaaCode
import Derived.Test.YtpilkaggiajjmaaOutIn
import Derived.Lib.SliceRun
namespace Go.Proofs.Ytpilkaggiajjmaa
open Go.RowKit
set_option linter.unusedVariables false

/-- An instruction's two cells. -/
def insCells (x : Nat × Int) : List Value := [.int .u8 (x.1 : Int), .int .i64 x.2]
def codeCells (l : List (Nat × Int)) : List Value := (l.map insCells).flatten
theorem codeCells_len (l : List (Nat × Int)) : (codeCells l).length = l.length * 2 := by
  induction l with
  | nil => rfl
  | cons x l ih => simp only [codeCells, List.map_cons, List.flatten_cons, List.length_append, List.length_cons, insCells, List.length_nil] at ih ⊢; omega
theorem codeCells_at (l : List (Nat × Int)) : ∀ i (h : i < l.length), (codeCells l)[i * 2]? = some (.int .u8 (l[i].1 : Int)) ∧ (codeCells l)[i * 2 + 1]? = some (.int .i64 l[i].2) := by
  induction l with
  | nil => intro i h; simp at h
  | cons x l ih =>
    intro i h
    cases i with
    | zero => exact ⟨rfl, rfl⟩
    | succ i =>
      have := ih i (by simpa using h)
      have e : (i + 1) * 2 = i * 2 + 1 + 1 := by omega
      rw [e]
      exact this
theorem codeCells_append (l m : List (Nat × Int)) : codeCells (l ++ m) = codeCells l ++ codeCells m := by simp [codeCells]
theorem codeCells_one (l : List (Nat × Int)) : ∀ u ∈ codeCells l, u.oneCell' = true := by
  intro u hu
  simp only [codeCells, List.mem_flatten, List.mem_map] at hu
  obtain ⟨_, ⟨x, _, rfl⟩, h⟩ := hu
  simp only [insCells, List.mem_cons, List.not_mem_nil, or_false] at h
  rcases h with rfl | rfl <;> rfl
/-- Instructions lie one behind the other from a on. -/
def InsRow (w : World) (a : Option Addr) (l : List (Nat × Int)) : Prop :=
  0 < l.length → ∃ b off, a = some ⟨b, off, none⟩ ∧ ∀ i (h : i < l.length), w.cell? ⟨b, off + i * 2, none⟩ = some (.int .u8 (l[i].1 : Int)) ∧ w.cell? ⟨b, off + i * 2 + 1, none⟩ = some (.int .i64 l[i].2)
theorem InsRow.touch {S : Nat → Prop} {w w' : World} {a : Option Addr} {l : List (Nat × Int)} (h : InsRow w a l) (ht : Touch S w w') (hs : ∀ x, a = some x → ¬ S x.block) : InsRow w' a l := by
  intro h0
  obtain ⟨b, off, e, hc⟩ := h h0
  have hlt := block_lt_of_cell (hc 0 h0).1
  have hsb : ¬ S b := hs _ e
  refine ⟨b, off, e, fun i hi => ?_⟩
  obtain ⟨c1, c2⟩ := hc i hi
  exact ⟨(ht.cell (p := ⟨b, off + i * 2, none⟩) hlt hsb).trans c1, (ht.cell (p := ⟨b, off + i * 2 + 1, none⟩) hlt hsb).trans c2⟩
theorem InsRow.below {w w' : World} {a : Option Addr} {l : List (Nat × Int)} (h : InsRow w a l) (hb : Below w.heap.size w w') : InsRow w' a l :=
  h.touch (touch_of_below (S := fun _ => False) hb) (fun _ _ => id)
theorem InsRow.lt {w : World} {a : Option Addr} {l : List (Nat × Int)} (h : InsRow w a l) (h0 : 0 < l.length) : ∃ b off, a = some ⟨b, off, none⟩ ∧ b < w.heap.size := by
  obtain ⟨b, off, e, hc⟩ := h h0
  exact ⟨b, off, e, block_lt_of_cell (hc 0 h0).1⟩
theorem InsRow.cells {w : World} {b off : Nat} {l : List (Nat × Int)} (h : ∀ i (h : i < l.length), w.cell? ⟨b, off + i * 2, none⟩ = some (.int .u8 (l[i].1 : Int)) ∧ w.cell? ⟨b, off + i * 2 + 1, none⟩ = some (.int .i64 l[i].2)) :
    ∀ j u, (codeCells l)[j]? = some u → w.cell? ((⟨b, off, none⟩ : Addr).add j) = some u := by
  intro j u hu
  have hj : j < (codeCells l).length := (List.getElem?_eq_some_iff.1 hu).1
  rw [codeCells_len] at hj
  have hi : j / 2 < l.length := by omega
  obtain ⟨c1, c2⟩ := codeCells_at l (j / 2) hi
  obtain ⟨d1, d2⟩ := h (j / 2) hi
  rcases Nat.mod_two_eq_zero_or_one j with hm | hm
  · have e : j / 2 * 2 = j := by omega
    rw [e] at c1 d1
    rw [c1] at hu
    cases hu
    by_cases hz : j = 0
    · subst hz; simpa [Addr.add] using d1
    · simpa [Addr.add, hz] using d1
  · have e : j / 2 * 2 + 1 = j := by omega
    rw [e] at c2
    rw [Nat.add_assoc, e] at d2
    rw [c2] at hu
    cases hu
    have hz : j ≠ 0 := by omega
    simpa [Addr.add, hz] using d2
theorem InsRow.lit (w : World) (l : List (Nat × Int)) (cells : Array Value) (t : TypeId) (hc : cells = (codeCells l).toArray) : InsRow (w.alloc (.cells cells t)) (some ⟨w.heap.size, 0, none⟩) l := by
  subst hc
  intro h0
  refine ⟨w.heap.size, 0, rfl, fun i hi => ?_⟩
  obtain ⟨c1, c2⟩ := codeCells_at l i hi
  simp only [Nat.zero_add, World.cell?_alloc_new]
  simp [c1, c2]
/-- A function: arguments, locals, instructions. -/
structure Fn where
  args : Int
  locals : Int
  code : List (Nat × Int)
/-- Functions lie one behind the other from a on. -/
def FnRow (w : World) (a : Option Addr) (m : List Fn) : Prop :=
  0 < m.length → ∃ b off, a = some ⟨b, off, none⟩ ∧ ∀ i (h : i < m.length), w.cell? ⟨b, off + i * 3, none⟩ = some (.int .i64 m[i].args) ∧ w.cell? ⟨b, off + i * 3 + 1, none⟩ = some (.int .i64 m[i].locals) ∧
    ∃ x c, w.cell? ⟨b, off + i * 3 + 2, none⟩ = some (.slice x m[i].code.length c) ∧ InsRow w x m[i].code
theorem FnRow.below {w w' : World} {a : Option Addr} {m : List Fn} (h : FnRow w a m) (hb : Below w.heap.size w w') : FnRow w' a m := by
  intro h0
  obtain ⟨b, off, e, hc⟩ := h h0
  have hlt := block_lt_of_cell (hc 0 h0).1
  refine ⟨b, off, e, fun i hi => ?_⟩
  obtain ⟨c1, c2, x, c, c3, hr⟩ := hc i hi
  exact ⟨(hb.cell (p := ⟨b, off + i * 3, none⟩) hlt).trans c1, (hb.cell (p := ⟨b, off + i * 3 + 1, none⟩) hlt).trans c2, x, c, (hb.cell (p := ⟨b, off + i * 3 + 2, none⟩) hlt).trans c3, hr.below hb⟩
end Go.Proofs.Ytpilkaggiajjmaa
