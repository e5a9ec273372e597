/-
  Layer 3: an image of bytes.
-/
import Derived.Test.YtdkokfpbmmjfkaaCodeFunc
namespace Go.Proofs.Ytdkokfpbmmjfkaa
open Go.RowKit
set_option linter.unusedVariables false

/-- A function in memory: where its instructions lie. -/
structure Pf where
  fn : Fn
  x : Option Addr
  c : Nat
def Pf.val (p : Pf) : Value := .slice p.x p.fn.code.length p.c
def pfCells (p : Pf) : List Value := [.int .i64 p.fn.args, .int .i64 p.fn.locals, p.val]
def pfsCells (l : List Pf) : List Value := (l.map pfCells).flatten
theorem pfsCells_len (l : List Pf) : (pfsCells l).length = l.length * 3 := by
  induction l with
  | nil => rfl
  | cons x l ih => simp only [pfsCells, List.map_cons, List.flatten_cons, List.length_append, List.length_cons, pfCells, List.length_nil] at ih ⊢; omega
theorem pfsCells_at (l : List Pf) : ∀ i (h : i < l.length), (pfsCells l)[i * 3]? = some (.int .i64 l[i].fn.args) ∧ (pfsCells l)[i * 3 + 1]? = some (.int .i64 l[i].fn.locals) ∧ (pfsCells l)[i * 3 + 2]? = some l[i].val := by
  induction l with
  | nil => intro i h; simp at h
  | cons x l ih =>
    intro i h
    cases i with
    | zero => exact ⟨rfl, rfl, rfl⟩
    | succ i =>
      have := ih i (by simpa using h)
      have e : (i + 1) * 3 = i * 3 + 1 + 1 + 1 := by omega
      rw [e]
      exact this
theorem pfsCells_append (l m : List Pf) : pfsCells (l ++ m) = pfsCells l ++ pfsCells m := by simp [pfsCells]
theorem pfsCells_one (l : List Pf) : ∀ u ∈ pfsCells l, u.oneCell' = true := by
  intro u hu
  simp only [pfsCells, List.mem_flatten, List.mem_map] at hu
  obtain ⟨_, ⟨x, _, rfl⟩, h⟩ := hu
  simp only [pfCells, List.mem_cons, List.not_mem_nil, or_false] at h
  rcases h with rfl | rfl | rfl <;> rfl
theorem InsRow.touch' {S : Nat → Prop} {w w' : World} {p : Pf} (h : InsRow w p.x p.fn.code) (ht : Touch S w w') (hs : ∀ k, p.val.ownBlock = some k → ¬ S k) : InsRow w' p.x p.fn.code :=
  h.touch ht (fun x hx => hs x.block (by simp [Pf.val, hx, Value.ownBlock]))
def ParsePost (w : World) (l : List UInt8) (e : Ending) (w' : World) : Prop :=
  ∃ a c, e = .returned (.tuple #[.agg #[.slice a (parseS l).1.length c], .int .i64 ((parseS l).2 : Nat)]) ∧ FnRow w' a (parseS l).1 ∧ Below w.heap.size w w'
end Go.Proofs.Ytdkokfpbmmjfkaa
