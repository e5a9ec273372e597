/-
  Layer 13: a thing comes.
-/
import Derived.Test.YtclecalhbmpipaaWin2
namespace Go.Proofs.Ytclecalhbmpipaa
open Go.RowKit
set_option linter.unusedVariables false

/-- Nothing waits yet, and there is no map. -/
structure W0At (w : World) (b nx : Nat) : Prop where
  c0 : w.cell? ⟨b, 0, none⟩ = some (.int .u32 (nx : Int))
  c1 : w.cell? ⟨b, 1, none⟩ = some (.map none)
  f0 : w.frozen? ⟨b, 0, none⟩ = false
  f1 : w.frozen? ⟨b, 1, none⟩ = false
  nx : nx < 4294967296
theorem W0At.lt {w : World} {b nx : Nat} (h : W0At w b nx) : b < w.heap.size := block_lt_of_cell h.c0
theorem W0At.touch {S : Nat → Prop} {w w' : World} {b nx : Nat} (h : W0At w b nx) (ht : Touch S w w') (hb : ¬ S b) : W0At w' b nx :=
  ⟨(ht.cell (p := ⟨b, 0, none⟩) h.lt hb).trans h.c0, (ht.cell (p := ⟨b, 1, none⟩) h.lt hb).trans h.c1, (ht.frozen (p := ⟨b, 0, none⟩) h.lt hb).trans h.f0, (ht.frozen (p := ⟨b, 1, none⟩) h.lt hb).trans h.f1, h.nx⟩
theorem W0At.keep {w w' : World} {b nx : Nat} (h : W0At w b nx) (hb : Below w.heap.size w w') : W0At w' b nx := h.touch (touch_of_below (S := fun _ => False) hb) id
/-- What came: with a map, or without one. -/
def WI (w : World) (b : Nat) (mo : Option Nat) (s : Ws) : Prop := (mo = none ∧ s.l = [] ∧ W0At w b s.nx) ∨ ∃ r, mo = some r ∧ WAt w b r s
theorem WI.keep {w w' : World} {b : Nat} {mo : Option Nat} {s : Ws} (h : WI w b mo s) (hb : Below w.heap.size w w') : WI w' b mo s := by
  rcases h with ⟨h1, h2, h3⟩ | ⟨r, h1, h2⟩
  · exact .inl ⟨h1, h2, h3.keep hb⟩
  · exact .inr ⟨r, h1, h2.keep hb⟩
theorem WI.touch {S : Nat → Prop} {w w' : World} {b : Nat} {mo : Option Nat} {s : Ws} (h : WI w b mo s) (ht : Touch S w w') (hb : ¬ S b) (hm : ∀ r, mo = some r → ¬ S r) : WI w' b mo s := by
  rcases h with ⟨h1, h2, h3⟩ | ⟨r, h1, h2⟩
  · exact .inl ⟨h1, h2, h3.touch ht hb⟩
  · exact .inr ⟨r, h1, h2.touch ht hb (hm r h1)⟩
theorem WI.lt {w : World} {b : Nat} {mo : Option Nat} {s : Ws} (h : WI w b mo s) : b < w.heap.size := by
  rcases h with ⟨h1, h2, h3⟩ | ⟨r, h1, h2⟩
  · exact h3.lt
  · exact h2.lt
theorem WI.nx {w : World} {b : Nat} {mo : Option Nat} {s : Ws} (h : WI w b mo s) : s.nx < 4294967296 := by
  rcases h with ⟨h1, h2, h3⟩ | ⟨r, h1, h2⟩
  · exact h3.nx
  · exact h2.nx
def putW (s : Ws) (n : Nat) (t : List UInt8) : Ws × List (List UInt8) × Nat :=
  if belowB n s.nx = true then (s, [], 11) else if 32 < distW n s.nx then (s, [], 8) else if findW s.l n ≠ none then (s, [], 10)
  else ((goW (s.l.length + 2) ⟨s.nx, s.l ++ [(n, t)]⟩).1, (goW (s.l.length + 2) ⟨s.nx, s.l ++ [(n, t)]⟩).2, 0)
def InPost (w : World) (b : Nat) (mo : Option Nat) (t : Ws × List (List UInt8) × Nat) (e : Ending) (w' : World) : Prop :=
  ∃ a c mo', e = .returned (.tuple #[.slice a t.2.1.length c, .int .i64 (t.2.2 : Nat)]) ∧ WI w' b mo' t.1 ∧ (∀ r, mo' = some r → mo = some r ∨ w.heap.size ≤ r) ∧ OwnV 9 1 w.heap.size a c (t.2.1.map strCells1) w' ∧ Touch (fun k => k = b ∨ mo = some k) w w'
theorem inPost_none {w w' : World} {b : Nat} {mo : Option Nat} {s : Ws} {e : Nat} (h : WI w b mo s) (hb : Below w.heap.size w w') : InPost w b mo (s, [], e) (.returned (.tuple #[.slice none 0 0, .int .i64 (e : Nat)])) w' :=
  ⟨none, 0, mo, rfl, h.keep hb, fun r hr => .inl hr, ⟨World.ownsRow_nil _ _ _ _, (fun x hx => by cases hx)⟩, touch_of_below hb⟩
theorem drewN_bel (w : World) (n : Nat) : Below w.heap.size w (w.drewN n) := ⟨rfl, rfl, rfl, Nat.le_refl _, fun _ _ => rfl⟩
end Go.Proofs.Ytclecalhbmpipaa
