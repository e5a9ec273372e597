/-
  Layer 13: what was sent, the program's and the document's, as they lie side by side.
-/
import Derived.Test.YtpilkaggiajjmaaRWin3
import Derived.Test.YtpilkaggiajjmaaWinM
namespace Go.Proofs.Ytpilkaggiajjmaa
open Go.RowKit
set_option linter.unusedVariables false

/-- The program's at b, the document's in the box at X. -/
structure Ow (w : World) (b X N : Nat) (a : Option Addr) (c : Nat) (l : Its) (n : Nat) (xa : Option Addr) (xc : Nat) (L : Its) (wr : World) : Prop where
  o : OAt wr b N a c l
  x0 : wr.cell? ⟨X, 0, none⟩ = some (.int .i64 (n : Int))
  x1 : wr.cell? ⟨X, 1, none⟩ = some (.slice xa L.length xc)
  f0 : wr.frozen? ⟨X, 0, none⟩ = false
  f1 : wr.frozen? ⟨X, 1, none⟩ = false
  row : RRow wr xa L
  nn : xa = none → L = []
  cap : L.length ≤ xc ∧ xc ≤ maxLen
  hb : w.heap.size ≤ b
  hX : w.heap.size ≤ X
  bX : b ≠ X
  ha : ∀ x, a = some x → w.heap.size ≤ x.block ∧ x.block ≠ X
  hx : ∀ x, xa = some x → w.heap.size ≤ x.block ∧ x.block < wr.heap.size ∧ x.block ≠ b ∧ x.block ≠ X
  hax : ∀ x y, a = some x → xa = some y → x.block ≠ y.block
  bel : Below w.heap.size w wr
theorem Ow.lt {w : World} {b X N : Nat} {a : Option Addr} {c : Nat} {l : Its} {n : Nat} {xa : Option Addr} {xc : Nat} {L : Its} {wr : World} (h : Ow w b X N a c l n xa xc L wr) : X < wr.heap.size := block_lt_of_cell h.x0
theorem Ow.keep {w : World} {b X N : Nat} {a : Option Addr} {c : Nat} {l : Its} {n : Nat} {xa : Option Addr} {xc : Nat} {L : Its} {wr w' : World} (h : Ow w b X N a c l n xa xc L wr) (hb : Below wr.heap.size wr w') : Ow w b X N a c l n xa xc L w' :=
  ⟨h.o.keep hb, (hb.cell (p := ⟨X, 0, none⟩) h.lt).trans h.x0, (hb.cell (p := ⟨X, 1, none⟩) h.lt).trans h.x1, (hb.frozen (p := ⟨X, 0, none⟩) h.lt).trans h.f0, (hb.frozen (p := ⟨X, 1, none⟩) h.lt).trans h.f1, h.row.below hb, h.nn, h.cap, h.hb, h.hX, h.bX, h.ha, (fun x hx => by have g := h.hx x hx; have := hb.size; exact ⟨g.1, by omega, g.2.2⟩), h.hax, h.bel.trans (hb.mono h.bel.size)⟩
/-- The program's part is another one. -/
theorem Ow.prog {w : World} {b X N : Nat} {a : Option Addr} {c : Nat} {l : Its} {n : Nat} {xa : Option Addr} {xc : Nat} {L : Its} {wr : World} (h : Ow w b X N a c l n xa xc L wr) {N' : Nat} {a' : Option Addr} {c' : Nat} {l' : Its} {w' : World} (hO : OAt w' b N' a' c' l') (hf : ∀ x, a' = some x → a.map (·.block) = some x.block ∨ wr.heap.size ≤ x.block) (ht : Touch (fun j => j = b ∨ a.map (·.block) = some j) wr w') : Ow w b X N' a' c' l' n xa xc L w' := by
  have hs := h.bel.size
  have hXl := h.lt
  have sX : ¬ (X = b ∨ a.map (·.block) = some X) := by
    rintro (e | e)
    · exact h.bX e.symm
    · exact map_none (P := fun k => k ≠ X) (fun x hx => (h.ha x hx).2) _ e rfl
  have sx : ∀ x, xa = some x → ¬ (x.block = b ∨ a.map (·.block) = some x.block) := fun x hx => by
    rintro (e | e)
    · exact (h.hx x hx).2.2.1 e
    · exact map_none (P := fun k => k ≠ x.block) (fun y hy => h.hax y x hy hx) _ e rfl
  refine ⟨hO, (ht.cell (p := ⟨X, 0, none⟩) hXl sX).trans h.x0, (ht.cell (p := ⟨X, 1, none⟩) hXl sX).trans h.x1, (ht.frozen (p := ⟨X, 0, none⟩) hXl sX).trans h.f0, (ht.frozen (p := ⟨X, 1, none⟩) hXl sX).trans h.f1, h.row.touch ht sx, h.nn, h.cap, h.hb, h.hX, h.bX, fun x hx => ?_, fun x hx => ?_, fun x y hx hy => ?_, h.bel.trans (ht.below hs fun k hk e => ?_)⟩
  · rcases hf x hx with e | e
    · exact map_none (P := fun k => w.heap.size ≤ k ∧ k ≠ X) h.ha _ e
    · exact ⟨by omega, by omega⟩
  · have g := h.hx x hx
    have := ht.size
    exact ⟨g.1, by omega, g.2.2⟩
  · rcases hf x hx with e | e
    · exact map_none (P := fun k => k ≠ y.block) (fun z hz => h.hax z y hz hy) _ e
    · have := (h.hx y hy).2.1; omega
  · rcases e with e | e
    · have := h.hb; omega
    · have := map_none (P := fun k => w.heap.size ≤ k) (fun x hx => (h.ha x hx).1) _ e; omega
/-- The document's answer goes into its box. -/
theorem Ow.ref {w : World} {b X N : Nat} {a : Option Addr} {c : Nat} {l : Its} {n : Nat} {xa : Option Addr} {xc : Nat} {L : Its} {wr : World} (h : Ow w b X N a c l n xa xc L wr) {n' : Nat} {xa' : Option Addr} {xc' : Nat} {L' : Its} {w1 : World} (hr : RNew wr xa xa' xc' L' w1) (k : Nat) (hk : L'.length = k) :
    Ow w b X N a c l n' xa' xc' L' ((w1.setCell ⟨X, 0, none⟩ (.int .i64 (n' : Int))).setCell ⟨X, 1, none⟩ (.slice xa' k xc')) := by
  subst hk
  have h1 := h.keep hr.bel
  have ht := set2_touch w1 X (.int .i64 (n' : Int)) (.slice xa' L'.length xc')
  have hfr : ∀ x, xa' = some x → w.heap.size ≤ x.block ∧ x.block < w1.heap.size ∧ x.block ≠ b ∧ x.block ≠ X := fun x hx => by
    rcases hr.fresh with e | e
    · exact h1.hx x (by rw [← e]; exact hx)
    · have := e x hx
      have := h.o.lt
      have := h.lt
      have := h.hb
      have := h.bel.size
      exact ⟨by omega, by omega, by omega, by omega⟩
  have x0 : (w1.setCell ⟨X, 0, none⟩ (.int .i64 (n' : Int))).cell? ⟨X, 0, none⟩ = some (.int .i64 (n' : Int)) := World.cell?_setCell_same _ _ _ h1.x0
  have x1 : (w1.setCell ⟨X, 0, none⟩ (.int .i64 (n' : Int))).cell? ⟨X, 1, none⟩ = some (.slice xa L.length xc) := (World.cell?_setCell_other _ _ _ _ (by simp)).trans h1.x1
  refine ⟨h1.o.touch ht h1.bX (fun x hx => (h1.ha x hx).2), (World.cell?_setCell_other _ _ _ _ (by simp)).trans x0, World.cell?_setCell_same _ _ _ x1, by simpa using h1.f0, by simpa using h1.f1, hr.row.touch ht (fun x hx => (hfr x hx).2.2.2), hr.nn, ⟨hr.cap, hr.cmax⟩, h1.hb, h1.hX, h1.bX, h1.ha, fun x hx => ?_, fun x y hx hy => ?_, h1.bel.trans (ht.below h1.bel.size fun k hk e => by have := h1.hX; omega)⟩
  · have g := hfr x hx
    have := ht.size
    exact ⟨g.1, by omega, g.2.2⟩
  · rcases hr.fresh with e | e
    · exact h.hax x y hx (by rw [← e]; exact hy)
    · have := (e y hy).1
      have := h.o.row.lt x hx
      omega
/-- The number of a place: the first one is that of 1000. -/
def bas (first : Nat) : Nat := first + 4294967296 - 1000
theorem num_bas (first n : Nat) : (((first : Int) + ((n : Int) - 1000) % 4294967296) % 4294967296) = (numW (bas first) n : Nat) := by
  unfold numW bas; omega
theorem num_bas0 (first : Nat) (h : first < 4294967296) : numW (bas first) 1000 = first := by unfold numW bas; omega
theorem Ow.start {w : World} {b first : Nat} {w2 : World} (hf : first < 4294967296) (ho : O0At w2 b first) (hb : w.heap.size ≤ b) (h2 : Below w.heap.size w w2) (ty : TypeId) : Ow w b w2.heap.size (numW (bas first) 1000) none 0 (numL (bas first) []) 1000 none 0 [] (w2.alloc (.cells #[.int .i64 1000, .slice none 0 0] ty)) := by
  rw [num_bas0 first hf]
  have hA : Below w2.heap.size w2 (w2.alloc (.cells #[.int .i64 1000, .slice none 0 0] ty)) := bel_alloc (Below.refl _ _) _
  have hs := h2.size
  have hbl := ho.lt
  exact ⟨(ho.oat hf).keep hA, new_cell rfl rfl, new_cell rfl rfl, frozen_new _ _ _ _, frozen_new _ _ _ _, (fun h => by simp at h), (fun _ => rfl), ⟨by simp, by unfold maxLen; omega⟩, hb, hs, by omega, (fun x hx => by cases hx), (fun x hx => by cases hx), (fun x y hx => by cases hx), bel_alloc h2 _⟩
end Go.Proofs.Ytpilkaggiajjmaa
