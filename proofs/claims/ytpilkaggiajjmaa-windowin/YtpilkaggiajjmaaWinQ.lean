/-
  Layer 13: what came, the program's and the document's, as they lie side by side.
-/
import Derived.Test.YtpilkaggiajjmaaRWin7
import Derived.Test.YtpilkaggiajjmaaWin11
namespace Go.Proofs.Ytpilkaggiajjmaa
open Go.RowKit
set_option linter.unusedVariables false

/-- The document's Put, whatever comes. -/
theorem ref13Put_any (a : Option Addr) (c n x : Nat) (L : Its) (t : List UInt8) (w : World) (hn : n ≤ 10000) (hx : x ≤ 20000) (hi : InR n L) (hr : RRow w a L) (hnn : a = none → L = []) (hc : L.length ≤ c ∧ c ≤ maxLen) (ha : ∀ y, a = some y → y.block < w.heap.size) :
    Calls Try.prog 26 #[.agg #[.int .i64 (n : Int), .slice a L.length c], .agg #[.int .i64 (x : Int), .string (bs t)]] w (P13 w a (putR n L x t)) := by
  have hl := hi.len
  by_cases h1 : x < n
  · exact ref13Put_far a c n x L t w hn hx hr hnn hc ha (.inl h1)
  · by_cases h2 : n + 32 < x
    · exact ref13Put_far a c n x L t w hn hx hr hnn hc ha (.inr ⟨h1, h2⟩)
    · by_cases h3 : findW L x = none
      · exact ref13Put_in a c n x L t w hn hl hr hnn hi.nd (by omega) (by omega) h3
      · exact ref13Put_there a c n x L t w hn (by omega) hr hnn hc ha hi.nd (by omega) (by omega) h3
/-- The program's at b, the document's in the box at X. -/
structure Iw (w : World) (b X F : Nat) (mo : Option Nat) (n : Nat) (xa : Option Addr) (xc : Nat) (L : Its) (wr : World) : Prop where
  i : WI wr b mo ⟨numW F n, numL F L⟩
  x0 : wr.cell? ⟨X, 0, none⟩ = some (.int .i64 (n : Int))
  x1 : wr.cell? ⟨X, 1, none⟩ = some (.slice xa L.length xc)
  f0 : wr.frozen? ⟨X, 0, none⟩ = false
  f1 : wr.frozen? ⟨X, 1, none⟩ = false
  row : RRow wr xa L
  nn : xa = none → L = []
  cap : L.length ≤ xc ∧ xc ≤ maxLen
  hb : w.heap.size ≤ b
  hX : w.heap.size ≤ X
  bX : b ≠ X
  hm : ∀ k, mo = some k → w.heap.size ≤ k ∧ k ≠ X
  hx : ∀ x, xa = some x → w.heap.size ≤ x.block ∧ x.block < wr.heap.size ∧ x.block ≠ b ∧ x.block ≠ X
  hmx : ∀ k y, mo = some k → xa = some y → k ≠ y.block
  bel : Below w.heap.size w wr
theorem Iw.lt {w : World} {b X F : Nat} {mo : Option Nat} {n : Nat} {xa : Option Addr} {xc : Nat} {L : Its} {wr : World} (h : Iw w b X F mo n xa xc L wr) : X < wr.heap.size := block_lt_of_cell h.x0
theorem Iw.keep {w : World} {b X F : Nat} {mo : Option Nat} {n : Nat} {xa : Option Addr} {xc : Nat} {L : Its} {wr w' : World} (h : Iw w b X F mo n xa xc L wr) (hb : Below wr.heap.size wr w') : Iw w b X F mo n xa xc L w' :=
  ⟨h.i.keep hb, (hb.cell (p := ⟨X, 0, none⟩) h.lt).trans h.x0, (hb.cell (p := ⟨X, 1, none⟩) h.lt).trans h.x1, (hb.frozen (p := ⟨X, 0, none⟩) h.lt).trans h.f0, (hb.frozen (p := ⟨X, 1, none⟩) h.lt).trans h.f1, h.row.below hb, h.nn, h.cap, h.hb, h.hX, h.bX, h.hm, (fun x hx => by have g := h.hx x hx; have := hb.size; exact ⟨g.1, by omega, g.2.2⟩), h.hmx, h.bel.trans (hb.mono h.bel.size)⟩
/-- The program's part is another one; the document's box has still what it had: what lies there meanwhile. -/
structure Iw2 (w : World) (b X F : Nat) (mo : Option Nat) (s : Ws) (n : Nat) (xa : Option Addr) (xc : Nat) (L : Its) (wr : World) : Prop where
  i : WI wr b mo s
  x0 : wr.cell? ⟨X, 0, none⟩ = some (.int .i64 (n : Int))
  x1 : wr.cell? ⟨X, 1, none⟩ = some (.slice xa L.length xc)
  f0 : wr.frozen? ⟨X, 0, none⟩ = false
  f1 : wr.frozen? ⟨X, 1, none⟩ = false
  row : RRow wr xa L
  hb : w.heap.size ≤ b
  hX : w.heap.size ≤ X
  bX : b ≠ X
  hm : ∀ k, mo = some k → w.heap.size ≤ k ∧ k ≠ X
  hx : ∀ x, xa = some x → w.heap.size ≤ x.block ∧ x.block < wr.heap.size ∧ x.block ≠ b ∧ x.block ≠ X
  hmx : ∀ k y, mo = some k → xa = some y → k ≠ y.block
  bel : Below w.heap.size w wr
theorem Iw2.lt {w : World} {b X F : Nat} {mo : Option Nat} {s : Ws} {n : Nat} {xa : Option Addr} {xc : Nat} {L : Its} {wr : World} (h : Iw2 w b X F mo s n xa xc L wr) : X < wr.heap.size := block_lt_of_cell h.x0
theorem Iw2.keep {w : World} {b X F : Nat} {mo : Option Nat} {s : Ws} {n : Nat} {xa : Option Addr} {xc : Nat} {L : Its} {wr w' : World} (h : Iw2 w b X F mo s n xa xc L wr) (hb : Below wr.heap.size wr w') : Iw2 w b X F mo s n xa xc L w' :=
  ⟨h.i.keep hb, (hb.cell (p := ⟨X, 0, none⟩) h.lt).trans h.x0, (hb.cell (p := ⟨X, 1, none⟩) h.lt).trans h.x1, (hb.frozen (p := ⟨X, 0, none⟩) h.lt).trans h.f0, (hb.frozen (p := ⟨X, 1, none⟩) h.lt).trans h.f1, h.row.below hb, h.hb, h.hX, h.bX, h.hm, (fun x hx => by have g := h.hx x hx; have := hb.size; exact ⟨g.1, by omega, g.2.2⟩), h.hmx, h.bel.trans (hb.mono h.bel.size)⟩
theorem Iw.put {w : World} {b X F : Nat} {mo mo' : Option Nat} {n : Nat} {xa : Option Addr} {xc : Nat} {L : Its} {wr w' : World} {s : Ws} (h : Iw w b X F mo n xa xc L wr) (hw : WI w' b mo' s) (hf : ∀ k, mo' = some k → mo = some k ∨ wr.heap.size ≤ k) (ht : Touch (fun k => k = b ∨ mo = some k) wr w') : Iw2 w b X F mo' s n xa xc L w' := by
  have hs := h.bel.size
  have hXl := h.lt
  have sX : ¬ (X = b ∨ mo = some X) := by
    rintro (e | e)
    · exact h.bX e.symm
    · exact (h.hm _ e).2 rfl
  have sx : ∀ x, xa = some x → ¬ (x.block = b ∨ mo = some x.block) := fun x hx => by
    rintro (e | e)
    · exact (h.hx x hx).2.2.1 e
    · exact h.hmx _ x e hx rfl
  refine ⟨hw, (ht.cell (p := ⟨X, 0, none⟩) hXl sX).trans h.x0, (ht.cell (p := ⟨X, 1, none⟩) hXl sX).trans h.x1, (ht.frozen (p := ⟨X, 0, none⟩) hXl sX).trans h.f0, (ht.frozen (p := ⟨X, 1, none⟩) hXl sX).trans h.f1, h.row.touch ht sx, h.hb, h.hX, h.bX, fun k hk => ?_, fun x hx => ?_, fun k y hk hy => ?_, h.bel.trans (ht.below hs fun k hk e => ?_)⟩
  · rcases hf k hk with e | e
    · exact h.hm k e
    · exact ⟨by omega, by omega⟩
  · have g := h.hx x hx
    have := ht.size
    exact ⟨g.1, by omega, g.2.2⟩
  · rcases hf k hk with e | e
    · exact h.hmx k y e hy
    · have := (h.hx y hy).2.1; omega
  · rcases e with e | e
    · have := h.hb; omega
    · have := (h.hm _ e).1; omega
/-- The document's answer goes into its box. -/
theorem Iw2.ref {w : World} {b X F : Nat} {mo : Option Nat} {n : Nat} {xa : Option Addr} {xc : Nat} {L : Its} {wr : World} {n' : Nat} {L' : Its} (h : Iw2 w b X F mo ⟨numW F n', numL F L'⟩ n xa xc L wr) {xa' : Option Addr} {xc' : Nat} {w1 : World} (hr : RNew wr xa xa' xc' L' w1) (k : Nat) (hk : L'.length = k) :
    Iw w b X F mo n' xa' xc' L' ((w1.setCell ⟨X, 0, none⟩ (.int .i64 (n' : Int))).setCell ⟨X, 1, none⟩ (.slice xa' k xc')) := by
  subst hk
  have h1 := h.keep hr.bel
  have ht := set2_touch w1 X (.int .i64 (n' : Int)) (.slice xa' L'.length xc')
  have hbl : b < wr.heap.size := h.i.lt
  have hfr : ∀ x, xa' = some x → w.heap.size ≤ x.block ∧ x.block < w1.heap.size ∧ x.block ≠ b ∧ x.block ≠ X := fun x hx => by
    rcases hr.fresh with e | e
    · exact h1.hx x (by rw [← e]; exact hx)
    · have := e x hx
      have := h.lt
      have := h.hb
      have := h.bel.size
      exact ⟨by omega, by omega, by omega, by omega⟩
  have x0 : (w1.setCell ⟨X, 0, none⟩ (.int .i64 (n' : Int))).cell? ⟨X, 0, none⟩ = some (.int .i64 (n' : Int)) := World.cell?_setCell_same _ _ _ h1.x0
  have x1 : (w1.setCell ⟨X, 0, none⟩ (.int .i64 (n' : Int))).cell? ⟨X, 1, none⟩ = some (.slice xa L.length xc) := (World.cell?_setCell_other _ _ _ _ (by simp)).trans h1.x1
  refine ⟨h1.i.touch ht h1.bX (fun k hk => (h1.hm k hk).2), (World.cell?_setCell_other _ _ _ _ (by simp)).trans x0, World.cell?_setCell_same _ _ _ x1, by simpa using h1.f0, by simpa using h1.f1, hr.row.touch ht (fun x hx => (hfr x hx).2.2.2), hr.nn, ⟨hr.cap, hr.cmax⟩, h1.hb, h1.hX, h1.bX, h1.hm, fun x hx => ?_, fun k y hk hy => ?_, h1.bel.trans (ht.below h1.bel.size fun k hk e => by have := h1.hX; omega)⟩
  · have g := hfr x hx
    have := ht.size
    exact ⟨g.1, by omega, g.2.2⟩
  · rcases hr.fresh with e | e
    · exact h.hmx k y hk (by rw [← e]; exact hy)
    · have := (e y hy).1
      have := h.i.mlt k hk
      omega
theorem Iw.start {w : World} {b first : Nat} {w2 : World} (hf : first < 4294967296) (hi : WI w2 b none ⟨first, []⟩) (hb : w.heap.size ≤ b) (h2 : Below w.heap.size w w2) (ty : TypeId) : Iw w b w2.heap.size (bas first) none 1000 none 0 [] (w2.alloc (.cells #[.int .i64 1000, .slice none 0 0] ty)) := by
  have hA : Below w2.heap.size w2 (w2.alloc (.cells #[.int .i64 1000, .slice none 0 0] ty)) := bel_alloc (Below.refl _ _) _
  have hs := h2.size
  have hbl := hi.lt
  have hi2 : WI w2 b none ⟨numW (bas first) 1000, numL (bas first) []⟩ := by rw [num_bas0 first hf]; exact hi
  exact ⟨hi2.keep hA, new_cell rfl rfl, new_cell rfl rfl, frozen_new _ _ _ _, frozen_new _ _ _ _, (fun h => by simp at h), (fun _ => rfl), ⟨by simp, by unfold maxLen; omega⟩, hb, hs, by omega, (fun k hk => by cases hk), (fun x hx => by cases hx), (fun k y hk => by cases hk), bel_alloc h2 _⟩
end Go.Proofs.Ytpilkaggiajjmaa
