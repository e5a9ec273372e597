/-
  Layer 13: a thing comes that is there, or that isn't.
-/
import Derived.Test.YtclecalhbmpipaaWin3
namespace Go.Proofs.Ytclecalhbmpipaa
open Go.RowKit
set_option linter.unusedVariables false

/-- The thing's box at X, what came at b. -/
structure PuMem (w : World) (b X : Nat) (mo : Option Nat) (s : Ws) (n : Nat) (t : List UInt8) (wx : World) : Prop where
  x0 : wx.cell? ⟨X, 0, none⟩ = some (.int .u32 (n : Int))
  x1 : wx.cell? ⟨X, 1, none⟩ = some (.string (bs t))
  wi : WI wx b mo s
  bel : Below w.heap.size w wx
theorem PuMem.keep {w : World} {b X : Nat} {mo : Option Nat} {s : Ws} {n : Nat} {t : List UInt8} {wx w' : World} (h : PuMem w b X mo s n t wx) (hb : Below wx.heap.size wx w') : PuMem w b X mo s n t w' :=
  ⟨(hb.cell (p := ⟨X, 0, none⟩) (block_lt_of_cell h.x0)).trans h.x0, (hb.cell (p := ⟨X, 1, none⟩) (block_lt_of_cell h.x1)).trans h.x1, h.wi.keep hb, h.bel.trans (hb.mono h.bel.size)⟩
theorem WI.c0 {w : World} {b : Nat} {mo : Option Nat} {s : Ws} (h : WI w b mo s) : w.cell? ⟨b, 0, none⟩ = some (.int .u32 (s.nx : Int)) := by
  rcases h with ⟨h1, h2, h3⟩ | ⟨r, h1, h2⟩
  · exact h3.c0
  · exact h2.c0
theorem WI.c1 {w : World} {b : Nat} {mo : Option Nat} {s : Ws} (h : WI w b mo s) : w.cell? ⟨b, 1, none⟩ = some (.map mo) := by
  rcases h with ⟨h1, h2, h3⟩ | ⟨r, h1, h2⟩
  · rw [h1]; exact h3.c1
  · rw [h1]; exact h2.c1
/-- The same, with a map. -/
structure PuIn (w : World) (b X r : Nat) (mo : Option Nat) (s : Ws) (n : Nat) (t : List UInt8) (wx : World) : Prop where
  x0 : wx.cell? ⟨X, 0, none⟩ = some (.int .u32 (n : Int))
  x1 : wx.cell? ⟨X, 1, none⟩ = some (.string (bs t))
  wa : WAt wx b r s
  fr : mo = some r ∨ w.heap.size ≤ r
  tch : Touch (fun k => k = b ∨ mo = some k) w wx
theorem PuMem.made {w : World} {b X : Nat} {s : Ws} {n : Nat} {t : List UInt8} {wx : World} (h : PuMem w b X none s n t wx) (hX : X = w.heap.size) (hbw : b < w.heap.size) : PuIn w b X wx.heap.size none s n t ((wx.setCell ⟨b, 1, none⟩ (.map (some wx.heap.size))).alloc (.map #[] 0)) := by
  have hs := h.bel.size
  obtain ⟨-, hl, h3⟩ : (none : Option Nat) = none ∧ s.l = [] ∧ W0At wx b s.nx := by
    rcases h.wi with h1 | ⟨r, h1, -⟩
    · exact h1
    · cases h1
  have ht : Touch (fun k => k = b) wx (wx.setCell ⟨b, 1, none⟩ (.map (some wx.heap.size))) := (Touch.refl (fun k => k = b) _).setCell (p := ⟨b, 1, none⟩) (fun _ => rfl) _
  have hsz : (wx.setCell ⟨b, 1, none⟩ (.map (some wx.heap.size))).heap.size = wx.heap.size := by simp
  have c0 : (wx.setCell ⟨b, 1, none⟩ (.map (some wx.heap.size))).cell? ⟨b, 0, none⟩ = some (.int .u32 (s.nx : Int)) := (World.cell?_setCell_other _ _ _ _ (by simp)).trans h3.c0
  have c1 : (wx.setCell ⟨b, 1, none⟩ (.map (some wx.heap.size))).cell? ⟨b, 1, none⟩ = some (.map (some wx.heap.size)) := World.cell?_setCell_same _ _ _ h3.c1
  have f0 : (wx.setCell ⟨b, 1, none⟩ (.map (some wx.heap.size))).frozen? ⟨b, 0, none⟩ = false := by simpa using h3.f0
  have f1 : (wx.setCell ⟨b, 1, none⟩ (.map (some wx.heap.size))).frozen? ⟨b, 1, none⟩ = false := by simpa using h3.f1
  have x0 := (ht.cell (p := ⟨X, 0, none⟩) (block_lt_of_cell h.x0) (by show ¬ X = b; omega)).trans h.x0
  have x1 := (ht.cell (p := ⟨X, 1, none⟩) (block_lt_of_cell h.x1) (by show ¬ X = b; omega)).trans h.x1
  have hT := (touch_of_below (S := fun k => k = b ∨ (none : Option Nat) = some k) h.bel).setCell (p := ⟨b, 1, none⟩) (fun _ => .inl rfl) (.map (some wx.heap.size))
  have hbl := h3.lt
  generalize hW : wx.setCell ⟨b, 1, none⟩ (.map (some wx.heap.size)) = W' at hsz c0 c1 f0 f1 x0 x1 hT
  have hb' : b < W'.heap.size := by omega
  have hm := MpAt.made .u32 W'
  rw [hsz] at hm
  exact ⟨alloc_cell x0 _, alloc_cell x1 _, ⟨alloc_cell c0 _, alloc_cell c1 _, (frozen_old _ _ _ hb').trans f0, (frozen_old _ _ _ hb').trans f1, by rw [hl]; exact hm, h3.nx, by omega⟩, .inr hs, hT.alloc _⟩
theorem PuIn.post {w : World} {b X r : Nat} {mo : Option Nat} {s : Ws} {n : Nat} {t : List UInt8} {wx w5 w6 : World} (h : PuIn w b X r mo s n t wx) (ht : Touch (fun j => j = r) wx w5) {s' : Ws} {ts : List (List UInt8)} {a : Option Addr} {c : Nat} (hg : GoMem w5 b r s' a c ts w6) : InPost w b mo (s', ts, 0) (.returned (.tuple #[.slice a ts.length c, .int .i64 0])) w6 := by
  have hs := h.tch.size
  have hs5 := ht.size
  refine ⟨a, c, some r, rfl, .inr ⟨r, rfl, hg.wa⟩, fun r' hr => by cases hr; exact h.fr, ⟨hg.row.1, fun x hx => by have := hg.row.2 x hx; omega⟩, (h.tch.trans' ht fun k hk e => ?_).trans' hg.tch fun k hk e => ?_⟩
  · rcases h.fr with e2 | e2
    · right; rw [e2]; exact congrArg some e.symm
    · omega
  · rcases e with e | e
    · exact .inl e
    · rcases h.fr with e2 | e2
      · right; rw [e2]; exact congrArg some e.symm
      · omega
end Go.Proofs.Ytclecalhbmpipaa
