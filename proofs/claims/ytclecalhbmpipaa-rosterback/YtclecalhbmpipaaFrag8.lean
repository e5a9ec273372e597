/-
  Layer 12: many parts at once.
-/
import Derived.Test.YtclecalhbmpipaaFrag7
namespace Go.Proofs.Ytclecalhbmpipaa
open Go.RowKit
set_option linter.unusedVariables false

/-- What joins lies at b, the messages that are whole in a row of their own. -/
structure AllMem (w : World) (b : Nat) (v v' : Value) (s : Js) (a : Option Addr) (c : Nat) (ms : List (List UInt8)) (wr : World) : Prop where
  j : JAt wr b v' s
  jn : ∀ k, v'.ownBlock = some k → v.ownBlock = some k ∨ w.heap.size ≤ k
  jd : ∀ x, a = some x → v'.ownBlock ≠ some x.block
  row : OwnV 9 1 0 a c (ms.map strCells1) wr
  new : ∀ x, a = some x → w.heap.size ≤ x.block
  tch : Touch (fun k => k = b ∨ v.ownBlock = some k) w wr
theorem AllMem.keep {w : World} {b : Nat} {v v' : Value} {s : Js} {a : Option Addr} {c : Nat} {ms : List (List UInt8)} {wr w' : World} (h : AllMem w b v v' s a c ms wr) (hb : Below wr.heap.size wr w') : AllMem w b v v' s a c ms w' :=
  ⟨h.j.keep hb, h.jn, h.jd, h.row.touch (touch_of_below (S := fun _ => False) hb) (fun _ _ => id), h.new, h.tch.trans' (touch_of_below (S := fun _ => False) hb) (fun _ _ => False.elim)⟩
theorem AllMem.put {w : World} {b : Nat} {v v' : Value} {s s' : Js} {a : Option Addr} {c : Nat} {ms : List (List UInt8)} {wr w' : World} (hbw : b < w.heap.size) (h : AllMem w b v v' s a c ms wr) (hj : JoTo wr b v' s' w') : ∃ v2, AllMem w b v v2 s' a c ms w' := by
  obtain ⟨v2, g1, g2, g3⟩ := hj
  have hs := h.tch.size
  refine ⟨v2, g1, fun k hk => ?_, fun x hx e => ?_, h.row.touch g3 (fun x hx e => ?_), h.new, h.tch.trans' g3 (fun k hk e => ?_)⟩
  · rcases g2 k hk with e | e
    · exact h.jn k e
    · exact .inr (by omega)
  · rcases g2 _ e with e | e
    · exact h.jd x hx e
    · have := h.row.lt x hx; omega
  · rcases e with e | e
    · have := h.new x hx; omega
    · exact h.jd x hx e
  · rcases e with e | e
    · exact .inl e
    · rcases h.jn k e with e | e
      · exact .inr e
      · omega
theorem AllMem.app {w : World} {b : Nat} {v v' : Value} {s : Js} {a a' : Option Addr} {c c' : Nat} {ms ms' : List (List UInt8)} {wr w' : World} (hbw : b < w.heap.size) (hvw : ∀ k, v.ownBlock = some k → k < w.heap.size) (h : AllMem w b v v' s a c ms wr) (ho : OwnV 9 1 0 a' c' (ms'.map strCells1) w') (ht : Touch (fun k => a.map (·.block) = some k) wr w') (hn : ∀ x, a' = some x → a.map (·.block) = some x.block ∨ wr.heap.size ≤ x.block) : AllMem w b v v' s a' c' ms' w' := by
  have hs := h.tch.size
  have hna : ∀ k, a.map (·.block) = some k → w.heap.size ≤ k ∧ v'.ownBlock ≠ some k := fun k e => by
    cases a with
    | none => simp at e
    | some y => simp at e; subst e; exact ⟨h.new y rfl, h.jd y rfl⟩
  refine ⟨h.j.touch ht (fun e => ?_) (fun k hk e => (hna k e).2 hk), h.jn, fun x hx e => ?_, ho, fun x hx => ?_, h.tch.trans' ht (fun k hk e => ?_)⟩
  · have := (hna b e).1; omega
  · rcases hn x hx with e1 | e1
    · exact (hna _ e1).2 e
    · have := h.j.fresh _ e; omega
  · rcases hn x hx with e1 | e1
    · exact (hna _ e1).1
    · omega
  · have := (hna k e).1; omega
def AllPost (w : World) (b : Nat) (v : Value) (ms : List (List UInt8)) (s : Js) (r : Ending) (w' : World) : Prop :=
  ∃ a c v', r = .returned (.tuple #[.slice a ms.length c, .int .i64 0]) ∧ AllMem w b v v' s a c ms w'
end Go.Proofs.Ytclecalhbmpipaa
