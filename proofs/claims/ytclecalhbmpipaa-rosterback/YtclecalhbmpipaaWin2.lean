/-
  Layer 13: what goes out in its order.
-/
import Derived.Test.YtclecalhbmpipaaWin1
namespace Go.Proofs.Ytclecalhbmpipaa
open Go.RowKit
set_option linter.unusedVariables false

/-- The awaited ones, as long as they wait. -/
def goW : Nat → Ws → Ws × List (List UInt8)
  | 0, s => (s, [])
  | f + 1, s => match findW s.l s.nx with
    | none => (s, [])
    | some t => ((goW f ⟨(s.nx + 1) % 4294967296, s.l.filter (fun p => p.1 != s.nx)⟩).1, t :: (goW f ⟨(s.nx + 1) % 4294967296, s.l.filter (fun p => p.1 != s.nx)⟩).2)
theorem goW_none {f : Nat} {s : Ws} (h : findW s.l s.nx = none) : goW f s = (s, []) := by
  cases f with
  | zero => rfl
  | succ f => simp [goW, h]
theorem goW_some {f : Nat} {s : Ws} {t : List UInt8} (h : findW s.l s.nx = some t) : goW (f + 1) s = ((goW f ⟨(s.nx + 1) % 4294967296, s.l.filter (fun p => p.1 != s.nx)⟩).1, t :: (goW f ⟨(s.nx + 1) % 4294967296, s.l.filter (fun p => p.1 != s.nx)⟩).2) := by
  simp [goW, h]
theorem filter_less {l : List (Nat × List UInt8)} {n : Nat} {t : List UInt8} (h : (n, t) ∈ l) : (l.filter (fun p => p.1 != n)).length < l.length := by
  have : (l.filter (fun p => p.1 != n)).length ≠ l.length := fun e => by
    have := List.filter_eq_self.1 (List.length_filter_eq_length_iff.1 e |> fun hh => List.filter_eq_self.2 hh) (n, t) h
    simp at this
  have := List.length_filter_le (fun p : Nat × List UInt8 => p.1 != n) l
  omega
/-- What came at b, its map at r; what went out, in a row of its own. -/
structure GoMem (w : World) (b r : Nat) (s : Ws) (a : Option Addr) (c : Nat) (ts : List (List UInt8)) (wr : World) : Prop where
  wa : WAt wr b r s
  row : OwnV 9 1 w.heap.size a c (ts.map strCells1) wr
  tch : Touch (fun k => k = b ∨ k = r) w wr
theorem GoMem.keep {w : World} {b r : Nat} {s : Ws} {a : Option Addr} {c : Nat} {ts : List (List UInt8)} {wr w' : World} (h : GoMem w b r s a c ts wr) (hb : Below wr.heap.size wr w') : GoMem w b r s a c ts w' :=
  ⟨h.wa.keep hb, h.row.touch (touch_of_below (S := fun _ => False) hb) (fun _ _ => id), h.tch.trans' (touch_of_below (S := fun _ => False) hb) (fun _ _ => False.elim)⟩
theorem GoMem.next {w : World} {b r : Nat} {s : Ws} {a : Option Addr} {c : Nat} {ts : List (List UInt8)} {wr : World} (h : GoMem w b r s a c ts wr) (hbw : b < w.heap.size) (m : Nat) (hm : m < 4294967296) : GoMem w b r ⟨m, s.l⟩ a c ts (wr.setCell ⟨b, 0, none⟩ (.int .u32 (m : Int))) := by
  have ht : Touch (fun k => k = b) wr (wr.setCell ⟨b, 0, none⟩ (.int .u32 (m : Int))) := (Touch.refl (fun k => k = b) wr).setCell (p := ⟨b, 0, none⟩) (fun _ => rfl) _
  exact ⟨h.wa.next m hm, h.row.touch ht (fun x hx e => by have := h.row.2 x hx; omega), h.tch.trans' ht (fun k hk e => .inl e)⟩
def GoPost (w : World) (b r : Nat) (s' : Ws) (ts : List (List UInt8)) (e : Ending) (w' : World) : Prop := ∃ a c, e = .returned (.slice a ts.length c) ∧ GoMem w b r s' a c ts w'
end Go.Proofs.Ytclecalhbmpipaa
