/-
  The calls of a reader of bytes: what each comes to, as plain functions of what is left and of the error.
-/
import Derived.Test.YtfkhfincggligaaWireIn
import Derived.Test.YtfkhfincggligaaTouch
import Derived.Laws.DeepNot64
namespace Go.Proofs.Ytfkhfincggligaa
open Go.RowKit
set_option linter.unusedVariables false

/-- A reader lies at block b: these bytes are left, this is the error; behind an error nothing is left. -/
def InSt (w : World) (b : Nat) (st : List UInt8 × Nat) : Prop :=
  w.cell? ⟨b, 0, none⟩ = some (.string (bs st.1)) ∧ w.cell? ⟨b, 1, none⟩ = some (.int .i64 (st.2 : Nat)) ∧ w.frozen? ⟨b, 0, none⟩ = false ∧ w.frozen? ⟨b, 1, none⟩ = false ∧
    st.1.length ≤ 1000000000 ∧ (st.2 ≠ 0 → st.1 = []) ∧ st.2 ≤ 1000
theorem InSt.lt {w : World} {b : Nat} {st : List UInt8 × Nat} (h : InSt w b st) : b < w.heap.size := block_lt_of_cell h.1
theorem InSt.touch {S : Nat → Prop} {w w' : World} {b : Nat} {st : List UInt8 × Nat} (h : InSt w b st) (ht : Touch S w w') (hs : ¬ S b) : InSt w' b st :=
  ⟨(ht.cell (p := ⟨b, 0, none⟩) h.lt hs).trans h.1, (ht.cell (p := ⟨b, 1, none⟩) h.lt hs).trans h.2.1, (ht.frozen (p := ⟨b, 0, none⟩) h.lt hs).trans h.2.2.1, (ht.frozen (p := ⟨b, 1, none⟩) h.lt hs).trans h.2.2.2.1, h.2.2.2.2⟩
theorem InSt.below {w w' : World} {b : Nat} {st : List UInt8 × Nat} (h : InSt w b st) (ht : Below w.heap.size w w') : InSt w' b st :=
  h.touch (touch_of_below (S := fun _ => False) ht) id
/-- What a call of a reader leaves. -/
def InTo (w : World) (b : Nat) (st : List UInt8 × Nat) (w' : World) : Prop := InSt w' b st ∧ Touch (fun k => k = b) w w'
theorem inSt_left {w : World} {b : Nat} {l : List UInt8} {e : Nat} (h : InSt w b (l, e)) (l' : List UInt8) (hl : l'.length ≤ 1000000000) (he : e ≠ 0 → l' = []) : InSt (w.setCell ⟨b, 0, none⟩ (.string (bs l'))) b (l', e) := by
  obtain ⟨h0, h1, h2, h3, h4, h5, h6⟩ := h
  exact ⟨World.cell?_setCell_same _ _ _ h0, (World.cell?_setCell_other _ _ _ _ (by simp)).trans h1, by simpa using h2, by simpa using h3, hl, he, h6⟩
theorem inSt_fail {w : World} {b : Nat} {l : List UInt8} {e : Nat} (h : InSt w b (l, e)) (x : Nat) (hx : x ≤ 1000) : InSt ((w.setCell ⟨b, 1, none⟩ (.int .i64 (x : Nat))).setCell ⟨b, 0, none⟩ (.string (bs []))) b ([], x) := by
  obtain ⟨h0, h1, h2, h3, h4, h5, h6⟩ := h
  refine ⟨World.cell?_setCell_same _ _ _ ((World.cell?_setCell_other _ _ _ _ (by simp)).trans h0), (World.cell?_setCell_other _ _ _ _ (by simp)).trans (World.cell?_setCell_same _ _ _ h1), by simpa using h2, by simpa using h3, by simp, fun _ => rfl, hx⟩

def failS (st : List UInt8 × Nat) (x : Nat) : List UInt8 × Nat := if st.2 = 0 ∧ x ≠ 0 then ([], x) else st
theorem failS_ok (st : List UInt8 × Nat) (x : Nat) (h : st.2 ≠ 0 → st.1 = []) : (failS st x).2 ≠ 0 → (failS st x).1 = [] := by
  unfold failS; split
  · intro _; rfl
  · exact h
def endS (st : List UInt8 × Nat) : List UInt8 × Nat := if 0 < st.1.length then failS st 2 else st
def rawS (st : List UInt8 × Nat) (n : Int) : (List UInt8 × Nat) × List UInt8 :=
  if st.1.length < n.toNat then (failS st 1, []) else ((st.1.drop n.toNat, st.2), st.1.take n.toNat)
def numS (st : List UInt8 × Nat) : (List UInt8 × Nat) × Nat :=
  if (numT st.1).2.2 ≠ 0 then (failS st (numT st.1).2.2, 0) else ((st.1.drop (numT st.1).2.1, st.2), (numT st.1).1)
theorem numS_lt (st : List UInt8 × Nat) : (numS st).2 < 18446744073709551616 := by
  unfold numS; split
  · exact Nat.zero_lt_succ _
  · exact numT_lt _
def countS (st : List UInt8 × Nat) (most : Int) : (List UInt8 × Nat) × Nat :=
  if max most 0 < ((numS st).2 : Int) then (failS (numS st).1 3, 0) else numS st
def unzig (n : Nat) : Int := if n % 2 = 1 then -1 - ((n / 2 : Nat) : Int) else ((n / 2 : Nat) : Int)
def strS (st : List UInt8 × Nat) (most : Int) : (List UInt8 × Nat) × List UInt8 := rawS (countS st most).1 ((countS st most).2 : Int)
theorem countS_lt (st : List UInt8 × Nat) (most : Int) (h : most ≤ 9223372036854775807) : (countS st most).2 ≤ 9223372036854775807 := by
  unfold countS; split
  · exact Nat.zero_le _
  · omega
end Go.Proofs.Ytfkhfincggligaa
