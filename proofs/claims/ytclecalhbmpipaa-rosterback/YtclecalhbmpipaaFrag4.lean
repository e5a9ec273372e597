/-
  Layer 12: a message's parts; the document's; what stands at the head of the laws.
-/
import Derived.Test.YtclecalhbmpipaaFrag3
namespace Go.Proofs.Ytclecalhbmpipaa
open Go.RowKit
set_option linter.unusedVariables false

/-- How many parts are ahead of the last one. -/
def moreN (n : Nat) : Nat := (n - 1) / 200
def ptAt (l : List UInt8) (i : Nat) : Pt := ⟨false, (l.drop (200 * i)).take 200⟩
def cutK (l : List UInt8) (k : Nat) : List Pt := (List.range k).map (ptAt l)
def lastP (l : List UInt8) : Pt := ⟨true, l.drop (200 * moreN l.length)⟩
def cutL (l : List UInt8) : List Pt := cutK l (moreN l.length) ++ [lastP l]
theorem cutK_succ (l : List UInt8) (k : Nat) : cutK l (k + 1) = cutK l k ++ [ptAt l k] := by simp [cutK, List.range_succ]
theorem cutK_len (l : List UInt8) (k : Nat) : (cutK l k).length = k := by simp [cutK]
theorem cutL_len (l : List UInt8) : (cutL l).length = moreN l.length + 1 := by simp [cutL, cutK]
theorem cutL_at (l : List UInt8) (i : Nat) (h : i < (cutL l).length) : (cutL l)[i] = if i < moreN l.length then ptAt l i else lastP l := by
  have h' := h
  rw [cutL_len] at h'
  have e : (cutL l)[i]? = some (if i < moreN l.length then ptAt l i else lastP l) := by
    show (cutK l (moreN l.length) ++ [lastP l])[i]? = _
    rw [List.getElem?_append, cutK_len]
    split
    · rename_i h1
      simp [cutK, h1]
    · rename_i h1
      have : i - moreN l.length = 0 := by omega
      rw [this]; rfl
  rw [List.getElem?_eq_getElem h] at e
  exact Option.some.inj e
theorem cutL_text (l : List UInt8) (i : Nat) (h : i < (cutL l).length) : ((cutL l)[i]).text.length ≤ 200 := by
  rw [cutL_at]
  split
  · simp only [ptAt, List.length_take]; omega
  · simp only [lastP, List.length_drop, moreN]; omega
theorem pt_wide (l : List Pt) : VWide 2 (l.map ptCells) := by
  intro x hx
  obtain ⟨p, -, rfl⟩ := List.mem_map.1 hx
  refine ⟨rfl, fun u hu => ?_⟩
  simp only [ptCells, List.mem_cons, List.not_mem_nil, or_false] at hu
  rcases hu with rfl | rfl <;> rfl
/-- A row of parts of the call's own. -/
structure PMem (e : TypeId) (w : World) (ls : List Pt) (a : Option Addr) (c : Nat) (wr : World) : Prop where
  row : OwnV e 2 w.heap.size a c (ls.map ptCells) wr
  bel : Below w.heap.size w wr
theorem PMem.step {e T : TypeId} {z : Value} {by' : Nat} (H : VTy e 2 z by') (hT : Try.prog.underlying T = some (.slice e)) {w : World} {ls : List Pt} {a : Option Addr} {c : Nat} {wr : World} (h : PMem e w ls a c wr) (pl : Bool) (pt : List UInt8) (hl : ls.length ≤ 1000) (k : Nat) (hk : ls.length = k) :
    ∃ a' c' w', (Builtin.append_ #[T, T] T #[.slice a k c, .slice (some ⟨wr.heap.size, 0, none⟩) 1 1]).run Try.prog (wr.alloc (.cells #[.bool pl, .string (bs pt)] e)) = .ok (.slice a' (k + 1) c') w' ∧ PMem e w (ls ++ [⟨pl, pt⟩]) a' c' w' := by
  subst hk
  obtain ⟨a', c', w', hrun, hnew, htch⟩ := h.row.one (t := T) (ty := T) H hT h.bel.size (ptCells ⟨pl, pt⟩) (by have := pt_wide [⟨pl, pt⟩] (ptCells ⟨pl, pt⟩) (by simp); exact this) (by simp; omega) _ rfl
  simp only [List.length_map] at hrun
  have nlo : ∀ j, j < w.heap.size → ¬ a.map (·.block) = some j := fun j hj e => by
    cases a with
    | none => simp at e
    | some x => simp at e; have := h.row.2 x rfl; omega
  exact ⟨a', c', w', hrun, by rw [List.map_append]; exact hnew, h.bel.trans (htch.below h.bel.size nlo)⟩
theorem own_part {e : TypeId} {B : Nat} {a : Option Addr} {c : Nat} {ls : List Pt} {w : World} (h : OwnV e 2 B a c (ls.map ptCells) w) (h0 : 0 < ls.length) : ∃ gb, a = some ⟨gb, 0, none⟩ ∧ gb < w.heap.size ∧ B ≤ gb ∧ ∀ i (hi : i < ls.length), w.cell? ⟨gb, i * 2, none⟩ = some (.bool ls[i].last) ∧ w.cell? ⟨gb, i * 2 + 1, none⟩ = some (.string (bs ls[i].text)) := by
  have hlen : (ls.map ptCells).length = ls.length := by simp
  rcases h.1.2 with ⟨-, h00⟩ | ⟨g, cap, cur, hv, -, hg, hnc, -, hsz, htk⟩
  · omega
  · have hr := h.row (pt_wide _) (by rw [hlen]; exact h0)
    obtain ⟨b, off, e1, hc⟩ := hr
    simp only [Value.slice.injEq] at hv
    rw [hv.1] at e1
    simp only [Option.some.injEq, Addr.mk.injEq] at e1
    obtain ⟨rfl, rfl, -⟩ := e1
    refine ⟨g, hv.1, (Array.getElem?_eq_some_iff.1 hg).1, h.2 _ hv.1, fun i hi => ?_⟩
    have hx : ∀ j, j < 2 → w.cell? ⟨g, i * 2 + j, none⟩ = (ptCells ls[i])[j]? := fun j hj => by
      have h1 := hc i (by rw [hlen]; exact hi) j hj
      rw [Nat.zero_add] at h1
      rw [h1]
      simp
    exact ⟨hx 0 (by decide), hx 1 (by decide)⟩
end Go.Proofs.Ytclecalhbmpipaa
