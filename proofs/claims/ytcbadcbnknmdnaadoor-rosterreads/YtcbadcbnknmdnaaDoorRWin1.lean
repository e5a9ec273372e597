/-
  Layer 13: the document's own: does a number wait; does an ack tell it.
-/
import Derived.Test.YtcbadcbnknmdnaaDoorWinR
import Derived.Deep.RegionHeld3
import Derived.Deep.RegionLaw
namespace Go.Proofs.YtcbadcbnknmdnaaDoor
open Go.RowKit
set_option linter.unusedVariables false

def riC (p : Nat × List UInt8) : List Value := [.int .i64 (p.1 : Int), .string (bs p.2)]
theorem ri_wide (l : Its) : VWide 2 (l.map riC) := by
  intro x hx
  obtain ⟨p, -, rfl⟩ := List.mem_map.1 hx
  refine ⟨rfl, fun u hu => ?_⟩
  simp only [riC, List.mem_cons, List.not_mem_nil, or_false] at hu
  rcases hu with rfl | rfl <;> rfl
/-- A row of the document's things. -/
def RRow (w : World) (a : Option Addr) (L : Its) : Prop := VRow 2 w a (L.map riC)
theorem RRow.at {w : World} {a : Option Addr} {L : Its} (h : RRow w a L) {k : Nat} (hk : k < L.length) : ∃ b off, a = some ⟨b, off, none⟩ ∧ b < w.heap.size ∧ w.cell? ⟨b, off + k * 2, none⟩ = some (.int .i64 (L[k].1 : Int)) ∧ w.cell? ⟨b, off + k * 2 + 1, none⟩ = some (.string (bs L[k].2)) := by
  have hlen : (L.map riC).length = L.length := by simp
  obtain ⟨b, off, e1, hc⟩ := h (by rw [hlen]; omega)
  have hx : ∀ j, j < 2 → w.cell? ⟨b, off + k * 2 + j, none⟩ = (riC L[k])[j]? := fun j hj => by
    have h1 := hc k (by rw [hlen]; exact hk) j hj
    rw [h1]
    simp
  have h0 : w.cell? ⟨b, off + k * 2, none⟩ = some (.int .i64 (L[k].1 : Int)) := hx 0 (by decide)
  exact ⟨b, off, e1, block_lt_of_cell h0, h0, hx 1 (by decide)⟩
theorem RRow.touch {S : Nat → Prop} {w w' : World} {a : Option Addr} {L : Its} (h : RRow w a L) (ht : Touch S w w') (hs : ∀ x, a = some x → ¬ S x.block) : RRow w' a L := VRow.touch (by decide) (ri_wide L) h ht hs
theorem RRow.below {w w' : World} {a : Option Addr} {L : Its} (h : RRow w a L) (hb : Below w.heap.size w w') : RRow w' a L := h.touch (touch_of_below (S := fun _ => False) hb) (fun _ _ => id)
def Find13 (L : Its) (x : Nat) (z : Int) : Prop := (∃ k, ∃ (hk : k < L.length), z = (k : Int) ∧ L[k].1 = x) ∨ (z = -1 ∧ ∀ p ∈ L, p.1 ≠ x)
theorem half_step (B i : Nat) : ((B / 2 ^ i : Nat) : Int) / 2 = ((B / 2 ^ (i + 1) : Nat) : Int) := by
  rw [Nat.pow_succ, ← Nat.div_div_eq_div_mul]; omega
end Go.Proofs.YtcbadcbnknmdnaaDoor
