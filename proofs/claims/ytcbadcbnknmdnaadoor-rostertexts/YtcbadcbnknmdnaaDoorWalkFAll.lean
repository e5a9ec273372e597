/-
  The walk of the law FragAll.
-/
import Derived.Test.YtcbadcbnknmdnaaDoorWin8
import Derived.Test.YtcbadcbnknmdnaaDoorFew
namespace Go.Proofs.YtcbadcbnknmdnaaDoor
open Go.RowKit
set_option linter.unusedVariables false

theorem own_str {B : Nat} {a : Option Addr} {c : Nat} {ms : List (List UInt8)} {w : World} (h : OwnV 9 1 B a c (ms.map strCells1) w) (h0 : 0 < ms.length) : ∃ gb, a = some ⟨gb, 0, none⟩ ∧ gb < w.heap.size ∧ ∀ i (hi : i < ms.length), w.cell? ⟨gb, i, none⟩ = some (.string (bs ms[i])) := by
  have hlen : (ms.map strCells1).length = ms.length := by simp
  rcases h.1.2 with ⟨-, h00⟩ | ⟨g, cap, cur, hv, -, hg, hnc, -, hsz, htk⟩
  · omega
  · have hr := h.row (str_wide _) (by rw [hlen]; exact h0)
    obtain ⟨b, off, e1, hc⟩ := hr
    simp only [Value.slice.injEq] at hv
    rw [hv.1] at e1
    simp only [Option.some.injEq, Addr.mk.injEq] at e1
    obtain ⟨rfl, rfl, -⟩ := e1
    refine ⟨g, hv.1, (Array.getElem?_eq_some_iff.1 hg).1, fun i hi => ?_⟩
    have h1 := hc i (by rw [hlen]; exact hi) 0 (by decide)
    rw [Nat.zero_add, Nat.mul_one, Nat.add_zero] at h1
    rw [h1]
    simp [strCells1]
theorem map_none {a : Option Addr} {P : Nat → Prop} (h : ∀ x, a = some x → P x.block) (k : Nat) (e : a.map (·.block) = some k) : P k := by
  cases a with
  | none => simp at e
  | some y => simp at e; subst e; exact h y rfl
theorem parts_snoc (ms : List (List UInt8)) (m : List UInt8) : partsOf (ms ++ [m]) = partsOf ms ++ cutL m := by simp [partsOf]
theorem parts_text (ms : List (List UInt8)) : ∀ p ∈ partsOf ms, p.text.length ≤ 1000000 := by
  intro p hp
  unfold partsOf at hp
  obtain ⟨x, hx, hpx⟩ := List.mem_flatten.1 hp
  obtain ⟨m, -, rfl⟩ := List.mem_map.1 hx
  obtain ⟨i, hi, rfl⟩ := List.getElem_of_mem hpx
  have := cutL_text m i hi
  omega
end Go.Proofs.YtcbadcbnknmdnaaDoor
