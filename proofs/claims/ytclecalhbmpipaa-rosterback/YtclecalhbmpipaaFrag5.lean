/-
  Layer 12: what stands at the head of the laws.
-/
import Derived.Test.YtclecalhbmpipaaFrag4
namespace Go.Proofs.Ytclecalhbmpipaa
open Go.RowKit
set_option linter.unusedVariables false

theorem new_at (W : World) (n : Nat) (h : W.heap.size = n) (cs : Array Value) (t : TypeId) (j : Nat) : (W.alloc (.cells cs t)).cell? ⟨n, j, none⟩ = cs[j]? := by subst h; simp
def zerosN (n : Nat) : List UInt8 := List.replicate n 0
theorem zerosN_len (n : Nat) : (zerosN n).length = n := List.length_replicate
theorem zmade (u : World) (z : Int) (n : Nat) (hz : z = (n : Int)) (hn : n ≤ 1000) : (Instr.makeSlice 153 (.int .i64 z) (.int .i64 z)).run Try.prog u = .ok (.slice (some ⟨u.heap.size, 0, none⟩) n n) (u.alloc (.cells (madeCells #[.int .u8 0] n) 5)) := by
  have h0 : (Try.prog.info? 5).map (fun i => (i.zero, i.size, i.bytes)) = some (some (.int .u8 0), 1, 1) := by kernel_rfl
  obtain ⟨i0, hi, hz0, hz1, hz2⟩ := info_is h0
  have := run_make (P := Try.prog) u 153 5 i0 _ Try.underlying153 hi hz0 .i64 .i64 z z (by omega) (by omega) (by rw [hz2]; omega) (by omega)
  rw [hz1] at this
  subst hz
  simpa [Value.cells] using this
theorem zstr (u : World) (B n : Nat) (hB : u.heap.size = B) : (convert 153 9 (.slice (some ⟨B, 0, none⟩) n n)).run Try.prog (u.alloc (.cells (madeCells #[.int .u8 0] n) 5)) = .ok (.string (bs (zerosN n))) (u.alloc (.cells (madeCells #[.int .u8 0] n) 5)) := by
  refine bytes_back _ B n n (zerosN n) (zerosN_len n).symm (fun j hj => ?_)
  rw [zerosN_len] at hj
  rw [new_at _ _ hB, ← Array.getElem?_toList, toList_madeCells_one, List.getElem?_replicate, if_pos hj]
  have : ∀ (h : j < (zerosN n).length), (zerosN n)[j] = 0 := fun h => by unfold zerosN; exact List.getElem_replicate _
  rw [this]
  rfl
theorem PMem.keep {e : TypeId} {w : World} {ls : List Pt} {a : Option Addr} {c : Nat} {wr w' : World} (h : PMem e w ls a c wr) (hb : Below wr.heap.size wr w') : PMem e w ls a c w' :=
  ⟨h.row.touch (touch_of_below (S := fun _ => False) hb) (fun _ _ => id), h.bel.trans (hb.mono h.bel.size)⟩
end Go.Proofs.Ytclecalhbmpipaa
