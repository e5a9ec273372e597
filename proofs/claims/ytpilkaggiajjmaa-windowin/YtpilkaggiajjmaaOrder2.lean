/-
  Layer 9: batches in memory: may they be, copies of them, are they alike.
-/
import Derived.Test.YtpilkaggiajjmaaOrder
import Derived.RegionTactic
import Derived.Laws.StructEq
import Derived.Deep.QuietTactic
import Derived.BigQuiet
namespace Go.Proofs.Ytpilkaggiajjmaa
open Go.RowKit
set_option linter.unusedVariables false

def ordsI (l : List Ord) : List (List Int) := l.map Ord.ints
theorem ordsI_wide (l : List Ord) : Wide 4 (ordsI l) := by
  intro x hx
  simp only [ordsI, List.mem_map] at hx
  obtain ⟨o, -, rfl⟩ := hx
  rfl
theorem ordsI_len (l : List Ord) : (ordsI l).length = l.length := by simp [ordsI]
theorem ordsI_append (l m : List Ord) : ordsI (l ++ m) = ordsI l ++ ordsI m := by simp [ordsI]
theorem ordsI_take (l : List Ord) (k : Nat) : ordsI (l.take k) = (ordsI l).take k := by simp [ordsI, List.map_take]
def OrdRow (w : World) (a : Option Addr) (l : List Ord) : Prop := RecRow 4 w a (ordsI l)
theorem OrdRow.below {w w' : World} {a : Option Addr} {l : List Ord} (h : OrdRow w a l) (hb : Below w.heap.size w w') : OrdRow w' a l := RecRow.below (by decide) h hb
theorem OrdRow.take {w : World} {a : Option Addr} {l : List Ord} (h : OrdRow w a l) (k : Nat) : OrdRow w a (l.take k) := by
  have := RecRow.take h k
  unfold OrdRow
  rw [ordsI_take]
  exact this
theorem OrdRow.at {w : World} {a : Option Addr} {l : List Ord} (h : OrdRow w a l) {i : Nat} (hi : i < l.length) : ∃ b off, a = some ⟨b, off, none⟩ ∧ b < w.heap.size ∧ w.cell? ⟨b, off + i * 4, none⟩ = some (.int .i64 l[i].kind) ∧ w.cell? ⟨b, off + i * 4 + 1, none⟩ = some (.int .i64 l[i].unit) ∧ w.cell? ⟨b, off + i * 4 + 2, none⟩ = some (.int .i64 l[i].a) ∧ w.cell? ⟨b, off + i * 4 + 3, none⟩ = some (.int .i64 l[i].b) := by
  obtain ⟨b, off, e, hc⟩ := h (by rw [ordsI_len]; omega)
  have hi' : i < (ordsI l).length := by rw [ordsI_len]; exact hi
  have he : (ordsI l)[i] = l[i].ints := by simp [ordsI]
  have c0 := hc i hi' 0 (by decide)
  have c1 := hc i hi' 1 (by decide)
  have c2 := hc i hi' 2 (by decide)
  have c3 := hc i hi' 3 (by decide)
  rw [he] at c0 c1 c2 c3
  exact ⟨b, off, e, block_lt_of_cell c0, c0, c1, c2, c3⟩
/-- The number of the first error. -/
def firstN : List Ord → Nat
  | [] => 0
  | o :: l => if checkN o ≠ 0 then checkN o else firstN l
def batchN (l : List Ord) : Nat := if 8 < l.length then 8 else firstN l
theorem firstN_drop (l : List Ord) (k : Nat) (h : k < l.length) : firstN (l.drop k) = if checkN l[k] ≠ 0 then checkN l[k] else firstN (l.drop (k + 1)) := by
  rw [List.drop_eq_getElem_cons h]; rfl
/-- A batch that none had before. -/
def NewOrd (e : TypeId) (w : World) (a : Option Addr) (c : Nat) (l : List Ord) (w' : World) : Prop := NewRec e 4 w a c (ordsI l) w'
theorem NewOrd.row {e : TypeId} {w w' : World} {a : Option Addr} {c : Nat} {l : List Ord} (h : NewOrd e w a c l w') : OrdRow w' a l := NewRec.row h (ordsI_wide l) (by decide)
theorem NewOrd.bel {e : TypeId} {w w' : World} {a : Option Addr} {c : Nat} {l : List Ord} (h : NewOrd e w a c l w') : Below w.heap.size w w' := h.2.2
theorem NewOrd.keep {e : TypeId} {w w1 w2 : World} {a : Option Addr} {c : Nat} {l : List Ord} (h : NewOrd e w a c l w1) (hb : Below w1.heap.size w1 w2) : NewOrd e w a c l w2 := newRec_keep h hb
theorem newOrd_one {w w1 : World} {t u ty e : TypeId} {z : Value} (H : RecTy e 4 z) (ht : Try.prog.underlying t = some (.slice e)) (hu : Try.prog.underlying u = some (.slice e)) {a1 : Option Addr} {c1 : Nat} {l : List Ord} (h : NewOrd e w a1 c1 l w1) (o : Ord) (hl : l.length + 1 ≤ 1000000) :
    ∃ a' c' w', (Builtin.append_ #[t, u] ty #[.slice a1 l.length c1, .slice (some ⟨w1.heap.size, 0, none⟩) 1 1]).run Try.prog (w1.alloc (.cells #[.int .i64 o.kind, .int .i64 o.unit, .int .i64 o.a, .int .i64 o.b] e)) = .ok (.slice a' (l.length + 1) c') w' ∧ NewOrd e w a' c' (l ++ [o]) w' ∧ Touch (fun b => a1.map (·.block) = some b) w1 w' := by
  obtain ⟨a', c', w', h1, h2, h3⟩ := newRec_one (ty := ty) H ht hu h o.ints rfl (by rw [ordsI_len]; exact hl)
  rw [ordsI_len] at h1
  refine ⟨a', c', w', h1, ?_, h3⟩
  unfold NewOrd
  rw [ordsI_append]
  exact h2
end Go.Proofs.Ytpilkaggiajjmaa
