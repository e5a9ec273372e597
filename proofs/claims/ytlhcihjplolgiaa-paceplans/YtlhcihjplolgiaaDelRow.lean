/-
  A row of one's own from which the first ones are taken out: what slices.Delete's append and clear come to, for records of any cells.
-/
import Derived.Test.YtlhcihjplolgiaaWin9
import Derived.Test.YtlhcihjplolgiaaTim8
import Derived.Laws.CopyOwn
namespace Go.Proofs.Ytlhcihjplolgiaa
open Go.RowKit
set_option linter.unusedVariables false

theorem flat_dropD {k : Nat} : ∀ (ls : List (List Value)), (∀ x ∈ ls, x.length = k) → ∀ i, (ls.drop i).flatten = ls.flatten.drop (i * k)
  | [], _, i => by simp
  | x :: r, hw, 0 => by simp
  | x :: r, hw, i + 1 => by
    have hx := hw x (by simp)
    rw [List.drop_succ_cons, flat_dropD r (fun y hy => hw y (by simp [hy])) i, List.flatten_cons, List.drop_append, hx]
    have e1 : (i + 1) * k - k = i * k := by rw [Nat.add_mul]; omega
    rw [e1, show x.drop ((i + 1) * k) = [] from List.drop_of_length_le (by rw [hx, Nat.add_mul]; omega), List.nil_append]
theorem del_append {e T ty : TypeId} {k by' : Nat} {z : Value} (H : VTy e k z by') (hT : Try.prog.underlying T = some (.slice e)) {w : World} {B g c : Nat} {ls : List (List Value)} (h : OwnV e k B (some ⟨g, 0, none⟩) c ls w) (hw : VWide k ls) (n : Nat) (hn : n ≤ ls.length) (m : Nat) (hm : m = ls.length - n) (c2 : Nat) :
    ∃ w', (Builtin.append_ #[T, T] ty #[.slice (some ⟨g, 0, none⟩) 0 c, .slice (some ⟨g, n * k, none⟩) m c2]).run Try.prog w = .ok (.slice (some ⟨g, 0, none⟩) m c) w' ∧ OwnV e k B (some ⟨g, 0, none⟩) c (ls.drop n ++ ls.drop m) w' ∧ Touch (fun j => j = g) w w' := by
  subst hm
  obtain ⟨i0, hi, hz0, hz1, hz2⟩ := info_is H.info
  have hw0 : ∀ x ∈ ls, x.length = k := fun x hx => (hw x hx).1
  rcases h.1.2 with ⟨hv, -⟩ | ⟨g', cap, cur, hv, hB, hg, hnc, hcm, hsz, htk⟩
  · simp at hv
  · simp only [Value.slice.injEq, Option.some.injEq, Addr.mk.injEq, and_true, true_and] at hv
    obtain ⟨rfl, rfl⟩ := hv
    have hnews : (ls.drop n).flatten.length = (ls.length - n) * k := by
      rw [flat_dropD ls hw0 n, List.length_drop, h.1.1, Nat.sub_mul]
    have hle : ls.length * k ≤ c * k := Nat.mul_le_mul_right k hnc
    have hle2 : (ls.length - n) * k ≤ ls.length * k := Nat.mul_le_mul_right k (by omega)
    have hrun := run_append_room (P := Try.prog) w T ty e i0 hT hi g 0 c cur hg ⟨g, n * k, none⟩ (ls.length - n) c2 (ls.drop n).flatten (by rw [hz1]; exact hnews)
      (fun j u hu => by
        have hc := h.1.cells (g := g) rfl (n * k + j) u (by rw [flat_dropD ls hw0 n, List.getElem?_drop] at hu; exact hu)
        have := cell_addR hc
        rw [Nat.zero_add] at this
        exact add_cellR this)
      (fun u hu => by
        obtain ⟨x, hx, hux⟩ := List.mem_flatten.1 hu
        exact (hw x (List.mem_of_mem_drop hx)).2 u hux) (by omega) (by rw [Nat.zero_mul, Nat.zero_add, hnews, hsz]; omega)
    rw [Nat.zero_add, Nat.zero_mul, List.take_zero, List.nil_append, Nat.zero_add] at hrun
    refine ⟨_, hrun, ⟨⟨?_, .inr ⟨g, c, _, rfl, hB, setRow_heap w g cur _ _ _ hg, by rw [List.length_append, List.length_drop, List.length_drop]; omega, hcm, ?_, ?_⟩⟩, h.2⟩, ⟨rfl, rfl, rfl, by simp [World.setRow], fun j hj hs => setRow_other w g j _ hs⟩⟩
    · rw [List.flatten_append, List.length_append, hnews, flat_dropD ls hw0, List.length_drop, h.1.1, List.length_append, List.length_drop, List.length_drop, ← Nat.sub_mul, ← Nat.add_mul]
    · simp [hnews, hsz]; omega
    · have e1 : (ls.drop n ++ ls.drop (ls.length - n)).length = ls.length := by rw [List.length_append, List.length_drop, List.length_drop]; omega
      have hcl : cur.toList.length = c * k := by simpa using hsz
      rw [e1, List.flatten_append, flat_dropD ls hw0 (ls.length - n), ← htk]
      show (((ls.drop n).flatten ++ cur.toList.drop (ls.drop n).flatten.length)).take (ls.length * k) = _
      rw [List.take_append, hnews, List.take_of_length_le (by rw [hnews]; exact hle2), List.drop_take]
theorem clear_tailV {e T ty : TypeId} {k by' : Nat} {z : Value} (H : VTy e k z by') (hz : ∀ w, (zeroValue e).run Try.prog w = .ok z w) (hone : ∀ u ∈ z.cells, u.oneCell' = true) (hT : Try.prog.underlying T = some (.slice e)) {w : World} {B g c : Nat} {ls : List (List Value)} (h : OwnV e k B (some ⟨g, 0, none⟩) c ls w) (hw0 : ∀ x ∈ ls, x.length = k) (i n : Nat) (hi : i < ls.length) (hn : n = ls.length - i) (c2 : Nat) :
    ∃ w', (Builtin.clear_ #[T] ty #[.slice (some ⟨g, i * k, none⟩) n c2]).run Try.prog w = .ok (.tuple #[]) w' ∧ OwnV e k B (some ⟨g, 0, none⟩) c (ls.take i) w' ∧ Touch (fun j => j = g) w w' := by
  subst hn
  have hkp := H.pos
  obtain ⟨m, hm⟩ : ∃ m, ls.length - i = m + 1 := ⟨ls.length - i - 1, by omega⟩
  have hzl : (Builtin.zeroCells z.cells (ls.length - i)).toList.length = (ls.length - i) * k := by
    rw [Array.length_toList, size_zeroCells, H.cells]
  have h1 : ∀ v ∈ (Builtin.zeroCells z.cells (ls.length - i)).toList, v.oneCell' = true := by
    intro v hv
    rw [Array.mem_toList_iff, Builtin.zeroCells, Array.mem_map] at hv
    obtain ⟨q, hq, rfl⟩ := hv
    have hlt : q % z.cells.size < z.cells.size := Nat.mod_lt _ (by rw [H.cells]; exact hkp)
    rw [getElem!_pos z.cells _ hlt]
    exact hone _ (Array.getElem_mem hlt)
  have hc : ∀ j, j < (ls.length - i) * k → (w.cell? ⟨g, i * k + 0 + j, none⟩).isSome = true := fun j hj => by
    rcases h.1.2 with ⟨hv, -⟩ | ⟨g', cap, cur, hv, -, hg, hnc, -, hsz, -⟩
    · simp at hv
    · simp only [Value.slice.injEq, Option.some.injEq, Addr.mk.injEq, and_true, true_and] at hv
      obtain ⟨rfl, -⟩ := hv
      have hcap : ls.length * k ≤ cap * k := Nat.mul_le_mul_right k hnc
      have hs : (ls.length - i) * k = ls.length * k - i * k := Nat.sub_mul _ _ _
      have : i * k + 0 + j < cur.size := by rw [hsz]; omega
      unfold World.cell?
      rw [Nat.add_zero] at this
      simp [hg, this]
  have hst := run_storeCells_cells (P := Try.prog) g (i * k) (Builtin.zeroCells z.cells (ls.length - i)).toList 0 w (by rw [hzl]; exact hc) (fun j _ => h.frozen _) h1
  refine ⟨w.setCells g (i * k + 0) (Builtin.zeroCells z.cells (ls.length - i)).toList, ?_, ?_, setCells_touch g _ (i * k + 0) w⟩
  · rw [hm] at hst ⊢
    simp [Builtin.clear_, run_underlying hT, hz, hst]
  · have hh := h.head hw0 i (by omega)
    rcases hh with hh | ⟨hh, -⟩
    · exact OwnV.behind _ _ w hh (by rw [List.length_take]; exact Nat.le_trans (Nat.mul_le_mul_right k (Nat.min_le_left _ _)) (by omega))
    · cases hh
end Go.Proofs.Ytlhcihjplolgiaa
