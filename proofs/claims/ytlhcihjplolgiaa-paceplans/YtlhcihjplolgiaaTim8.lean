/-
  Layer 14: of a row of what waits some go: what is left lies where it lay.
-/
import Derived.Test.YtlhcihjplolgiaaTim3
import Derived.Lib.SliceRun
namespace Go.Proofs.Ytlhcihjplolgiaa
open Go.RowKit
set_option linter.unusedVariables false

theorem flat_takeT {α : Type} {k : Nat} {ls : List (List α)} (hw : ∀ x ∈ ls, x.length = k) : ∀ i, (ls.take i).flatten = ls.flatten.take (i * k) := by
  induction ls with
  | nil => intro i; simp
  | cons x l ih =>
    intro i
    cases i with
    | zero => simp
    | succ i =>
      have hx := hw x (by simp)
      have e1 : (i + 1) * k - x.length = i * k := by rw [hx, Nat.add_mul]; omega
      have e2 : x.take ((i + 1) * k) = x := List.take_of_length_le (by rw [hx, Nat.add_mul]; omega)
      rw [List.take_succ_cons, List.flatten_cons, List.flatten_cons, ih (fun y hy => hw y (by simp [hy])) i, List.take_append, e1, e2]
/-- The first ones of a row of one's own. -/
theorem OwnV.head {e : TypeId} {k B c : Nat} {a : Option Addr} {ls : List (List Value)} {w : World} (h : OwnV e k B a c ls w) (hw : ∀ x ∈ ls, x.length = k) (i : Nat) (hi : i ≤ ls.length) : OwnV e k B a c (ls.take i) w ∨ (a = none ∧ ls = []) := by
  rcases h.1.2 with ⟨hv, h0⟩ | ⟨g, cap, cur, hv, hg0, hg, hnc, hcm, hsz, htk⟩
  · right
    simp only [Value.slice.injEq] at hv
    exact ⟨hv.1, List.eq_nil_of_length_eq_zero h0⟩
  · left
    simp only [Value.slice.injEq] at hv
    have hfl := flat_takeT hw i
    have hlen : (ls.take i).length = i := by rw [List.length_take]; omega
    have hik : i * k ≤ ls.length * k := Nat.mul_le_mul_right k hi
    refine ⟨⟨?_, .inr ⟨g, cap, cur, ?_, hg0, hg, by rw [hlen]; omega, hcm, hsz, ?_⟩⟩, h.2⟩
    · rw [hfl, hlen, List.length_take, h.1.1]; omega
    · rw [hv.1, hv.2.2]
    · rw [hfl, hlen, ← htk, List.take_take]
      congr 1; omega
/-- What is stored behind them changes nothing of them. -/
theorem OwnV.behind {e : TypeId} {k B g c : Nat} {ls : List (List Value)} : ∀ (vs : List Value) (o : Nat) (w : World), OwnV e k B (some ⟨g, 0, none⟩) c ls w → ls.length * k ≤ o → OwnV e k B (some ⟨g, 0, none⟩) c ls (w.setCells g o vs)
  | [], _, _, h, _ => h
  | v :: r, o, w, h, ho => by
    have h1 := (h.1.stored o v).1
    have e1 : ls.flatten.set o v = ls.flatten := List.set_eq_of_length_le (by rw [h.1.1]; exact ho)
    rw [e1] at h1
    exact OwnV.behind r (o + 1) (w.setCell ⟨g, o, none⟩ v) ⟨h1, h.2⟩ (by omega)
theorem setCells_touch (g : Nat) : ∀ (vs : List Value) (o : Nat) (w : World), Touch (fun j => j = g) w (w.setCells g o vs)
  | [], _, w => Touch.refl _ w
  | v :: r, o, w => ((Touch.refl (fun j => j = g) w).setCell (p := ⟨g, o, none⟩) (fun _ => rfl) v).trans (setCells_touch g r (o + 1) (w.setCell ⟨g, o, none⟩ v))
/-- clear(s[i:]) of a row of one's own: what stands ahead of i stays. -/
theorem clear_tail {g c i n : Nat} {B : Nat} {l : List Tn} {w : World} {ty : TypeId} (h : OwnV 196 4 B (some ⟨g, 0, none⟩) c (l.map tnC) w) (hi : i < l.length) (hn : n = l.length - i) (c2 : Nat) :
    ∃ w', (Builtin.clear_ #[191] ty #[.slice (some ⟨g, i * 4, none⟩) n c2]).run Try.prog w = .ok (.tuple #[]) w' ∧ OwnV 196 4 B (some ⟨g, 0, none⟩) c ((l.take i).map tnC) w' ∧ Touch (fun j => j = g) w w' := by
  subst hn
  have hz : ∀ w, (zeroValue 196).run Try.prog w = .ok (.agg #[.int .u32 0, .int .i64 0, .int .i64 0, .int .i64 0]) w := fun w => by kernel_rfl
  have hw0 : ∀ x ∈ l.map tnC, x.length = 4 := fun x hx => (tn_wide l x hx).1
  have hl0 : (l.map tnC).length = l.length := by simp
  obtain ⟨m, hm⟩ : ∃ m, l.length - i = m + 1 := ⟨l.length - i - 1, by omega⟩
  have hzl : (Builtin.zeroCells (Value.agg #[.int .u32 0, .int .i64 0, .int .i64 0, .int .i64 0]).cells (l.length - i)).toList.length = (l.length - i) * 4 := by
    simp [Builtin.zeroCells, Value.cells]
  have h1 : ∀ v ∈ (Builtin.zeroCells (Value.agg #[.int .u32 0, .int .i64 0, .int .i64 0, .int .i64 0]).cells (l.length - i)).toList, v.oneCell' = true := by
    intro v hv
    simp [Builtin.zeroCells, Value.cells] at hv
    obtain ⟨q, hq, rfl⟩ := hv
    have : q % 4 = 0 ∨ q % 4 = 1 ∨ q % 4 = 2 ∨ q % 4 = 3 := by omega
    rcases this with e | e | e | e <;> simp [e, Value.oneCell']
  have hc : ∀ j, j < (l.length - i) * 4 → (w.cell? ⟨g, i * 4 + 0 + j, none⟩).isSome = true := fun j hj => by
    rcases h.1.2 with ⟨hv, -⟩ | ⟨g', cap, cur, hv, -, hg, hnc, -, hsz, -⟩
    · simp at hv
    · simp only [Value.slice.injEq, Option.some.injEq, Addr.mk.injEq, and_true, true_and] at hv
      obtain ⟨rfl, -⟩ := hv
      have hcap : l.length * 4 ≤ cap * 4 := Nat.mul_le_mul_right 4 (by rw [hl0] at hnc; exact hnc)
      have : i * 4 + 0 + j < cur.size := by rw [hsz]; omega
      unfold World.cell?
      rw [Nat.add_zero] at this
      simp [hg, this]
  have hst := run_storeCells_cells (P := Try.prog) g (i * 4) (Builtin.zeroCells (Value.agg #[.int .u32 0, .int .i64 0, .int .i64 0, .int .i64 0]).cells (l.length - i)).toList 0 w (by rw [hzl]; exact hc) (fun j _ => h.frozen _) h1
  refine ⟨w.setCells g (i * 4 + 0) (Builtin.zeroCells (Value.agg #[.int .u32 0, .int .i64 0, .int .i64 0, .int .i64 0]).cells (l.length - i)).toList, ?_, ?_, setCells_touch g _ (i * 4 + 0) w⟩
  · rw [hm] at hst ⊢
    simp [Builtin.clear_, run_underlying Try.underlying191, hz, hst]
  · have hh := h.head hw0 i (by rw [hl0]; omega)
    rcases hh with hh | ⟨hh, -⟩
    · rw [← List.map_take] at hh
      exact OwnV.behind _ _ w hh (by rw [List.length_map, List.length_take]; omega)
    · cases hh
end Go.Proofs.Ytlhcihjplolgiaa
