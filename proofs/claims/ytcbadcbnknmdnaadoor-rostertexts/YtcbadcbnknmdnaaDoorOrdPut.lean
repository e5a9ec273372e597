/-
  Layer 9: a batch's bytes.
-/
import Derived.Test.YtcbadcbnknmdnaaDoorVals
import Derived.Deep.RegionHeld3
namespace Go.Proofs.YtcbadcbnknmdnaaDoor
open Go.RowKit
set_option linter.unusedVariables false

/-- An order whose numbers can be written. -/
def OrdIn (o : Ord) : Prop := 0 ≤ o.kind ∧ o.kind ≤ 4 ∧ 0 ≤ o.unit ∧ o.unit ≤ 1099511627776 ∧ B64 o.a ∧ B64 o.b
def ordB (o : Ord) : List UInt8 := countsB [o.kind] ++ numsB [o.unit.toNat] ++ intsB [o.a, o.b]
def ordsB (l : List Ord) : List UInt8 := (l.map ordB).flatten
def batchB (l : List Ord) : List UInt8 := countsB [(l.length : Int)] ++ ordsB l
theorem ordsB_snoc (l : List Ord) (k : Nat) (h : k < l.length) : ordsB (l.take (k + 1)) = ordsB (l.take k) ++ ordB l[k] := by
  unfold ordsB; rw [List.take_succ_eq_append_getElem h, List.map_append, List.flatten_append]; simp
theorem intsB_len2 {ns : List Int} (h : ∀ x ∈ ns, B64 x) : (intsB ns).length ≤ 10 * ns.length := by
  have := numsB_len (ns.map zig) (by intro n hn; simp only [List.mem_map] at hn; obtain ⟨a, ha, rfl⟩ := hn; exact zig_lt (h a ha).1 (h a ha).2)
  simpa [intsB] using this
theorem ordB_len {o : Ord} (h : OrdIn o) : (ordB o).length ≤ 40 := by
  obtain ⟨h1, h2, h3, h4, h5, h6⟩ := h
  have e1 := countsB_len (ns := [o.kind]) (by intro x hx; simp at hx; omega)
  have e2 := numsB_len [o.unit.toNat] (by intro x hx; simp at hx; omega)
  have e3 := intsB_len2 (ns := [o.a, o.b]) (by intro x hx; simp at hx; rcases hx with rfl | rfl; exact h5; exact h6)
  unfold ordB
  simp only [List.length_append]
  simp at e1 e2 e3
  omega
theorem ordsB_len {l : List Ord} (h : ∀ o ∈ l, OrdIn o) : (ordsB l).length ≤ 40 * l.length := by
  induction l with
  | nil => simp [ordsB]
  | cons x l ih =>
    have h1 := ordB_len (h x (by simp))
    have h2 := ih (fun y hy => h y (by simp [hy]))
    simp only [ordsB, List.map_cons, List.flatten_cons, List.length_append, List.length_cons] at h2 ⊢
    omega
theorem keepX {S : Nat → Prop} {W w' : World} (ht : Touch (fun k => ¬ S k) W w') {X : Nat} (hg : S X) {x y z u : Value} (h : W.cell? ⟨X, 0, none⟩ = some x ∧ W.cell? ⟨X, 1, none⟩ = some y ∧ W.cell? ⟨X, 2, none⟩ = some z ∧ W.cell? ⟨X, 3, none⟩ = some u) :
    w'.cell? ⟨X, 0, none⟩ = some x ∧ w'.cell? ⟨X, 1, none⟩ = some y ∧ w'.cell? ⟨X, 2, none⟩ = some z ∧ w'.cell? ⟨X, 3, none⟩ = some u :=
  ⟨keep_cell ht hg h.1, keep_cell ht hg h.2.1, keep_cell ht hg h.2.2.1, keep_cell ht hg h.2.2.2⟩
theorem keepXa {W : World} {X : Nat} {x y z u : Value} (o : Obj) (h : W.cell? ⟨X, 0, none⟩ = some x ∧ W.cell? ⟨X, 1, none⟩ = some y ∧ W.cell? ⟨X, 2, none⟩ = some z ∧ W.cell? ⟨X, 3, none⟩ = some u) :
    (W.alloc o).cell? ⟨X, 0, none⟩ = some x ∧ (W.alloc o).cell? ⟨X, 1, none⟩ = some y ∧ (W.alloc o).cell? ⟨X, 2, none⟩ = some z ∧ (W.alloc o).cell? ⟨X, 3, none⟩ = some u :=
  ⟨alloc_cell h.1 o, alloc_cell h.2.1 o, alloc_cell h.2.2.1 o, alloc_cell h.2.2.2 o⟩
theorem keepXd {W : World} {X : Nat} {x y z u : Value} (o : Obj) (h : W.drew.cell? ⟨X, 0, none⟩ = some x ∧ W.drew.cell? ⟨X, 1, none⟩ = some y ∧ W.drew.cell? ⟨X, 2, none⟩ = some z ∧ W.drew.cell? ⟨X, 3, none⟩ = some u) :
    (W.alloc o).drew.cell? ⟨X, 0, none⟩ = some x ∧ (W.alloc o).drew.cell? ⟨X, 1, none⟩ = some y ∧ (W.alloc o).drew.cell? ⟨X, 2, none⟩ = some z ∧ (W.alloc o).drew.cell? ⟨X, 3, none⟩ = some u := keepXa (W := W) o h
theorem touchKK {K : Nat → Prop} {wp W w' : World} (hb : Below wp.heap.size wp W) (h : Touch (fun k => ¬ KK K wp W k) W w') : Touch (fun k => ¬ K k) wp w' :=
  (touch_of_below hb).trans (h.mono fun k _ h1 h2 => h1 (.inl h2))
end Go.Proofs.YtcbadcbnknmdnaaDoor
