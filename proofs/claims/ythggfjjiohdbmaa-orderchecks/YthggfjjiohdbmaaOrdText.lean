/-
  Layer 9: a batch as a text, and the document's.
-/
import Derived.Test.YthggfjjiohdbmaaOrdPut
import Derived.Test.YthggfjjiohdbmaaWireRef
namespace Go.Proofs.Ythggfjjiohdbmaa
open Go.RowKit
set_option linter.unusedVariables false

theorem OrdRow.lt {w : World} {a : Option Addr} {l : List Ord} (h : OrdRow w a l) (h0 : 0 < l.length) : ∀ x, a = some x → x.block < w.heap.size := by
  obtain ⟨b, off, e, hb, -⟩ := h.at h0
  intro x hx
  rw [e] at hx
  cases hx
  exact hb
theorem ordText_any (a : Option Addr) (c : Nat) (l : List Ord) (w : World) (hr : OrdRow w a l) (hd : ∀ o ∈ l, OrdIn o) (hlen : l.length ≤ 8) :
    Calls Try.prog 13 #[.slice a l.length c] w fun r w' => r = .returned (.string (bs (batchB l))) ∧ Below w.heap.size w w' := by
  have HP := Lib.hid (ordPut_any (fun k => k < w.heap.size) w.heap.size [] a c l _ (OutQ.start w 71 (fun k hk => hk)) (hr.below ((Below.refl _ w).alloc (Nat.le_refl _) _)) (fun h0 x hx => hr.lt h0 x hx) hd hlen (by simp))
  clear hr hd
  go_enter Try.func13, Try.ntmps13
  go_wp2_with fail
  refine HP.out.mono ?_
  rintro r w1 ⟨rfl, ho, ht⟩
  have HT := Lib.hid (outText_q ho)
  have HB := Lib.hid (((Below.refl _ w).alloc (Nat.le_refl _) (.cells #[.slice none 0 0] 71)).trans (ht.below (by simp) (fun k hk h => h hk)))
  clear ho ht HP
  rw [List.nil_append] at HT
  go_wp2_with fail
  refine HT.out.mono ?_
  rintro r w2 ⟨rfl, rfl⟩
  go_wp2
  go_ret
  exact ⟨rfl, HB.out⟩
theorem ordB_parts (o : Ord) : ordB o = numB o.kind.toNat ++ numB o.unit.toNat ++ numB (zig o.a) ++ numB (zig o.b) := by
  simp [ordB, countsB, numsB, intsB, List.append_assoc]
theorem keepR {W w' : World} (hb : Below W.heap.size W w') {X : Nat} {x y z u : Value} (h : W.cell? ⟨X, 0, none⟩ = some x ∧ W.cell? ⟨X, 1, none⟩ = some y ∧ W.cell? ⟨X, 2, none⟩ = some z ∧ W.cell? ⟨X, 3, none⟩ = some u) :
    w'.cell? ⟨X, 0, none⟩ = some x ∧ w'.cell? ⟨X, 1, none⟩ = some y ∧ w'.cell? ⟨X, 2, none⟩ = some z ∧ w'.cell? ⟨X, 3, none⟩ = some u := by
  have hX := block_lt_of_cell h.1
  exact ⟨(hb.cell (p := ⟨X, 0, none⟩) hX).trans h.1, (hb.cell (p := ⟨X, 1, none⟩) hX).trans h.2.1, (hb.cell (p := ⟨X, 2, none⟩) hX).trans h.2.2.1, (hb.cell (p := ⟨X, 3, none⟩) hX).trans h.2.2.2⟩
end Go.Proofs.Ythggfjjiohdbmaa
