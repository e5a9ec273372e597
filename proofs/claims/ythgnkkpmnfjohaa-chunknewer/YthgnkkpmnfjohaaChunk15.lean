/-
  Layer 11: a gather to which the pieces of one snapshot come in their order: its states.
-/
import Derived.Test.YthgnkkpmnfjohaaChunk14
namespace Go.Proofs.Ythgnkkpmnfjohaa
open Go.RowKit
set_option linter.unusedVariables false

theorem Ga0.at {w : World} {b : Nat} (h : Ga0 w b) : GaAt w b 0 ⟨0, 0, 0, [], 0⟩ :=
  ⟨h.c0, h.c1, h.c2, h.c3, h.c4, h.f, fun i hi => absurd hi (Nat.not_lt_zero _), fun h0 => absurd h0 (Nat.not_lt_zero _), fun h0 => absurd h0 (Nat.not_lt_zero _)⟩
def pcT (l : List UInt8) (i : Nat) : List UInt8 := (l.drop (100 * i)).take 100
/-- k pieces came, in their order. -/
def gaK (t : Int) (l : List UInt8) (k : Nat) : GaS := ⟨t, (l.length : Int), sumOf l, (List.range (cntN l.length)).map (fun i => if i < k then pcT l i else []), k⟩
theorem gaK_len (t : Int) (l : List UInt8) (k : Nat) : (gaK t l k).ts.length = cntN l.length := by simp [gaK]
theorem gaK_same (t : Int) (l : List UInt8) (k i : Nat) : sameHead (gaK t l k) (pcAt t l i) := ⟨rfl, rfl, rfl⟩
theorem gaK_cnt (t : Int) (l : List UInt8) (k i : Nat) : (gaK t l k).ts.length = (countP (pcAt t l i).bytes).toNat := by
  rw [gaK_len]; show _ = (countP (l.length : Int)).toNat; rw [countP_nat]; simp
theorem gaK_getD (t : Int) (l : List UInt8) (k i : Nat) (hi : i < cntN l.length) : (gaK t l k).ts.getD i [] = if i < k then pcT l i else [] := by
  simp [gaK, List.getD, hi]
theorem gaK_free (t : Int) (l : List UInt8) (k : Nat) (hk : k < cntN l.length) : (gaK t l k).ts.getD (pcAt t l k).n.toNat [] = [] := by
  show (gaK t l k).ts.getD ((k : Int).toNat) [] = []
  rw [Int.toNat_natCast, gaK_getD _ _ _ _ hk, if_neg (by omega)]
theorem pcT_ne (l : List UInt8) (i : Nat) (hi : i < cntN l.length) : pcT l i ≠ [] := by
  intro e
  have := congrArg List.length e
  unfold cntN at hi
  simp [pcT] at this
  omega
theorem gaK_there (t : Int) (l : List UInt8) (k i : Nat) (hi : i < cntN l.length) (hk : i < k) : (gaK t l k).ts.getD (pcAt t l i).n.toNat [] ≠ [] := by
  show (gaK t l k).ts.getD ((i : Int).toNat) [] ≠ []
  rw [Int.toNat_natCast, gaK_getD _ _ _ _ hi, if_pos hk]
  exact pcT_ne l i hi
theorem putMore_gaK (t : Int) (l : List UInt8) (k : Nat) (hk : k < cntN l.length) : putMore (gaK t l k) (pcAt t l k) = gaK t l (k + 1) := by
  unfold putMore gaK pcAt
  simp only [Int.toNat_natCast]
  congr 1
  apply List.ext_getElem
  · simp
  · intro i h1 h2
    simp only [List.getElem_set, List.getElem_map, List.getElem_range]
    by_cases e : k = i
    · subst e; rw [if_pos rfl, if_pos (by omega)]; rfl
    · rw [if_neg e]
      by_cases e2 : i < k
      · rw [if_pos e2, if_pos (by omega)]
      · rw [if_neg e2, if_neg (by omega)]
theorem putNew_gaK (t : Int) (l : List UInt8) (h0 : 0 < cntN l.length) : putNew (pcAt t l 0) = gaK t l 1 := by
  rw [← putMore_gaK t l 0 h0]
  unfold putNew putMore gaK pcAt
  simp only [countP_nat, Int.toNat_natCast]
  congr 2
  apply List.ext_getElem
  · simp
  · intro i h1 h2
    simp
theorem flat_take (l : List UInt8) (k : Nat) : ((List.range k).map (pcT l)).flatten = l.take (100 * k) := by
  induction k with
  | zero => simp
  | succ k ih =>
    rw [List.range_succ, List.map_append, List.flatten_append, ih]
    simp only [List.map_cons, List.map_nil, List.flatten_cons, List.flatten_nil, List.append_nil, pcT]
    rw [Nat.mul_succ, List.take_add]
theorem gaK_flat (t : Int) (l : List UInt8) : (gaK t l (cntN l.length)).ts.flatten = l := by
  have : (gaK t l (cntN l.length)).ts = (List.range (cntN l.length)).map (pcT l) := by
    unfold gaK
    apply List.map_congr_left
    intro i hi
    rw [if_pos (List.mem_range.1 hi)]
  rw [this, flat_take]
  apply List.take_of_length_le
  unfold cntN; omega
theorem wholeV_gaK (t : Int) (l : List UInt8) : wholeV (gaK t l (cntN l.length)) = .tuple #[.string (bs l), .int .i64 t, .int .i64 0] := by
  unfold wholeV
  rw [gaK_flat, if_pos (show sumOf l = (gaK t l (cntN l.length)).h from rfl)]
  rfl
end Go.Proofs.Ythgnkkpmnfjohaa
