/-
  Layer 13: what stands at the head of the laws.
-/
import Derived.Test.YtclecalhbmpipaaWin7
namespace Go.Proofs.Ytclecalhbmpipaa
open Go.RowKit
set_option linter.unusedVariables false

/-- What came at b1, what was sent at b2. -/
structure Aw (w : World) (b1 b2 : Nat) (mo : Option Nat) (s : Ws) (wr : World) : Prop where
  wi : WI wr b1 mo s
  o0 : O0At wr b2 7
  bel : Below w.heap.size w wr
  h1 : w.heap.size ≤ b1
  h2 : w.heap.size ≤ b2
  ne : b1 ≠ b2
  hm : ∀ r, mo = some r → w.heap.size ≤ r ∧ r ≠ b2
theorem Aw.keep {w : World} {b1 b2 : Nat} {mo : Option Nat} {s : Ws} {wr w' : World} (h : Aw w b1 b2 mo s wr) (hb : Below wr.heap.size wr w') : Aw w b1 b2 mo s w' :=
  ⟨h.wi.keep hb, h.o0.touch (touch_of_below (S := fun _ => False) hb) id, h.bel.trans (hb.mono h.bel.size), h.h1, h.h2, h.ne, h.hm⟩
theorem Aw.put {w : World} {b1 b2 : Nat} {mo mo' : Option Nat} {s s' : Ws} {wr w' : World} (h : Aw w b1 b2 mo s wr) (hw : WI w' b1 mo' s') (hf : ∀ r, mo' = some r → mo = some r ∨ wr.heap.size ≤ r) (ht : Touch (fun k => k = b1 ∨ mo = some k) wr w') : Aw w b1 b2 mo' s' w' := by
  have hs := h.bel.size
  have hol := h.o0.lt
  refine ⟨hw, h.o0.touch ht (fun e => ?_), h.bel.trans (ht.below hs fun k hk e => ?_), h.h1, h.h2, h.ne, fun r hr => ?_⟩
  · rcases e with e | e
    · exact h.ne e.symm
    · exact (h.hm _ e).2 rfl
  · rcases e with e | e
    · have := h.h1; omega
    · have := (h.hm _ e).1; omega
  · rcases hf r hr with e | e
    · exact h.hm r e
    · exact ⟨by omega, by omega⟩
theorem WI.wat {w : World} {b : Nat} {mo : Option Nat} {s : Ws} (h : WI w b mo s) (hl : s.l ≠ []) : ∃ r, WAt w b r s := by
  rcases h with ⟨h1, h2, h3⟩ | ⟨r, h1, h2⟩
  · exact absurd h2 hl
  · exact ⟨r, h2⟩
theorem bits_five (B : Nat) (h : ∀ k, B.testBit k = true ↔ ∃ p ∈ ([(6, [98]), (8, [100])] : List (Nat × List UInt8)), distW p.1 5 = k + 1) : B = 5 := by
  apply Nat.eq_of_testBit_eq
  intro k
  have hk := h k
  have e6 : distW 6 5 = 1 := by decide
  have e8 : distW 8 5 = 3 := by decide
  simp only [List.mem_cons, List.not_mem_nil, or_false, exists_eq_or_imp, exists_eq_left, e6, e8] at hk
  have h5 : Nat.testBit 5 k = true ↔ 1 = k + 1 ∨ 3 = k + 1 := by
    match k with
    | 0 => decide
    | 1 => decide
    | 2 => decide
    | k + 3 =>
      have : Nat.testBit 5 (k + 3) = false := Nat.testBit_lt_two_pow (Nat.lt_of_lt_of_le (by decide : 5 < 2 ^ 3) (Nat.pow_le_pow_right (by decide) (by omega)))
      rw [this]; simp
  cases hB : B.testBit k <;> cases h5B : Nat.testBit 5 k <;> simp_all
theorem bits_one (B : Nat) (h : ∀ k, B.testBit k = true ↔ ∃ p ∈ [((8 : Nat), ([100] : List UInt8))], distW p.1 7 = k + 1) : B = 1 := by
  apply Nat.eq_of_testBit_eq
  intro k
  have hk := h k
  have e8 : distW 8 7 = 1 := by decide
  simp only [List.mem_cons, List.not_mem_nil, or_false, exists_eq_left, e8] at hk
  have h5 : Nat.testBit 1 k = true ↔ 1 = k + 1 := by
    match k with
    | 0 => decide
    | k + 1 =>
      have : Nat.testBit 1 (k + 1) = false := Nat.testBit_lt_two_pow (Nat.lt_of_lt_of_le (by decide : 1 < 2 ^ 1) (Nat.pow_le_pow_right (by decide) (by omega)))
      rw [this]; simp
  cases hB : B.testBit k <;> cases h5B : Nat.testBit 1 k <;> simp_all
theorem aw_put1 : putW ⟨5, []⟩ 6 [98] = (⟨5, [(6, [98])]⟩, [], 0) := by kernel_rfl
theorem aw_put2 : putW ⟨5, [(6, [98])]⟩ 8 [100] = (⟨5, [(6, [98]), (8, [100])]⟩, [], 0) := by kernel_rfl
theorem aw_put3 : putW ⟨5, [(6, [98]), (8, [100])]⟩ 5 [97] = (⟨7, [(8, [100])]⟩, [[97], [98]], 0) := by kernel_rfl
theorem aw_ok2 : OkW ⟨5, [(6, [98]), (8, [100])]⟩ := by
  intro p hp
  simp only [List.mem_cons, List.not_mem_nil, or_false] at hp
  rcases hp with rfl | rfl <;> decide
theorem aw_ok3 : OkW ⟨7, [(8, [100])]⟩ := by
  intro p hp
  simp only [List.mem_cons, List.not_mem_nil, or_false] at hp
  subst hp; decide
end Go.Proofs.Ytclecalhbmpipaa
