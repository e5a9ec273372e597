/-
  Layer 13: what an ack tells of a number.
-/
import Derived.Test.YtlhcihjplolgiaaWin5
namespace Go.Proofs.Ytlhcihjplolgiaa
open Go.RowKit
set_option linter.unusedVariables false

theorem shr_bit (B y : Nat) (hB : B < 4294967296) : (bits .and .u32 ((B : Int) / 2 ^ min y 32) 1 == 1) = (decide (y < 32) && B.testBit y) := by
  have e : ((B : Int) / 2 ^ min y 32) = ((B / 2 ^ min y 32 : Nat) : Int) := by simp
  have hle : B / 2 ^ min y 32 < 4294967296 := Nat.lt_of_le_of_lt (Nat.div_le_self _ _) hB
  rw [e, show (1 : Int) = ((1 : Nat) : Int) from rfl, u32_and_nat _ _ hle (by decide), Nat.and_one_is_mod]
  by_cases h : y < 32
  · rw [Nat.min_eq_left (by omega), Nat.testBit_eq_decide_div_mod_eq]
    generalize B / 2 ^ y % 2 = z
    simp only [h, decide_true, Bool.true_and]
    by_cases hz : z = 1
    · subst hz; rfl
    · rw [decide_eq_false hz, beq_eq_false_iff_ne]; omega
  · rw [Nat.min_eq_right (by omega)]
    have : B / 2 ^ 32 = 0 := Nat.div_eq_of_lt hB
    rw [this]
    simp [h]
def hasB (nx B n : Nat) : Bool := belowB n nx || (decide (1 ≤ distW n nx) && (decide (distW n nx ≤ 32) && B.testBit (distW n nx - 1)))
set_option maxRecDepth 100000 in
set_option maxHeartbeats 1000000 in
theorem has_any (nx B n : Nat) (w : World) (hx : nx < 4294967296) (hB : B < 4294967296) (hn : n < 4294967296) : Calls Try.prog 108 #[.agg #[.int .u32 (nx : Int), .int .u32 (B : Int)], .int .u32 (n : Int)] w fun r w' => r = .returned (.bool (hasB nx B n)) ∧ Below w.heap.size w w' := by
  have HA := Lib.hid (show Below w.heap.size w (w.alloc (.cells #[.int .u32 (nx : Int), .int .u32 (B : Int)] 134)) from bel_alloc (Below.refl _ _) _)
  have HBEL := Lib.hid (fun W => below_any n nx hn hx W)
  have hw := wrap_sub n nx hn hx
  have hd := distW_lt n nx
  unfold hasB
  cases hbb : belowB n nx with
  | true =>
    rw [hbb] at HBEL
    go_enter Try.func108, Try.ntmps108
    go_wp2_with fail
    refine (HBEL.out _).mono ?_
    rintro r w1 ⟨rfl, rfl⟩
    go_wp2
    go_ret
    exact ⟨rfl, HA.out⟩
  | false =>
    rw [hbb] at HBEL
    have hlt : distW n nx < 2147483648 := by unfold belowB at hbb; simpa using hbb
    generalize distW n nx = d at hw hd hlt
    have HW := Lib.hid hw
    clear hw
    go_enter Try.func108, Try.ntmps108
    go_wp2_with fail
    refine (HBEL.out _).mono ?_
    rintro r w1 ⟨rfl, rfl⟩
    have hw := HW.out
    obtain ⟨y, hy, hyd⟩ : ∃ y : Nat, ((d : Int) - 1) % 4294967296 = (y : Int) ∧ (d = 0 ∧ y = 4294967295 ∨ 1 ≤ d ∧ y = d - 1) := by
      by_cases h0 : d = 0
      · exact ⟨4294967295, by omega, .inl ⟨h0, rfl⟩⟩
      · exact ⟨d - 1, by omega, .inr ⟨by omega, rfl⟩⟩
    have hy0 : (0 : Int) ≤ (y : Int) := by omega
    have HYD := Lib.hid hyd
    clear hyd
    have HSB := Lib.hid (shr_bit B y hB)
    go_wp2
    go_ret
    refine ⟨?_, HA.out⟩
    show Ending.returned (.bool (bits .and .u32 ((B : Int) / 2 ^ min y 32) 1 == 1)) = _
    rw [HSB.out]
    congr 2
    rcases HYD.out with ⟨h0, h1⟩ | ⟨h0, h1⟩
    · subst h0; subst h1; rfl
    · subst h1
      rw [decide_eq_true h0]
      simp only [Bool.false_or, Bool.true_and]
      congr 1
      by_cases h2 : d ≤ 32
      · rw [decide_eq_true h2, decide_eq_true (by omega)]
      · rw [decide_eq_false h2, decide_eq_false (by omega)]
theorem inPut_any (b : Nat) (mo : Option Nat) (s : Ws) (n : Nat) (t : List UInt8) (w : World) (h : WI w b mo s) (hn : n < 4294967296) (hsl : s.l.length ≤ 900) :
    Calls Try.prog 73 #[.pointer (some ⟨b, 0, none⟩), itV n t] w (InPost w b mo (putW s n t)) := by
  cases hb : belowB n s.nx with
  | true => exact inPut_far b mo s n t w h hn (.inl hb)
  | false =>
    by_cases hd : 32 < distW n s.nx
    · exact inPut_far b mo s n t w h hn (.inr ⟨hb, hd⟩)
    · exact inPut_near b mo s n t w h hn hb (by omega) hsl
/-- An Out on whose way nothing is. -/
structure O0At (w : World) (b n : Nat) : Prop where
  c0 : w.cell? ⟨b, 0, none⟩ = some (.int .u32 (n : Int))
  c1 : w.cell? ⟨b, 1, none⟩ = some (.slice none 0 0)
  f0 : w.frozen? ⟨b, 0, none⟩ = false
  f1 : w.frozen? ⟨b, 1, none⟩ = false
theorem O0At.lt {w : World} {b n : Nat} (h : O0At w b n) : b < w.heap.size := block_lt_of_cell h.c0
theorem O0At.touch {S : Nat → Prop} {w w' : World} {b n : Nat} (h : O0At w b n) (ht : Touch S w w') (hb : ¬ S b) : O0At w' b n :=
  ⟨(ht.cell (p := ⟨b, 0, none⟩) h.lt hb).trans h.c0, (ht.cell (p := ⟨b, 1, none⟩) h.lt hb).trans h.c1, (ht.frozen (p := ⟨b, 0, none⟩) h.lt hb).trans h.f0, (ht.frozen (p := ⟨b, 1, none⟩) h.lt hb).trans h.f1⟩
theorem begin_any (n : Nat) (w : World) : Calls Try.prog 89 #[.int .u32 (n : Int)] w fun r w' => r = .returned (.pointer (some ⟨w.heap.size, 0, none⟩)) ∧ O0At w' w.heap.size n ∧ Below w.heap.size w w' := by
  go_enter Try.func89, Try.ntmps89
  go_wp2
  go_ret
  exact ⟨rfl, ⟨by simp, by simp, frozen_new _ _ _ _, frozen_new _ _ _ _⟩, bel_alloc (Below.refl _ _) _⟩
end Go.Proofs.Ytlhcihjplolgiaa
