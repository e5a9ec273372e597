/-
  The walk of the law WindowHas.
-/
import Derived.Test.YtfkhfincggligaaWin8
namespace Go.Proofs.Ytfkhfincggligaa
open Go.RowKit
set_option linter.unusedVariables false

set_option maxRecDepth 100000 in
set_option maxHeartbeats 2000000 in
theorem windowHas_walk (w : World) (nx B n : Nat) (hx : nx < 4294967296) (hB : B < 4294967296) (hn : n < 4294967296) :
    Calls Try.prog 11 #[.int .u32 (nx : Int), .int .u32 (B : Int), .int .u32 (n : Int)] w fun e w' => e = .returned (.bool true) ∧ Below w.heap.size w w' := by
  have HAW := Lib.hid (fun W => awake13_any W)
  have HHA := Lib.hid (fun W => has_any nx B n W hx hB hn)
  have hw := wrap_sub n nx hn hx
  have hd := distW_lt n nx
  have HHE := Lib.hid (show hasB nx B n = (decide (2147483648 ≤ distW n nx) || (decide (1 ≤ distW n nx) && (decide (distW n nx ≤ 32) && B.testBit (distW n nx - 1)))) from rfl)
  generalize distW n nx = d at hw hd HHE
  have HW := Lib.hid hw
  have HD := Lib.hid hd
  clear hw hd
  by_cases h1 : 2147483648 ≤ d
  · have HT := Lib.hid (show hasB nx B n = true by rw [HHE.out, decide_eq_true h1]; rfl)
    rw [HT.out] at HHA
    have hw := HW.out
    have e1 : decide ((2147483648 : Int) ≤ (d : Int)) = true := decide_eq_true (by omega)
    clear h1
    go_enter Try.func11, Try.ntmps11
    go_wp2_with fail
    refine (HAW.out _).mono ?_
    rintro r w1 ⟨rfl, hb1⟩
    have x0 : w1.cell? ⟨w.heap.size, 0, none⟩ = some (.int .u32 (nx : Int)) := (hb1.cell (p := ⟨w.heap.size, 0, none⟩) (by simp)).trans (by simp)
    have x1 : w1.cell? ⟨w.heap.size, 1, none⟩ = some (.int .u32 (B : Int)) := (hb1.cell (p := ⟨w.heap.size, 1, none⟩) (by simp)).trans (by simp)
    have HB1 : Hid (Below w.heap.size w w1) := Lib.hid ((bel_alloc (Below.refl _ _) _).trans (hb1.mono (by simp)))
    have hXl := block_lt_of_cell x0
    simp only at hXl
    clear hb1 HAW
    go_wp2_with fail
    refine (HHA.out _).mono ?_
    rintro r w2 ⟨rfl, hb2⟩
    have HB2 := Lib.hid (HB1.out.trans (hb2.mono HB1.out.size))
    clear hb2
    go_wp2
    go_ret
    exact ⟨rfl, HB2.out⟩
  · have e1 : decide ((2147483648 : Int) ≤ (d : Int)) = false := decide_eq_false (by omega)
    have e1' : decide (2147483648 ≤ d) = false := decide_eq_false h1
    rcases Nat.eq_zero_or_pos d with h2 | h2
    · subst h2
      have HT := Lib.hid (show hasB nx B n = false by rw [HHE.out]; rfl)
      rw [HT.out] at HHA
      have hw : IntKind.u32.wrap ((n : Int) - (nx : Int)) = 0 := HW.out
      clear h1 e1 e1'
      go_enter Try.func11, Try.ntmps11
      go_wp2_with fail
      refine (HAW.out _).mono ?_
      rintro r w1 ⟨rfl, hb1⟩
      have x0 : w1.cell? ⟨w.heap.size, 0, none⟩ = some (.int .u32 (nx : Int)) := (hb1.cell (p := ⟨w.heap.size, 0, none⟩) (by simp)).trans (by simp)
      have x1 : w1.cell? ⟨w.heap.size, 1, none⟩ = some (.int .u32 (B : Int)) := (hb1.cell (p := ⟨w.heap.size, 1, none⟩) (by simp)).trans (by simp)
      have HB1 : Hid (Below w.heap.size w w1) := Lib.hid ((bel_alloc (Below.refl _ _) _).trans (hb1.mono (by simp)))
      have hXl := block_lt_of_cell x0
      simp only at hXl
      clear hb1 HAW
      go_wp2_with fail
      refine (HHA.out _).mono ?_
      rintro r w2 ⟨rfl, hb2⟩
      have HB2 := Lib.hid (HB1.out.trans (hb2.mono HB1.out.size))
      clear hb2
      go_wp2
      go_ret
      exact ⟨rfl, HB2.out⟩
    · obtain ⟨y, rfl⟩ : ∃ y, d = y + 1 := ⟨d - 1, by omega⟩
      have hw : IntKind.u32.wrap ((n : Int) - (nx : Int)) = (y : Int) + 1 := HW.out
      have e1y : decide ((2147483648 : Int) ≤ (y : Int) + 1) = false := e1
      have e2 : decide ((1 : Int) ≤ (y : Int) + 1) = true := decide_eq_true (by omega)
      have e2' : (1 : Int) ≤ (y : Int) + 1 := by omega
      by_cases h3 : y < 32
      · have HT := Lib.hid (show hasB nx B n = B.testBit y by rw [HHE.out, e1', decide_eq_true (by omega : 1 ≤ y + 1), decide_eq_true (by omega : y + 1 ≤ 32)]; simp)
        rw [HT.out] at HHA
        have e3 : (y : Int) + 1 ≤ 32 := by omega
        have HSB := Lib.hid (show (bits .and .u32 ((B : Int) / 2 ^ y) 1 == 1) = B.testBit y by have := shr_bit B y hB; rw [Nat.min_eq_left (by omega), decide_eq_true h3, Bool.true_and] at this; exact this)
        clear h1 e1 e1' h2
        go_enter Try.func11, Try.ntmps11
        go_wp2_with fail
        refine (HAW.out _).mono ?_
        rintro r w1 ⟨rfl, hb1⟩
        have x0 : w1.cell? ⟨w.heap.size, 0, none⟩ = some (.int .u32 (nx : Int)) := (hb1.cell (p := ⟨w.heap.size, 0, none⟩) (by simp)).trans (by simp)
        have x1 : w1.cell? ⟨w.heap.size, 1, none⟩ = some (.int .u32 (B : Int)) := (hb1.cell (p := ⟨w.heap.size, 1, none⟩) (by simp)).trans (by simp)
        have HB1 : Hid (Below w.heap.size w w1) := Lib.hid ((bel_alloc (Below.refl _ _) _).trans (hb1.mono (by simp)))
        have hXl := block_lt_of_cell x0
        simp only at hXl
        clear hb1 HAW
        go_wp2_with fail
        refine (HHA.out _).mono ?_
        rintro r w2 ⟨rfl, hb2⟩
        have HB2 := Lib.hid (HB1.out.trans (hb2.mono HB1.out.size))
        clear hb2
        go_wp2
        go_ret
        exact ⟨by show Ending.returned (.bool (B.testBit y == (bits .and .u32 ((B : Int) / 2 ^ y) 1 == 1))) = _; rw [HSB.out]; simp, HB2.out⟩
      · have HT := Lib.hid (show hasB nx B n = false by rw [HHE.out, e1', decide_eq_false (by omega : ¬ y + 1 ≤ 32)]; simp)
        rw [HT.out] at HHA
        have e3 : decide ((y : Int) + 1 ≤ 32) = false := decide_eq_false (by omega)
        have e3' : (32 : Int) < (y : Int) + 1 := by omega
        clear h1 e1 e1' h2
        go_enter Try.func11, Try.ntmps11
        go_wp2_with fail
        refine (HAW.out _).mono ?_
        rintro r w1 ⟨rfl, hb1⟩
        have x0 : w1.cell? ⟨w.heap.size, 0, none⟩ = some (.int .u32 (nx : Int)) := (hb1.cell (p := ⟨w.heap.size, 0, none⟩) (by simp)).trans (by simp)
        have x1 : w1.cell? ⟨w.heap.size, 1, none⟩ = some (.int .u32 (B : Int)) := (hb1.cell (p := ⟨w.heap.size, 1, none⟩) (by simp)).trans (by simp)
        have HB1 : Hid (Below w.heap.size w w1) := Lib.hid ((bel_alloc (Below.refl _ _) _).trans (hb1.mono (by simp)))
        have hXl := block_lt_of_cell x0
        simp only at hXl
        clear hb1 HAW
        go_wp2_with fail
        refine (HHA.out _).mono ?_
        rintro r w2 ⟨rfl, hb2⟩
        have HB2 := Lib.hid (HB1.out.trans (hb2.mono HB1.out.size))
        clear hb2
        go_wp2
        go_ret
        exact ⟨rfl, HB2.out⟩
end Go.Proofs.Ytfkhfincggligaa
