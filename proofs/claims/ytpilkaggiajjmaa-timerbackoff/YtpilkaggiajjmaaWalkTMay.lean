/-
  The walk of the law TimerMay.
-/
import Derived.Test.YtpilkaggiajjmaaTim7
namespace Go.Proofs.Ytpilkaggiajjmaa
open Go.RowKit
set_option linter.unusedVariables false

theorem ptr_ne (b : Nat) (w : World) : (binOp .neq 65 (.pointer (some ⟨b, 0, none⟩)) (.pointer none)).run Try.prog w = .ok (.bool true) w := by kernel_rfl
theorem ptr_nn (w : World) : (binOp .neq 65 (.pointer none) (.pointer none)).run Try.prog w = .ok (.bool false) w := by kernel_rfl
set_option maxRecDepth 100000 in
set_option maxHeartbeats 1000000 in
theorem timerMay_walk (f m : Int) (w : World) : Calls Try.prog 7 #[.int .i64 f, .int .i64 m] w fun r w' => r = .returned (.bool true) ∧ Below w.heap.size w w' := by
  have HAW := Lib.hid (fun W => awake14_any W)
  by_cases hm : mayT f m = true
  · have HN := Lib.hid ((tnew_any f m w).mono (R' := fun r w' => ∃ b, r = .returned (.tuple #[.pointer (some ⟨b, 0, none⟩), .int .i64 0]) ∧ Below w.heap.size w w') fun r w' h => by
      rcases h with ⟨-, b, h1, h2, h3, h4⟩ | ⟨h1, -⟩
      · exact ⟨b, h1, h4⟩
      · rw [hm] at h1; cases h1)
    unfold mayT at hm
    simp only [Bool.and_eq_true, decide_eq_true_eq] at hm
    obtain ⟨h1, h2, h3⟩ := hm
    go_enter Try.func7, Try.ntmps7
    go_wp2_with fail
    refine HN.out.mono ?_
    rintro r w1 ⟨b, rfl, hb1⟩
    have HB1 := Lib.hid hb1
    have hp := ptr_ne b
    clear hb1 HN
    go_wp2_with fail
    refine (HAW.out _).mono ?_
    rintro r w2 ⟨rfl, hb2⟩
    have HB2 := Lib.hid (HB1.out.trans (hb2.mono HB1.out.size))
    clear hb2
    go_wp2
    go_ret
    exact ⟨rfl, HB2.out⟩
  · have hm' : mayT f m = false := by simpa using hm
    have HN := Lib.hid ((tnew_any f m w).mono (R' := fun r w' => r = .returned (.tuple #[.pointer none, .int .i64 4]) ∧ Below w.heap.size w w') fun r w' h => by
      rcases h with ⟨h1, -⟩ | ⟨-, h1, h2⟩
      · exact absurd h1 hm
      · exact ⟨h1, h2⟩)
    have hcs : f < 1 ∨ (1 ≤ f ∧ m < f) ∨ (1 ≤ f ∧ f ≤ m ∧ 1048576 < m) := by
      unfold mayT at hm'
      simp only [Bool.and_eq_false_iff, decide_eq_false_iff_not] at hm'
      omega
    clear hm hm'
    rcases hcs with h1 | ⟨h1, h2⟩ | ⟨h1, h2, h3⟩
    all_goals
      try have hd : decide (m ≤ 1048576) = false := decide_eq_false (by omega)
      go_enter Try.func7, Try.ntmps7
      go_wp2_with fail
      refine HN.out.mono ?_
      rintro r w1 ⟨rfl, hb1⟩
      have HB1 := Lib.hid hb1
      have hp := ptr_nn
      clear hb1 HN
      go_wp2_with fail
      refine (HAW.out _).mono ?_
      rintro r w2 ⟨rfl, hb2⟩
      have HB2 := Lib.hid (HB1.out.trans (hb2.mono HB1.out.size))
      clear hb2
      go_wp2
      go_ret
      exact ⟨rfl, HB2.out⟩
end Go.Proofs.Ytpilkaggiajjmaa
