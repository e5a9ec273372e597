/-
  Layer 8: units, their fields, and where one stands in a table.
-/
import Derived.Test.YtdkokfpbmmjfkaaRecSet
namespace Go.Proofs.Ytdkokfpbmmjfkaa
open Go.RowKit
set_option linter.unusedVariables false

/-- A unit. -/
structure Un where
  id : Int
  kind : Int
  owner : Int
  x : Int
  y : Int
  health : Int
def Un.ints (u : Un) : List Int := [u.id, u.kind, u.owner, u.x, u.y, u.health]
def Un.field (u : Un) (f : Nat) : Int := u.ints.getD (f + 1) 0
def unV (u : Un) : Value := .agg #[.int .i64 u.id, .int .i64 u.kind, .int .i64 u.owner, .int .i64 u.x, .int .i64 u.y, .int .i64 u.health]
/-- May a field be so? -/
def mayN (f : Nat) (x : Int) : Bool := if f < 2 then decide (0 ≤ x) && decide (x ≤ 255) else if f < 4 then decide (-1000 ≤ x) && decide (x ≤ 1000) else decide (1 ≤ x) && decide (x ≤ 1000)
theorem unTy : RecTy 35 6 (.agg #[.int .i64 0, .int .i64 0, .int .i64 0, .int .i64 0, .int .i64 0, .int .i64 0]) := ⟨by kernel_rfl, rfl, by decide, by decide⟩
theorem fieldMayBe_any (f : Nat) (x : Int) (w : World) (hf : f ≤ 4) : Calls Try.prog 84 #[.int .i64 f, .int .i64 x] w fun r w' => r = .returned (.bool (mayN f x)) ∧ w = w' := by
  have h5 : f = 0 ∨ f = 1 ∨ f = 2 ∨ f = 3 ∨ f = 4 := by omega
  rcases h5 with rfl | rfl | rfl | rfl | rfl
  · by_cases h1 : 0 ≤ x
    · by_cases h2 : x ≤ 255
      · have HQ := Lib.hid (show mayN 0 x = true by simp [mayN, h1, h2])
        have d1 : decide (0 ≤ x) = true := by simpa using h1
        have d2 : decide (x ≤ 255) = true := by simpa using h2
        clear h1 h2
        go_enter Try.func84, Try.ntmps84
        go_wp2
        go_ret
        exact ⟨by rw [HQ.out]; rfl, rfl⟩
      · have HQ := Lib.hid (show mayN 0 x = false by simp [mayN, h1, h2])
        have d1 : decide (0 ≤ x) = true := by simpa using h1
        have d2 : decide (x ≤ 255) = false := by simpa using h2
        clear h1 h2
        go_enter Try.func84, Try.ntmps84
        go_wp2
        go_ret
        exact ⟨by rw [HQ.out]; rfl, rfl⟩
    · have HQ := Lib.hid (show mayN 0 x = false by simp [mayN, h1])
      have d1 : decide (0 ≤ x) = false := by simpa using h1
      clear h1
      go_enter Try.func84, Try.ntmps84
      go_wp2
      go_ret
      exact ⟨by rw [HQ.out]; rfl, rfl⟩
  · by_cases h1 : 0 ≤ x
    · by_cases h2 : x ≤ 255
      · have HQ := Lib.hid (show mayN 1 x = true by simp [mayN, h1, h2])
        have d1 : decide (0 ≤ x) = true := by simpa using h1
        have d2 : decide (x ≤ 255) = true := by simpa using h2
        clear h1 h2
        go_enter Try.func84, Try.ntmps84
        go_wp2
        go_ret
        exact ⟨by rw [HQ.out]; rfl, rfl⟩
      · have HQ := Lib.hid (show mayN 1 x = false by simp [mayN, h1, h2])
        have d1 : decide (0 ≤ x) = true := by simpa using h1
        have d2 : decide (x ≤ 255) = false := by simpa using h2
        clear h1 h2
        go_enter Try.func84, Try.ntmps84
        go_wp2
        go_ret
        exact ⟨by rw [HQ.out]; rfl, rfl⟩
    · have HQ := Lib.hid (show mayN 1 x = false by simp [mayN, h1])
      have d1 : decide (0 ≤ x) = false := by simpa using h1
      clear h1
      go_enter Try.func84, Try.ntmps84
      go_wp2
      go_ret
      exact ⟨by rw [HQ.out]; rfl, rfl⟩
  · by_cases h1 : -1000 ≤ x
    · by_cases h2 : x ≤ 1000
      · have HQ := Lib.hid (show mayN 2 x = true by simp [mayN, h1, h2])
        have d1 : decide (-1000 ≤ x) = true := by simpa using h1
        have d2 : decide (x ≤ 1000) = true := by simpa using h2
        clear h1 h2
        go_enter Try.func84, Try.ntmps84
        go_wp2
        go_ret
        exact ⟨by rw [HQ.out]; rfl, rfl⟩
      · have HQ := Lib.hid (show mayN 2 x = false by simp [mayN, h1, h2])
        have d1 : decide (-1000 ≤ x) = true := by simpa using h1
        have d2 : decide (x ≤ 1000) = false := by simpa using h2
        clear h1 h2
        go_enter Try.func84, Try.ntmps84
        go_wp2
        go_ret
        exact ⟨by rw [HQ.out]; rfl, rfl⟩
    · have HQ := Lib.hid (show mayN 2 x = false by simp [mayN, h1])
      have d1 : decide (-1000 ≤ x) = false := by simpa using h1
      clear h1
      go_enter Try.func84, Try.ntmps84
      go_wp2
      go_ret
      exact ⟨by rw [HQ.out]; rfl, rfl⟩
  · by_cases h1 : -1000 ≤ x
    · by_cases h2 : x ≤ 1000
      · have HQ := Lib.hid (show mayN 3 x = true by simp [mayN, h1, h2])
        have d1 : decide (-1000 ≤ x) = true := by simpa using h1
        have d2 : decide (x ≤ 1000) = true := by simpa using h2
        clear h1 h2
        go_enter Try.func84, Try.ntmps84
        go_wp2
        go_ret
        exact ⟨by rw [HQ.out]; rfl, rfl⟩
      · have HQ := Lib.hid (show mayN 3 x = false by simp [mayN, h1, h2])
        have d1 : decide (-1000 ≤ x) = true := by simpa using h1
        have d2 : decide (x ≤ 1000) = false := by simpa using h2
        clear h1 h2
        go_enter Try.func84, Try.ntmps84
        go_wp2
        go_ret
        exact ⟨by rw [HQ.out]; rfl, rfl⟩
    · have HQ := Lib.hid (show mayN 3 x = false by simp [mayN, h1])
      have d1 : decide (-1000 ≤ x) = false := by simpa using h1
      clear h1
      go_enter Try.func84, Try.ntmps84
      go_wp2
      go_ret
      exact ⟨by rw [HQ.out]; rfl, rfl⟩
  · by_cases h1 : 1 ≤ x
    · by_cases h2 : x ≤ 1000
      · have HQ := Lib.hid (show mayN 4 x = true by simp [mayN, h1, h2])
        have d1 : decide (1 ≤ x) = true := by simpa using h1
        have d2 : decide (x ≤ 1000) = true := by simpa using h2
        clear h1 h2
        go_enter Try.func84, Try.ntmps84
        go_wp2
        go_ret
        exact ⟨by rw [HQ.out]; rfl, rfl⟩
      · have HQ := Lib.hid (show mayN 4 x = false by simp [mayN, h1, h2])
        have d1 : decide (1 ≤ x) = true := by simpa using h1
        have d2 : decide (x ≤ 1000) = false := by simpa using h2
        clear h1 h2
        go_enter Try.func84, Try.ntmps84
        go_wp2
        go_ret
        exact ⟨by rw [HQ.out]; rfl, rfl⟩
    · have HQ := Lib.hid (show mayN 4 x = false by simp [mayN, h1])
      have d1 : decide (1 ≤ x) = false := by simpa using h1
      clear h1
      go_enter Try.func84, Try.ntmps84
      go_wp2
      go_ret
      exact ⟨by rw [HQ.out]; rfl, rfl⟩
theorem refMay_any (f : Nat) (x : Int) (w : World) (hf : f ≤ 4) : Calls Try.prog 85 #[.int .i64 f, .int .i64 x] w fun r w' => r = .returned (.bool (mayN f x)) ∧ w = w' := by
  have h5 : f = 0 ∨ f = 1 ∨ f = 2 ∨ f = 3 ∨ f = 4 := by omega
  rcases h5 with rfl | rfl | rfl | rfl | rfl
  · by_cases h1 : 0 ≤ x
    · by_cases h2 : x ≤ 255
      · have HQ := Lib.hid (show mayN 0 x = true by simp [mayN, h1, h2])
        have d1 : decide (0 ≤ x) = true := by simpa using h1
        have d2 : decide (x ≤ 255) = true := by simpa using h2
        clear h1 h2
        go_enter Try.func85, Try.ntmps85
        go_wp2
        go_ret
        exact ⟨by rw [HQ.out]; rfl, rfl⟩
      · have HQ := Lib.hid (show mayN 0 x = false by simp [mayN, h1, h2])
        have d1 : decide (0 ≤ x) = true := by simpa using h1
        have d2 : decide (x ≤ 255) = false := by simpa using h2
        clear h1 h2
        go_enter Try.func85, Try.ntmps85
        go_wp2
        go_ret
        exact ⟨by rw [HQ.out]; rfl, rfl⟩
    · have HQ := Lib.hid (show mayN 0 x = false by simp [mayN, h1])
      have d1 : decide (0 ≤ x) = false := by simpa using h1
      clear h1
      go_enter Try.func85, Try.ntmps85
      go_wp2
      go_ret
      exact ⟨by rw [HQ.out]; rfl, rfl⟩
  · by_cases h1 : 0 ≤ x
    · by_cases h2 : x ≤ 255
      · have HQ := Lib.hid (show mayN 1 x = true by simp [mayN, h1, h2])
        have d1 : decide (0 ≤ x) = true := by simpa using h1
        have d2 : decide (x ≤ 255) = true := by simpa using h2
        clear h1 h2
        go_enter Try.func85, Try.ntmps85
        go_wp2
        go_ret
        exact ⟨by rw [HQ.out]; rfl, rfl⟩
      · have HQ := Lib.hid (show mayN 1 x = false by simp [mayN, h1, h2])
        have d1 : decide (0 ≤ x) = true := by simpa using h1
        have d2 : decide (x ≤ 255) = false := by simpa using h2
        clear h1 h2
        go_enter Try.func85, Try.ntmps85
        go_wp2
        go_ret
        exact ⟨by rw [HQ.out]; rfl, rfl⟩
    · have HQ := Lib.hid (show mayN 1 x = false by simp [mayN, h1])
      have d1 : decide (0 ≤ x) = false := by simpa using h1
      clear h1
      go_enter Try.func85, Try.ntmps85
      go_wp2
      go_ret
      exact ⟨by rw [HQ.out]; rfl, rfl⟩
  · by_cases h1 : -1000 ≤ x
    · by_cases h2 : x ≤ 1000
      · have HQ := Lib.hid (show mayN 2 x = true by simp [mayN, h1, h2])
        have d1 : decide (-1000 ≤ x) = true := by simpa using h1
        have d2 : decide (x ≤ 1000) = true := by simpa using h2
        clear h1 h2
        go_enter Try.func85, Try.ntmps85
        go_wp2
        go_ret
        exact ⟨by rw [HQ.out]; rfl, rfl⟩
      · have HQ := Lib.hid (show mayN 2 x = false by simp [mayN, h1, h2])
        have d1 : decide (-1000 ≤ x) = true := by simpa using h1
        have d2 : decide (x ≤ 1000) = false := by simpa using h2
        clear h1 h2
        go_enter Try.func85, Try.ntmps85
        go_wp2
        go_ret
        exact ⟨by rw [HQ.out]; rfl, rfl⟩
    · have HQ := Lib.hid (show mayN 2 x = false by simp [mayN, h1])
      have d1 : decide (-1000 ≤ x) = false := by simpa using h1
      clear h1
      go_enter Try.func85, Try.ntmps85
      go_wp2
      go_ret
      exact ⟨by rw [HQ.out]; rfl, rfl⟩
  · by_cases h1 : -1000 ≤ x
    · by_cases h2 : x ≤ 1000
      · have HQ := Lib.hid (show mayN 3 x = true by simp [mayN, h1, h2])
        have d1 : decide (-1000 ≤ x) = true := by simpa using h1
        have d2 : decide (x ≤ 1000) = true := by simpa using h2
        clear h1 h2
        go_enter Try.func85, Try.ntmps85
        go_wp2
        go_ret
        exact ⟨by rw [HQ.out]; rfl, rfl⟩
      · have HQ := Lib.hid (show mayN 3 x = false by simp [mayN, h1, h2])
        have d1 : decide (-1000 ≤ x) = true := by simpa using h1
        have d2 : decide (x ≤ 1000) = false := by simpa using h2
        clear h1 h2
        go_enter Try.func85, Try.ntmps85
        go_wp2
        go_ret
        exact ⟨by rw [HQ.out]; rfl, rfl⟩
    · have HQ := Lib.hid (show mayN 3 x = false by simp [mayN, h1])
      have d1 : decide (-1000 ≤ x) = false := by simpa using h1
      clear h1
      go_enter Try.func85, Try.ntmps85
      go_wp2
      go_ret
      exact ⟨by rw [HQ.out]; rfl, rfl⟩
  · by_cases h1 : 1 ≤ x
    · by_cases h2 : x ≤ 1000
      · have HQ := Lib.hid (show mayN 4 x = true by simp [mayN, h1, h2])
        have d1 : decide (1 ≤ x) = true := by simpa using h1
        have d2 : decide (x ≤ 1000) = true := by simpa using h2
        clear h1 h2
        go_enter Try.func85, Try.ntmps85
        go_wp2
        go_ret
        exact ⟨by rw [HQ.out]; rfl, rfl⟩
      · have HQ := Lib.hid (show mayN 4 x = false by simp [mayN, h1, h2])
        have d1 : decide (1 ≤ x) = true := by simpa using h1
        have d2 : decide (x ≤ 1000) = false := by simpa using h2
        clear h1 h2
        go_enter Try.func85, Try.ntmps85
        go_wp2
        go_ret
        exact ⟨by rw [HQ.out]; rfl, rfl⟩
    · have HQ := Lib.hid (show mayN 4 x = false by simp [mayN, h1])
      have d1 : decide (1 ≤ x) = false := by simpa using h1
      clear h1
      go_enter Try.func85, Try.ntmps85
      go_wp2
      go_ret
      exact ⟨by rw [HQ.out]; rfl, rfl⟩
theorem isNaN_any (n : Int) (w : World) : Calls Try.prog 103 #[.int .i64 n] w fun r w' => r = .returned (.bool false) ∧ w = w' := by
  have h : (n != n) = false := by simp
  go_enter Try.func103, Try.ntmps103
  go_wp2
  go_ret
  exact ⟨rfl, rfl⟩
def cmpI (a b : Int) : Int := if a < b then -1 else if b < a then 1 else 0
theorem compare64_any (a b : Int) (w : World) : Calls Try.prog 89 #[.int .i64 a, .int .i64 b] w fun r w' => r = .returned (.int .i64 (cmpI a b)) ∧ w = w' := by
  have HA := Lib.hid (isNaN_any a)
  have HB := Lib.hid (isNaN_any b)
  by_cases h1 : a < b
  · have HQ := Lib.hid (show cmpI a b = -1 from if_pos h1)
    go_enter Try.func89, Try.ntmps89
    go_wp2_with (go_at_call 103; (first | with_reducible refine (HA.out _).mono ?_ | with_reducible refine (HB.out _).mono ?_); rintro e w' ⟨rfl, rfl⟩)
    go_ret
    exact ⟨by rw [HQ.out]; rfl, rfl⟩
  · by_cases h2 : b < a
    · have HQ := Lib.hid (show cmpI a b = 1 by unfold cmpI; rw [if_neg h1, if_pos h2])
      go_enter Try.func89, Try.ntmps89
      go_wp2_with (go_at_call 103; (first | with_reducible refine (HA.out _).mono ?_ | with_reducible refine (HB.out _).mono ?_); rintro e w' ⟨rfl, rfl⟩)
      go_ret
      exact ⟨by rw [HQ.out]; rfl, rfl⟩
    · have HQ := Lib.hid (show cmpI a b = 0 by unfold cmpI; rw [if_neg h1, if_neg h2])
      go_enter Try.func89, Try.ntmps89
      go_wp2_with (go_at_call 103; (first | with_reducible refine (HA.out _).mono ?_ | with_reducible refine (HB.out _).mono ?_); rintro e w' ⟨rfl, rfl⟩)
      go_ret
      exact ⟨by rw [HQ.out]; rfl, rfl⟩
theorem findCmp_any (u : Un) (id : Int) (w : World) : Calls Try.prog 88 #[unV u, .int .i64 id] w fun r w' => r = .returned (.int .i64 (cmpI u.id id)) ∧ Below w.heap.size w w' := by
  obtain ⟨i, k, o, x, y, h⟩ := u
  have HC := Lib.hid (compare64_any i id)
  unfold unV
  simp only
  go_enter Try.func88, Try.ntmps88
  go_wp2_with (go_at_call 89; (with_reducible refine (HC.out _).mono ?_); rintro e w' ⟨rfl, rfl⟩)
  go_ret
  exact ⟨rfl, (Below.refl _ _).alloc (Nat.le_refl _) _⟩
end Go.Proofs.Ytdkokfpbmmjfkaa
