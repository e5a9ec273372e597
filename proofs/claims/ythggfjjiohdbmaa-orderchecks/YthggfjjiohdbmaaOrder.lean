/-
  Layer 9: orders: which may be.
-/
import Derived.Test.YthggfjjiohdbmaaRecs
import Derived.Outline
namespace Go.Proofs.Ythggfjjiohdbmaa
open Go.RowKit
set_option linter.unusedVariables false

/-- An order. -/
structure Ord where
  kind : Int
  unit : Int
  a : Int
  b : Int
def Ord.ints (o : Ord) : List Int := [o.kind, o.unit, o.a, o.b]
def OrdOk (o : Ord) : Prop := B64 o.kind ∧ B64 o.unit ∧ B64 o.a ∧ B64 o.b
def numQ (n : Int) : Bool := decide (1 ≤ n) && decide (n < 1099511627776)
def placeQ (n : Int) : Bool := decide (-1000 ≤ n) && decide (n ≤ 1000)
def kindQ (n : Int) : Bool := decide (0 ≤ n) && decide (n ≤ 255)
def okN (q : Bool) : Nat := if q then 0 else 4
/-- The number of the error that tells why an order may not be. -/
def checkN (o : Ord) : Nat :=
  if o.kind = 1 then okN (numQ o.unit && (placeQ o.a && placeQ o.b))
  else if o.kind = 2 then okN (numQ o.unit && (numQ o.a && decide (o.b = 0)))
  else if o.kind = 3 then okN (decide (o.unit = 0) && (kindQ o.a && placeQ o.b))
  else if o.kind = 4 then okN (numQ o.unit && (decide (o.a = 0) && decide (o.b = 0)))
  else 7
theorem checkN_le (o : Ord) : checkN o ≤ 7 := by
  unfold checkN okN
  repeat' split
  all_goals omega
def ordV (o : Ord) : Value := .agg #[.int .i64 o.kind, .int .i64 o.unit, .int .i64 o.a, .int .i64 o.b]
theorem isNumber_any (n : Int) (w : World) : Calls Try.prog 20 #[.int .i64 n] w fun r w' => r = .returned (.bool (numQ n)) ∧ w = w' := by
  by_cases h1 : 1 ≤ n
  · by_cases h2 : n < 1099511627776
    · have HQ := Lib.hid (show numQ n = true by simp [numQ, h1, h2])
      have d1 : decide (1 ≤ n) = true := by simpa using h1
      have d2 : decide (n < 1099511627776) = true := by simpa using h2
      clear h1 h2
      go_enter Try.func20, Try.ntmps20
      go_wp2
      go_ret
      exact ⟨by rw [HQ.out]; rfl, rfl⟩
    · have HQ := Lib.hid (show numQ n = false by simp [numQ, h1, h2])
      have d1 : decide (1 ≤ n) = true := by simpa using h1
      have d2 : decide (n < 1099511627776) = false := by simpa using h2
      clear h1 h2
      go_enter Try.func20, Try.ntmps20
      go_wp2
      go_ret
      exact ⟨by rw [HQ.out]; rfl, rfl⟩
  · have HQ := Lib.hid (show numQ n = false by simp [numQ, h1])
    have d1 : decide (1 ≤ n) = false := by simpa using h1
    clear h1
    go_enter Try.func20, Try.ntmps20
    go_wp2
    go_ret
    exact ⟨by rw [HQ.out]; rfl, rfl⟩
theorem isPlace_any (n : Int) (w : World) : Calls Try.prog 21 #[.int .i64 n] w fun r w' => r = .returned (.bool (placeQ n)) ∧ w = w' := by
  by_cases h1 : -1000 ≤ n
  · by_cases h2 : n ≤ 1000
    · have HQ := Lib.hid (show placeQ n = true by simp [placeQ, h1, h2])
      have d1 : decide (-1000 ≤ n) = true := by simpa using h1
      have d2 : decide (n ≤ 1000) = true := by simpa using h2
      clear h1 h2
      go_enter Try.func21, Try.ntmps21
      go_wp2
      go_ret
      exact ⟨by rw [HQ.out]; rfl, rfl⟩
    · have HQ := Lib.hid (show placeQ n = false by simp [placeQ, h1, h2])
      have d1 : decide (-1000 ≤ n) = true := by simpa using h1
      have d2 : decide (n ≤ 1000) = false := by simpa using h2
      clear h1 h2
      go_enter Try.func21, Try.ntmps21
      go_wp2
      go_ret
      exact ⟨by rw [HQ.out]; rfl, rfl⟩
  · have HQ := Lib.hid (show placeQ n = false by simp [placeQ, h1])
    have d1 : decide (-1000 ≤ n) = false := by simpa using h1
    clear h1
    go_enter Try.func21, Try.ntmps21
    go_wp2
    go_ret
    exact ⟨by rw [HQ.out]; rfl, rfl⟩
theorem refId_any (n : Int) (w : World) : Calls Try.prog 22 #[.int .i64 n] w fun r w' => r = .returned (.bool (numQ n)) ∧ w = w' := by
  by_cases h1 : 1 ≤ n
  · by_cases h2 : n < 1099511627776
    · have HQ := Lib.hid (show numQ n = true by simp [numQ, h1, h2])
      have d1 : decide (1 ≤ n) = true := by simpa using h1
      have d2 : decide (n < 1099511627776) = true := by simpa using h2
      clear h1 h2
      go_enter Try.func22, Try.ntmps22
      go_wp2
      go_ret
      exact ⟨by rw [HQ.out]; rfl, rfl⟩
    · have HQ := Lib.hid (show numQ n = false by simp [numQ, h1, h2])
      have d1 : decide (1 ≤ n) = true := by simpa using h1
      have d2 : decide (n < 1099511627776) = false := by simpa using h2
      clear h1 h2
      go_enter Try.func22, Try.ntmps22
      go_wp2
      go_ret
      exact ⟨by rw [HQ.out]; rfl, rfl⟩
  · have HQ := Lib.hid (show numQ n = false by simp [numQ, h1])
    have d1 : decide (1 ≤ n) = false := by simpa using h1
    clear h1
    go_enter Try.func22, Try.ntmps22
    go_wp2
    go_ret
    exact ⟨by rw [HQ.out]; rfl, rfl⟩
theorem refPlace_any (n : Int) (w : World) : Calls Try.prog 23 #[.int .i64 n] w fun r w' => r = .returned (.bool (placeQ n)) ∧ w = w' := by
  by_cases h1 : -1000 ≤ n
  · by_cases h2 : n ≤ 1000
    · have HQ := Lib.hid (show placeQ n = true by simp [placeQ, h1, h2])
      have d1 : decide (-1000 ≤ n) = true := by simpa using h1
      have d2 : decide (n ≤ 1000) = true := by simpa using h2
      clear h1 h2
      go_enter Try.func23, Try.ntmps23
      go_wp2
      go_ret
      exact ⟨by rw [HQ.out]; rfl, rfl⟩
    · have HQ := Lib.hid (show placeQ n = false by simp [placeQ, h1, h2])
      have d1 : decide (-1000 ≤ n) = true := by simpa using h1
      have d2 : decide (n ≤ 1000) = false := by simpa using h2
      clear h1 h2
      go_enter Try.func23, Try.ntmps23
      go_wp2
      go_ret
      exact ⟨by rw [HQ.out]; rfl, rfl⟩
  · have HQ := Lib.hid (show placeQ n = false by simp [placeQ, h1])
    have d1 : decide (-1000 ≤ n) = false := by simpa using h1
    clear h1
    go_enter Try.func23, Try.ntmps23
    go_wp2
    go_ret
    exact ⟨by rw [HQ.out]; rfl, rfl⟩
set_option maxRecDepth 100000 in
set_option maxHeartbeats 2000000 in
theorem ordCheck_any (o : Ord) (w : World) : Calls Try.prog 7 #[ordV o] w fun r w' => r = .returned (.int .i64 (checkN o : Nat)) ∧ Below w.heap.size w w' := by
  obtain ⟨k, u, a, b⟩ := o
  unfold ordV
  simp only
  by_cases h1 : k = 1
  · subst h1
    have HN := Lib.hid (fun w => isNumber_any u w)
    have HA := Lib.hid (fun w => isPlace_any a w)
    have HB := Lib.hid (fun w => isPlace_any b w)
    have HC := Lib.hid (show checkN ⟨1, u, a, b⟩ = okN (numQ u && (placeQ a && placeQ b)) from rfl)
    generalize numQ u = q0 at HN HC
    generalize placeQ a = q1 at HA HC
    generalize placeQ b = q2 at HB HC
    cases q0 <;> cases q1 <;> cases q2
    all_goals
      go_enter Try.func7, Try.ntmps7
      go_wp2_with (first | (go_at_call 20; (with_reducible refine (HN.out _).mono ?_); rintro e w' ⟨rfl, rfl⟩) | (go_at_call 21; (with_reducible refine (HA.out _).mono ?_); rintro e w' ⟨rfl, rfl⟩) | (go_at_call 21; (with_reducible refine (HB.out _).mono ?_); rintro e w' ⟨rfl, rfl⟩))
      go_ret
      exact ⟨by rw [HC.out]; rfl, (Below.refl _ _).alloc (Nat.le_refl _) _⟩
  by_cases h2 : k = 2
  · subst h2
    have HN := Lib.hid (fun w => isNumber_any u w)
    have HA := Lib.hid (fun w => isNumber_any a w)
    have HC := Lib.hid (show checkN ⟨2, u, a, b⟩ = okN (numQ u && (numQ a && decide (b = 0))) from rfl)
    generalize numQ u = q0 at HN HC
    generalize numQ a = q1 at HA HC
    by_cases hb : b = 0
    · subst hb
      cases q0 <;> cases q1
      all_goals
        go_enter Try.func7, Try.ntmps7
        go_wp2_with (first | (go_at_call 20; (with_reducible refine (HN.out _).mono ?_); rintro e w' ⟨rfl, rfl⟩) | (go_at_call 20; (with_reducible refine (HA.out _).mono ?_); rintro e w' ⟨rfl, rfl⟩))
        go_ret
        exact ⟨by rw [HC.out]; rfl, (Below.refl _ _).alloc (Nat.le_refl _) _⟩
    · rw [decide_eq_false hb] at HC
      have hbb : (b == 0) = false := by simpa using hb
      clear hb
      cases q0 <;> cases q1
      all_goals
        go_enter Try.func7, Try.ntmps7
        go_wp2_with (first | (go_at_call 20; (with_reducible refine (HN.out _).mono ?_); rintro e w' ⟨rfl, rfl⟩) | (go_at_call 20; (with_reducible refine (HA.out _).mono ?_); rintro e w' ⟨rfl, rfl⟩))
        go_ret
        exact ⟨by rw [HC.out]; rfl, (Below.refl _ _).alloc (Nat.le_refl _) _⟩
  by_cases h3 : k = 3
  · subst h3
    have HB := Lib.hid (fun w => isPlace_any b w)
    have HC := Lib.hid (show checkN ⟨3, u, a, b⟩ = okN (decide (u = 0) && (kindQ a && placeQ b)) from rfl)
    generalize placeQ b = q2 at HB HC
    by_cases hu : u = 0
    · subst hu
      by_cases ha1 : 0 ≤ a
      · by_cases ha2 : a ≤ 255
        · rw [show kindQ a = true by simp [kindQ, ha1, ha2]] at HC
          have d1 : decide (0 ≤ a) = true := by simpa using ha1
          have d2 : decide (a ≤ 255) = true := by simpa using ha2
          clear ha1 ha2
          cases q2
          all_goals
            go_enter Try.func7, Try.ntmps7
            go_wp2_with (first | (go_at_call 21; (with_reducible refine (HB.out _).mono ?_); rintro e w' ⟨rfl, rfl⟩))
            go_ret
            exact ⟨by rw [HC.out]; rfl, (Below.refl _ _).alloc (Nat.le_refl _) _⟩
        · rw [show kindQ a = false by simp [kindQ, ha1, ha2]] at HC
          have d1 : decide (0 ≤ a) = true := by simpa using ha1
          have d2 : decide (a ≤ 255) = false := by simpa using ha2
          clear ha1 ha2
          cases q2
          all_goals
            go_enter Try.func7, Try.ntmps7
            go_wp2_with (first | (go_at_call 21; (with_reducible refine (HB.out _).mono ?_); rintro e w' ⟨rfl, rfl⟩))
            go_ret
            exact ⟨by rw [HC.out]; rfl, (Below.refl _ _).alloc (Nat.le_refl _) _⟩
      · rw [show kindQ a = false by simp [kindQ, ha1]] at HC
        have d1 : decide (0 ≤ a) = false := by simpa using ha1
        clear ha1
        cases q2
        all_goals
          go_enter Try.func7, Try.ntmps7
          go_wp2_with (first | (go_at_call 21; (with_reducible refine (HB.out _).mono ?_); rintro e w' ⟨rfl, rfl⟩))
          go_ret
          exact ⟨by rw [HC.out]; rfl, (Below.refl _ _).alloc (Nat.le_refl _) _⟩
    · rw [decide_eq_false hu] at HC
      have hub : (u == 0) = false := by simpa using hu
      clear hu
      go_enter Try.func7, Try.ntmps7
      go_wp2
      go_ret
      exact ⟨by rw [HC.out]; rfl, (Below.refl _ _).alloc (Nat.le_refl _) _⟩
  by_cases h4 : k = 4
  · subst h4
    have HN := Lib.hid (fun w => isNumber_any u w)
    have HC := Lib.hid (show checkN ⟨4, u, a, b⟩ = okN (numQ u && (decide (a = 0) && decide (b = 0))) from rfl)
    generalize numQ u = q0 at HN HC
    by_cases ha : a = 0
    · subst ha
      by_cases hb : b = 0
      · subst hb
        cases q0
        all_goals
          go_enter Try.func7, Try.ntmps7
          go_wp2_with (first | (go_at_call 20; (with_reducible refine (HN.out _).mono ?_); rintro e w' ⟨rfl, rfl⟩))
          go_ret
          exact ⟨by rw [HC.out]; rfl, (Below.refl _ _).alloc (Nat.le_refl _) _⟩
      · rw [decide_eq_false hb] at HC
        have hbb : (b == 0) = false := by simpa using hb
        clear hb
        cases q0
        all_goals
          go_enter Try.func7, Try.ntmps7
          go_wp2_with (first | (go_at_call 20; (with_reducible refine (HN.out _).mono ?_); rintro e w' ⟨rfl, rfl⟩))
          go_ret
          exact ⟨by rw [HC.out]; rfl, (Below.refl _ _).alloc (Nat.le_refl _) _⟩
    · rw [decide_eq_false ha] at HC
      have hab : (a == 0) = false := by simpa using ha
      clear ha
      cases q0
      all_goals
        go_enter Try.func7, Try.ntmps7
        go_wp2_with (first | (go_at_call 20; (with_reducible refine (HN.out _).mono ?_); rintro e w' ⟨rfl, rfl⟩))
        go_ret
        exact ⟨by rw [HC.out]; rfl, (Below.refl _ _).alloc (Nat.le_refl _) _⟩
  have HC := Lib.hid (show checkN ⟨k, u, a, b⟩ = 7 by simp [checkN, h1, h2, h3, h4])
  have g1 : (k == 1) = false := by simpa using h1
  have g2 : (k == 2) = false := by simpa using h2
  have g3 : (k == 3) = false := by simpa using h3
  have g4 : (k == 4) = false := by simpa using h4
  clear h1 h2 h3 h4
  go_enter Try.func7, Try.ntmps7
  go_wp2
  go_ret
  exact ⟨by rw [HC.out]; rfl, (Below.refl _ _).alloc (Nat.le_refl _) _⟩
set_option maxRecDepth 100000 in
set_option maxHeartbeats 2000000 in
theorem refOrdCheck_any (o : Ord) (w : World) : Calls Try.prog 8 #[ordV o] w fun r w' => r = .returned (.int .i64 (checkN o : Nat)) ∧ Below w.heap.size w w' := by
  obtain ⟨k, u, a, b⟩ := o
  unfold ordV
  simp only
  by_cases h1 : k = 1
  · subst h1
    have HN := Lib.hid (fun w => refId_any u w)
    have HA := Lib.hid (fun w => refPlace_any a w)
    have HB := Lib.hid (fun w => refPlace_any b w)
    have HC := Lib.hid (show checkN ⟨1, u, a, b⟩ = okN (numQ u && (placeQ a && placeQ b)) from rfl)
    generalize numQ u = q0 at HN HC
    generalize placeQ a = q1 at HA HC
    generalize placeQ b = q2 at HB HC
    cases q0 <;> cases q1 <;> cases q2
    all_goals
      go_enter Try.func8, Try.ntmps8
      go_wp2_with (first | (go_at_call 22; (with_reducible refine (HN.out _).mono ?_); rintro e w' ⟨rfl, rfl⟩) | (go_at_call 23; (with_reducible refine (HA.out _).mono ?_); rintro e w' ⟨rfl, rfl⟩) | (go_at_call 23; (with_reducible refine (HB.out _).mono ?_); rintro e w' ⟨rfl, rfl⟩))
      go_ret
      exact ⟨by rw [HC.out]; rfl, (Below.refl _ _).alloc (Nat.le_refl _) _⟩
  by_cases h2 : k = 2
  · subst h2
    have HN := Lib.hid (fun w => refId_any u w)
    have HA := Lib.hid (fun w => refId_any a w)
    have HC := Lib.hid (show checkN ⟨2, u, a, b⟩ = okN (numQ u && (numQ a && decide (b = 0))) from rfl)
    generalize numQ u = q0 at HN HC
    generalize numQ a = q1 at HA HC
    by_cases hb : b = 0
    · subst hb
      cases q0 <;> cases q1
      all_goals
        go_enter Try.func8, Try.ntmps8
        go_wp2_with (first | (go_at_call 22; (with_reducible refine (HN.out _).mono ?_); rintro e w' ⟨rfl, rfl⟩) | (go_at_call 22; (with_reducible refine (HA.out _).mono ?_); rintro e w' ⟨rfl, rfl⟩))
        go_ret
        exact ⟨by rw [HC.out]; rfl, (Below.refl _ _).alloc (Nat.le_refl _) _⟩
    · rw [decide_eq_false hb] at HC
      have hbb : (b == 0) = false := by simpa using hb
      clear hb
      cases q0 <;> cases q1
      all_goals
        go_enter Try.func8, Try.ntmps8
        go_wp2_with (first | (go_at_call 22; (with_reducible refine (HN.out _).mono ?_); rintro e w' ⟨rfl, rfl⟩) | (go_at_call 22; (with_reducible refine (HA.out _).mono ?_); rintro e w' ⟨rfl, rfl⟩))
        go_ret
        exact ⟨by rw [HC.out]; rfl, (Below.refl _ _).alloc (Nat.le_refl _) _⟩
  by_cases h3 : k = 3
  · subst h3
    have HB := Lib.hid (fun w => refPlace_any b w)
    have HC := Lib.hid (show checkN ⟨3, u, a, b⟩ = okN (decide (u = 0) && (kindQ a && placeQ b)) from rfl)
    generalize placeQ b = q2 at HB HC
    by_cases hu : u = 0
    · subst hu
      by_cases ha1 : 0 ≤ a
      · by_cases ha2 : a ≤ 255
        · rw [show kindQ a = true by simp [kindQ, ha1, ha2]] at HC
          have d1 : decide (0 ≤ a) = true := by simpa using ha1
          have d2 : decide (a ≤ 255) = true := by simpa using ha2
          clear ha1 ha2
          cases q2
          all_goals
            go_enter Try.func8, Try.ntmps8
            go_wp2_with (first | (go_at_call 23; (with_reducible refine (HB.out _).mono ?_); rintro e w' ⟨rfl, rfl⟩))
            go_ret
            exact ⟨by rw [HC.out]; rfl, (Below.refl _ _).alloc (Nat.le_refl _) _⟩
        · rw [show kindQ a = false by simp [kindQ, ha1, ha2]] at HC
          have d1 : decide (0 ≤ a) = true := by simpa using ha1
          have d2 : decide (a ≤ 255) = false := by simpa using ha2
          clear ha1 ha2
          cases q2
          all_goals
            go_enter Try.func8, Try.ntmps8
            go_wp2_with (first | (go_at_call 23; (with_reducible refine (HB.out _).mono ?_); rintro e w' ⟨rfl, rfl⟩))
            go_ret
            exact ⟨by rw [HC.out]; rfl, (Below.refl _ _).alloc (Nat.le_refl _) _⟩
      · rw [show kindQ a = false by simp [kindQ, ha1]] at HC
        have d1 : decide (0 ≤ a) = false := by simpa using ha1
        clear ha1
        cases q2
        all_goals
          go_enter Try.func8, Try.ntmps8
          go_wp2_with (first | (go_at_call 23; (with_reducible refine (HB.out _).mono ?_); rintro e w' ⟨rfl, rfl⟩))
          go_ret
          exact ⟨by rw [HC.out]; rfl, (Below.refl _ _).alloc (Nat.le_refl _) _⟩
    · rw [decide_eq_false hu] at HC
      have hub : (u == 0) = false := by simpa using hu
      clear hu
      go_enter Try.func8, Try.ntmps8
      go_wp2
      go_ret
      exact ⟨by rw [HC.out]; rfl, (Below.refl _ _).alloc (Nat.le_refl _) _⟩
  by_cases h4 : k = 4
  · subst h4
    have HN := Lib.hid (fun w => refId_any u w)
    have HC := Lib.hid (show checkN ⟨4, u, a, b⟩ = okN (numQ u && (decide (a = 0) && decide (b = 0))) from rfl)
    generalize numQ u = q0 at HN HC
    by_cases ha : a = 0
    · subst ha
      by_cases hb : b = 0
      · subst hb
        cases q0
        all_goals
          go_enter Try.func8, Try.ntmps8
          go_wp2_with (first | (go_at_call 22; (with_reducible refine (HN.out _).mono ?_); rintro e w' ⟨rfl, rfl⟩))
          go_ret
          exact ⟨by rw [HC.out]; rfl, (Below.refl _ _).alloc (Nat.le_refl _) _⟩
      · rw [decide_eq_false hb] at HC
        have hbb : (b == 0) = false := by simpa using hb
        clear hb
        cases q0
        all_goals
          go_enter Try.func8, Try.ntmps8
          go_wp2_with (first | (go_at_call 22; (with_reducible refine (HN.out _).mono ?_); rintro e w' ⟨rfl, rfl⟩))
          go_ret
          exact ⟨by rw [HC.out]; rfl, (Below.refl _ _).alloc (Nat.le_refl _) _⟩
    · rw [decide_eq_false ha] at HC
      have hab : (a == 0) = false := by simpa using ha
      clear ha
      cases q0
      all_goals
        go_enter Try.func8, Try.ntmps8
        go_wp2_with (first | (go_at_call 22; (with_reducible refine (HN.out _).mono ?_); rintro e w' ⟨rfl, rfl⟩))
        go_ret
        exact ⟨by rw [HC.out]; rfl, (Below.refl _ _).alloc (Nat.le_refl _) _⟩
  have HC := Lib.hid (show checkN ⟨k, u, a, b⟩ = 7 by simp [checkN, h1, h2, h3, h4])
  have g1 : (k == 1) = false := by simpa using h1
  have g2 : (k == 2) = false := by simpa using h2
  have g3 : (k == 3) = false := by simpa using h3
  have g4 : (k == 4) = false := by simpa using h4
  clear h1 h2 h3 h4
  go_enter Try.func8, Try.ntmps8
  go_wp2
  go_ret
  exact ⟨by rw [HC.out]; rfl, (Below.refl _ _).alloc (Nat.le_refl _) _⟩
end Go.Proofs.Ythggfjjiohdbmaa
