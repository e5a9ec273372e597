/-
  Layer 8: the calls at the head of the laws.
-/
import Derived.Test.YthggfjjiohdbmaaUnit7
import Derived.Laws.StructEq
namespace Go.Proofs.Ythggfjjiohdbmaa
open Go.RowKit
set_option linter.unusedVariables false

set_option maxHeartbeats 1000000 in
theorem arr5_in (k : Nat) (a b c d e a' b' c' d' e' : Int) (w : World) : (Op.equalIn (k + 2) 51 (.agg #[.int .i64 a, .int .i64 b, .int .i64 c, .int .i64 d, .int .i64 e]) (.agg #[.int .i64 a', .int .i64 b', .int .i64 c', .int .i64 d', .int .i64 e'])).run Try.prog w = .ok (a == a' && (b == b' && (c == c' && (d == d' && e == e')))) w := by
  obtain ⟨i0, hi, hz0, hz1, hz2⟩ := info_is info64
  have hE : ∀ (x y : Int) (w : World), (Op.equalIn (k + 1) 2 (.int .i64 x) (.int .i64 y)).run Try.prog w = .ok (x == y) w := fun x y w => by
    simp [Op.equalIn, run_underlying Try.underlying2]
  have hr : List.range' 0 5 = [0, 1, 2, 3, 4] := rfl
  unfold Op.equalIn
  simp only [Sem.run_bind, run_underlying Try.underlying51, Result.andThen_ok]
  by_cases h0 : a = a'
  · by_cases h1 : b = b'
    · by_cases h2 : c = c'
      · by_cases h3 : d = d'
        · by_cases h4 : e = e'
          · simp [sizeOf, typeInfo, hi, hz1, part, hE, hr, isAgg, run_underlying Try.underlying2, h0, h1, h2, h3, h4]
          · simp [sizeOf, typeInfo, hi, hz1, part, hE, hr, isAgg, run_underlying Try.underlying2, h0, h1, h2, h3, h4]
        · simp [sizeOf, typeInfo, hi, hz1, part, hE, hr, isAgg, run_underlying Try.underlying2, h0, h1, h2, h3]
      · simp [sizeOf, typeInfo, hi, hz1, part, hE, hr, isAgg, run_underlying Try.underlying2, h0, h1, h2]
    · simp [sizeOf, typeInfo, hi, hz1, part, hE, hr, isAgg, run_underlying Try.underlying2, h0, h1]
  · simp [sizeOf, typeInfo, hi, hz1, part, hE, hr, isAgg, run_underlying Try.underlying2, h0]
theorem arr5_eq (a b c d e a' b' c' d' e' : Int) (w : World) : (binOp .eql 51 (.agg #[.int .i64 a, .int .i64 b, .int .i64 c, .int .i64 d, .int .i64 e]) (.agg #[.int .i64 a', .int .i64 b', .int .i64 c', .int .i64 d', .int .i64 e'])).run Try.prog w = .ok (.bool (a == a' && (b == b' && (c == c' && (d == d' && e == e'))))) w := by
  have h := arr5_in 9998 a b c d e a' b' c' d' e' w
  go_simp
def unQ (u v : Un) : Bool := u.id == v.id && (u.kind == v.kind && (u.owner == v.owner && (u.x == v.x && (u.y == v.y && u.health == v.health))))
theorem unQ_iff (u v : Un) : unQ u v = true ↔ u = v := by
  obtain ⟨i, a, b, c, d, e⟩ := u
  obtain ⟨i', a', b', c', d', e'⟩ := v
  simp [unQ]
theorem un_eq (u v : Un) (w : World) : (binOp .eql 61 (unV u) (unV v)).run Try.prog w = .ok (.bool (unQ u v)) w := by
  obtain ⟨i, a, b, c, d, e⟩ := u
  obtain ⟨i', a', b', c', d', e'⟩ := v
  have h := arr5_in 9997 a b c d e a' b' c' d' e' w
  unfold unV unQ
  simp only
  generalize (a == a' && (b == b' && (c == c' && (d == d' && e == e')))) = q at h ⊢
  by_cases hi : i = i'
  · subst hi
    go_simp
    cases q <;> simp
  · go_simp
theorem un_neq (u v : Un) (w : World) : (binOp .neq 61 (unV u) (unV v)).run Try.prog w = .ok (.bool (!unQ u v)) w := by
  obtain ⟨i, a, b, c, d, e⟩ := u
  obtain ⟨i', a', b', c', d', e'⟩ := v
  have h := arr5_in 9997 a b c d e a' b' c' d' e' w
  unfold unV unQ
  simp only
  generalize (a == a' && (b == b' && (c == c' && (d == d' && e == e')))) = q at h ⊢
  by_cases hi : i = i'
  · subst hi
    go_simp
    cases q <;> simp
  · go_simp
theorem run_neq (u v : Un) (w : World) : (binOp .neq 53 (unV u) (unV v)).run Try.prog w = .ok (.bool (!unQ u v)) w := by
  obtain ⟨i, a, b, c, d, e⟩ := u
  obtain ⟨i', a', b', c', d', e'⟩ := v
  have h := arr5_in 9997 a b c d e a' b' c' d' e' w
  unfold unV unQ
  simp only
  generalize (a == a' && (b == b' && (c == c' && (d == d' && e == e')))) = q at h ⊢
  by_cases hi : i = i'
  · subst hi
    go_simp
    cases q <;> simp
  · go_simp
def oneU : Un := ⟨1, 3, 1, 0, 5, 1000⟩
theorem one_find : FindIs [oneU] 1 0 := ⟨by decide, fun h hh => by
  have : h = 0 := by simpa using hh
  subst this
  simp [oneU]⟩
end Go.Proofs.Ythggfjjiohdbmaa
