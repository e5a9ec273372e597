/-
  Layer 8: the calls at the head of the laws.
-/
import Derived.Test.YtdkokfpbmmjfkaaUnit7
import Derived.Laws.StructEq
namespace Go.Proofs.Ytdkokfpbmmjfkaa
open Go.RowKit
set_option linter.unusedVariables false

set_option maxHeartbeats 1000000 in
theorem arr5_in (k : Nat) (a b c d e a' b' c' d' e' : Int) (w : World) : (Op.equalIn (k + 2) 33 (.agg #[.int .i64 a, .int .i64 b, .int .i64 c, .int .i64 d, .int .i64 e]) (.agg #[.int .i64 a', .int .i64 b', .int .i64 c', .int .i64 d', .int .i64 e'])).run Try.prog w = .ok (a == a' && (b == b' && (c == c' && (d == d' && e == e')))) w := by
  obtain ⟨i0, hi, hz0, hz1, hz2⟩ := info_is info64
  have hE : ∀ (x y : Int) (w : World), (Op.equalIn (k + 1) 2 (.int .i64 x) (.int .i64 y)).run Try.prog w = .ok (x == y) w := fun x y w => by
    simp [Op.equalIn, run_underlying Try.underlying2]
  have hr : List.range' 0 5 = [0, 1, 2, 3, 4] := rfl
  unfold Op.equalIn
  simp only [Sem.run_bind, run_underlying Try.underlying33, Result.andThen_ok]
  by_cases h0 : a = a'
  · by_cases h1 : b = b'
    · by_cases h2 : c = c'
      · by_cases h3 : d = d'
        · by_cases h4 : e = e'
          · simp [sizeOf, typeInfo, hi, hz1, part, hE, hr, isAgg, run_underlying Try.underlying2, h0, h1, h2, h3, h4]
          · simp [sizeOf, typeInfo, hi, hz1, part, hE, hr, isAgg, run_underlying Try.underlying2, h0, h1, h2, h3, h4]
        · simp [sizeOf, typeInfo, hi, hz1, part, hE, hr, isAgg, run_underlying Try.underlying2, h0, h1, h2, h3]
      · simp [sizeOf, typeInfo, hi, hz1, part, hE, hr, isAgg, run_underlying Try.underlying2, h0, h1, h2]
    · simp [sizeOf, typeInfo, hi, hz1, part, hE, hr, isAgg, run_underlying Try.underlying2, h0, h1]
  · simp [sizeOf, typeInfo, hi, hz1, part, hE, hr, isAgg, run_underlying Try.underlying2, h0]
theorem arr5_eq (a b c d e a' b' c' d' e' : Int) (w : World) : (binOp .eql 33 (.agg #[.int .i64 a, .int .i64 b, .int .i64 c, .int .i64 d, .int .i64 e]) (.agg #[.int .i64 a', .int .i64 b', .int .i64 c', .int .i64 d', .int .i64 e'])).run Try.prog w = .ok (.bool (a == a' && (b == b' && (c == c' && (d == d' && e == e'))))) w := by
  have h := arr5_in 9998 a b c d e a' b' c' d' e' w
  go_simp
def unQ (u v : Un) : Bool := u.id == v.id && (u.kind == v.kind && (u.owner == v.owner && (u.x == v.x && (u.y == v.y && u.health == v.health))))
theorem unQ_iff (u v : Un) : unQ u v = true ↔ u = v := by
  obtain ⟨i, a, b, c, d, e⟩ := u
  obtain ⟨i', a', b', c', d', e'⟩ := v
  simp [unQ]
theorem un_eq (u v : Un) (w : World) : (binOp .eql 35 (unV u) (unV v)).run Try.prog w = .ok (.bool (unQ u v)) w := by
  obtain ⟨i, a, b, c, d, e⟩ := u
  obtain ⟨i', a', b', c', d', e'⟩ := v
  have h := arr5_in 9997 a b c d e a' b' c' d' e' w
  unfold unV unQ
  simp only
  generalize (a == a' && (b == b' && (c == c' && (d == d' && e == e')))) = q at h ⊢
  by_cases hi : i = i'
  · subst hi
    go_simp
    cases q <;> simp
  · go_simp
theorem un_neq (u v : Un) (w : World) : (binOp .neq 35 (unV u) (unV v)).run Try.prog w = .ok (.bool (!unQ u v)) w := by
  obtain ⟨i, a, b, c, d, e⟩ := u
  obtain ⟨i', a', b', c', d', e'⟩ := v
  have h := arr5_in 9997 a b c d e a' b' c' d' e' w
  unfold unV unQ
  simp only
  generalize (a == a' && (b == b' && (c == c' && (d == d' && e == e')))) = q at h ⊢
  by_cases hi : i = i'
  · subst hi
    go_simp
    cases q <;> simp
  · go_simp
theorem run_neq (u v : Un) (w : World) : (binOp .neq 113 (unV u) (unV v)).run Try.prog w = .ok (.bool (!unQ u v)) w := by
  obtain ⟨i, a, b, c, d, e⟩ := u
  obtain ⟨i', a', b', c', d', e'⟩ := v
  have h := arr5_in 9997 a b c d e a' b' c' d' e' w
  unfold unV unQ
  simp only
  generalize (a == a' && (b == b' && (c == c' && (d == d' && e == e')))) = q at h ⊢
  by_cases hi : i = i'
  · subst hi
    go_simp
    cases q <;> simp
  · go_simp
def oneU : Un := ⟨1, 3, 1, 0, 5, 1000⟩
theorem one_find : FindIs [oneU] 1 0 := ⟨by decide, fun h hh => by
  have : h = 0 := by simpa using hh
  subst this
  simp [oneU]⟩
set_option maxRecDepth 100000 in
set_option maxHeartbeats 2000000 in
theorem awake8_any (w : World) : Calls Try.prog 11 #[] w fun e w' => e = .returned (.bool true) ∧ Below w.heap.size w w' := by
  have HNEW := Lib.hid (tabNew_any (fun k => k < w.heap.size) w (fun k hk => hk))
  have HSP := Lib.hid (fun (W : World) (h : TabQ (fun k => k < w.heap.size) w.heap.size [] 0 W) => (show Calls Try.prog 50 #[.pointer (some ⟨w.heap.size, 0, none⟩), .int .i64 3, .int .i64 1, .int .i64 0, .int .i64 5] W fun r w' => r = .returned (.int .i64 1) ∧ TabTo (fun k => k < w.heap.size) w.heap.size [oneU] 1 W w' from spawn_yes w.heap.size [] 0 3 1 0 5 W h (by decide)))
  have HUN := Lib.hid (fun (W : World) (h : TabQ (fun k => k < w.heap.size) w.heap.size [oneU] 1 W) => tabUnit_some w.heap.size [oneU] 1 1 0 W h one_find (by decide) rfl)
  have HST := Lib.hid (fun (W : World) (h : TabQ (fun k => k < w.heap.size) w.heap.size [oneU] 1 W) => set_kill w.heap.size [oneU] 1 1 0 0 W h one_find (by decide) rfl (by decide))
  have harr := arr5_eq 3 1 0 5 1000 3 1 0 5 1000
  have hbt : ((3 : Int) == 3 && ((1 : Int) == 1 && ((0 : Int) == 0 && ((5 : Int) == 5 && (1000 : Int) == 1000)))) = true := by decide
  rw [hbt] at harr
  clear hbt
  go_enter Try.func11, Try.ntmps11
  go_wp2_with fail
  refine HNEW.out.mono ?_
  rintro r w1 ⟨rfl, hq1, hb1⟩
  have HQ1 := Lib.hid hq1
  have HB1 := Lib.hid hb1
  clear hq1 hb1 HNEW
  go_wp2_with fail
  refine (HSP.out _ HQ1.out).mono ?_
  rintro r w2 ⟨rfl, hq2, ht2⟩
  have HQ2 := Lib.hid hq2
  have HB2 := Lib.hid (HB1.out.trans (ht2.below HB1.out.size (fun k hk h => h hk)))
  clear hq2 ht2 HSP HB1 HQ1
  go_wp2_with fail
  refine (HUN.out _ HQ2.out).mono ?_
  rintro r w3 ⟨rfl, hb3⟩
  have HQ3 := Lib.hid (HQ2.out.below hb3)
  have HB3 := Lib.hid (HB2.out.trans (hb3.mono HB2.out.size))
  clear hb3 HUN HQ2 HB2
  unfold unV oneU
  simp only [List.getElem_cons_zero]
  have HQ4 := Lib.hid (HQ3.out.below ((Below.refl _ w3).alloc (Nat.le_refl _) (.cells #[.int .i64 1, .int .i64 3, .int .i64 1, .int .i64 0, .int .i64 5, .int .i64 1000] 35)))
  have HB4 := Lib.hid (HB3.out.alloc HB3.out.size (.cells #[.int .i64 1, .int .i64 3, .int .i64 1, .int .i64 0, .int .i64 5, .int .i64 1000] 35))
  go_wp2_with fail
  refine (HST.out _ HQ4.out).mono ?_
  rintro r w5 ⟨rfl, hq5, ht5⟩
  have HQ5 := Lib.hid hq5
  have HB5 := Lib.hid (HB4.out.trans (ht5.below HB4.out.size (fun k hk h => h hk)))
  have HLE := Lib.hid (tabLen_any w.heap.size _ 1 w5 hq5)
  have HNX := Lib.hid (tabNext_any w.heap.size _ 1 w5 hq5)
  clear hq5 ht5 HST HQ4 HB4 HQ3 HB3
  go_wp2_with fail
  refine HLE.out.mono ?_
  rintro r w6 ⟨rfl, rfl⟩
  have hz : (([oneU].eraseIdx 0).length : Nat) = 0 := rfl
  rw [hz]
  go_wp2_with fail
  refine HNX.out.mono ?_
  rintro r w6 ⟨rfl, rfl⟩
  go_wp2
  go_ret
  exact ⟨rfl, HB5.out⟩
end Go.Proofs.Ytdkokfpbmmjfkaa
