/-
  Layer 17: what the calls of a meter come to.
-/
import Derived.Test.YtcbadcbnknmdnaaPace1
import Derived.Test.YtcbadcbnknmdnaaVals
namespace Go.Proofs.Ytcbadcbnknmdnaa
open Go.RowKit
set_option linter.unusedVariables false

set_option maxRecDepth 100000 in
set_option maxHeartbeats 1000000 in
theorem pcheck17_any (t d : Int) (w : World) : Calls Try.prog 71 #[.agg #[.int .i64 t, .int .i64 d]] w fun r w' => r = .returned (.int .i64 (if mayP t d = true then 0 else 4)) ∧ w' = w.alloc (.cells #[.int .i64 t, .int .i64 d] 31) := by
  by_cases h1 : t < 1
  · have hm : mayP t d = false := by rw [Bool.eq_false_iff, Ne, mayP_iff]; omega
    rw [hm, if_neg (by simp)]
    clear hm
    go_enter Try.func71, Try.ntmps71
    go_wp2
    go_ret
    exact ⟨rfl, rfl⟩
  · by_cases h2 : 64 < t
    · have hm : mayP t d = false := by rw [Bool.eq_false_iff, Ne, mayP_iff]; omega
      have h1' : 1 ≤ t := by omega
      rw [hm, if_neg (by simp)]
      clear hm
      go_enter Try.func71, Try.ntmps71
      go_wp2
      go_ret
      exact ⟨rfl, rfl⟩
    · by_cases h3 : d < 1
      · have hm : mayP t d = false := by rw [Bool.eq_false_iff, Ne, mayP_iff]; omega
        have h1' : 1 ≤ t := by omega
        have h2' : t ≤ 64 := by omega
        rw [hm, if_neg (by simp)]
        clear hm
        go_enter Try.func71, Try.ntmps71
        go_wp2
        go_ret
        exact ⟨rfl, rfl⟩
      · by_cases h4 : 6 < d
        · have hm : mayP t d = false := by rw [Bool.eq_false_iff, Ne, mayP_iff]; omega
          have h1' : 1 ≤ t := by omega
          have h2' : t ≤ 64 := by omega
          have h3' : 1 ≤ d := by omega
          rw [hm, if_neg (by simp)]
          clear hm
          go_enter Try.func71, Try.ntmps71
          go_wp2
          go_ret
          exact ⟨rfl, rfl⟩
        · have hm : mayP t d = true := by rw [mayP_iff]; omega
          have h1' : 1 ≤ t := by omega
          have h2' : t ≤ 64 := by omega
          have h3' : 1 ≤ d := by omega
          have h4' : d ≤ 6 := by omega
          rw [hm, if_pos rfl]
          clear hm
          go_enter Try.func71, Try.ntmps71
          go_wp2
          go_ret
          exact ⟨rfl, rfl⟩
theorem worst_snoc (l : List Int) (k : Nat) (hk : k < l.length) : worstS (l.take (k + 1)) = max (worstS (l.take k)) l[k] := by
  unfold worstS; rw [List.take_succ_eq_append_getElem hk, List.foldl_append]; rfl
theorem max_if (a b : Int) : max a b = if a < b then b else a := by split <;> omega
theorem min_if (a b : Int) : min a b = if b < a then b else a := by split <;> omega
theorem sum_snoc (l : List Int) (k : Nat) (hk : k < l.length) : sumS (l.take (k + 1)) = sumS (l.take k) + min l[k] 1048576 := by
  unfold sumS; rw [List.take_succ_eq_append_getElem hk, List.foldl_append]; rfl
end Go.Proofs.Ytcbadcbnknmdnaa
