/-
  The walk of the law VerifyHosts.
-/
import Derived.Test.YtmonbjlkkhpinaaDoorAwake4
import Derived.Test.YtmonbjlkkhpinaaDoorRefText
namespace Go.Proofs.YtmonbjlkkhpinaaDoor
open Go.RowKit
set_option linter.unusedVariables false

theorem text_none : textB [] = [0] := by decide +kernel
theorem refText_none (w : World) : Calls Tryd.prog 15 #[.slice none 0 0] w fun e w' => e = .returned (.string (bs [0])) ∧ Below w.heap.size w w' := by
  have := refText_any none 0 [] w ⟨by decide, by simp⟩ (fun h => by simp at h)
  rw [text_none] at this
  exact this
set_option maxHeartbeats 2000000 in
theorem verifyHosts_walk (n fn : Int) (w : World) (h1 : -9223372036854775808 ≤ n) (h2 : n ≤ 9223372036854775807) (hH : HostsAt w) :
    Calls Tryd.prog 9 #[.int .i64 n, .int .i64 fn] w fun e w' => e = .returned (.bool true) ∧ Below w.heap.size w w' := by
  have HH := Lib.hid hH
  have HAW := Lib.hid (awake4_any w hH)
  have hz : (bs [0]).size = 1 := rfl
  clear hH
  have key : (fn = 0 ∧ entryN fn = 1) ∨ ((fn == 0) = false ∧ entryN fn = 4) := by
    by_cases h : fn = 0
    · exact .inl ⟨h, if_pos h⟩
    · exact .inr ⟨by simpa using h, if_neg h⟩
  rcases key with ⟨rfl, he⟩ | ⟨hb, he⟩
  all_goals
    have HE := Lib.hid he
    clear he
    go_enter Tryd.func9, Tryd.ntmps9
    go_wp2_with fail
    refine HAW.out.mono ?_
    rintro e w1 ⟨rfl, hb1⟩
    have HB1 := Lib.hid hb1
    have HH1 := Lib.hid (HH.out.below hb1)
    clear hb1
    go_wp2_with fail
    refine (hostArgs_any n w1 HH1.out h1 h2).mono ?_
    rintro e w' ⟨rfl, rfl⟩
    go_wp2_with fail
    refine (refHostArgs_any n w1).mono ?_
    rintro e w' ⟨rfl, rfl⟩
    have hnn : (hostA n == hostA n) = true := by simp
    generalize hostA n = ha at hnn
    go_wp2_with fail
    refine (entry_any _ w1).mono ?_
    rintro e w' ⟨rfl, rfl⟩
    rw [HE.out]
    go_wp2_with fail
    refine (refText_none w1).mono ?_
    rintro e w2 ⟨rfl, hb2⟩
    have HB2 := Lib.hid (HB1.out.trans (hb2.mono HB1.out.size))
    clear hb2
    go_wp2
    go_ret
    exact ⟨rfl, HB2.out⟩
end Go.Proofs.YtmonbjlkkhpinaaDoor
