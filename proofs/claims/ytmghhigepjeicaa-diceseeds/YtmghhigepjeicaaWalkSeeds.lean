/-
  The walk of DiceSeeds.
-/
import Derived.Test.YtmghhigepjeicaaDiceMore
import Derived.Test.YtmghhigepjeicaaNums
namespace Go.Proofs.Ytmghhigepjeicaa
open Go.RowKit
set_option linter.unusedVariables false

theorem row_none (k : IntKind) (w : World) : IntRow k w none [] := fun h => by simp at h
theorem diceSeeds_tail (w : World) (a : Option Addr) (l : List Nat) (cap n : Nat) (hn : l.length ≤ 20) (hr : IntRow .u64 w a (l.map Int.ofNat)) (hb : ∀ n ∈ l, n < 18446744073709551616) :
    (∀ w1, Below w.heap.size w w1 → Calls Try.prog 21 #[.slice a l.length cap] w1 fun r w' => r = .returned (.int .u64 (seedN l : Nat)) ∧ Below w1.heap.size w1 w') ∧
    (∀ w1, Below w.heap.size w w1 → Calls Try.prog 22 #[.slice a l.length cap] w1 fun r w' => r = .returned (.int .u64 (seedN l : Nat)) ∧ w1 = w') :=
  ⟨fun w1 h1 => seed_any a cap l w1 (by unfold maxLen; omega) (hr.below h1) hb, fun w1 h1 => refSeed_any a cap l w1 (by unfold maxLen; omega) (hr.below h1) hb⟩
theorem seed_none (w : World) : Calls Try.prog 21 #[.slice none 0 0] w fun r w' => r = .returned (.int .u64 (0 : Nat)) ∧ Below w.heap.size w w' :=
  seed_any none 0 [] w (by simp [maxLen]) (row_none _ _) (by simp)
set_option maxHeartbeats 1000000 in
theorem diceSeeds_walk (w : World) (a : Option Addr) (len cap : Nat) (ns : List Int) (h : NumArg .u64 w a len cap ns) :
    Calls Try.prog 5 #[.slice a len cap] w fun e w' => e = .returned (.bool true) ∧ Below w.heap.size w w' := by
  obtain ⟨hlen, hl, hlc, hcm, hr, hn0, hwf⟩ := h
  obtain ⟨l, rfl, hb⟩ := nats_of (fun n hn => wf_u64 (hwf n hn))
  have hlen' : len = l.length := by simpa using hlen
  clear hlen
  subst hlen'
  unfold maxLen at hl hcm
  by_cases h20 : l.length ≤ 20
  · have HT := Lib.hid (diceSeeds_tail w a l cap 0 h20 hr hb)
    clear hr hb hwf
    go_enter Try.func5, Try.ntmps5
    go_wp2_with fail
    refine (awake5_any w).mono ?_
    rintro r w1 ⟨rfl, hb1⟩
    have HB1 := Lib.hid hb1
    clear hb1
    generalize seedN l = s at *
    go_wp2_with fail
    refine (HT.out.1 w1 HB1.out).mono ?_
    rintro r w2 ⟨rfl, hb2⟩
    have HB2 := Lib.hid (HB1.out.trans (hb2.mono HB1.out.size))
    clear hb2
    go_wp2_with fail
    refine (HT.out.2 w2 HB2.out).mono ?_
    rintro r w3 ⟨rfl, rfl⟩
    go_wp2_with fail
    refine (seed_none w2).mono ?_
    rintro r w3 ⟨rfl, hb3⟩
    have HB3 := Lib.hid (HB2.out.trans (hb3.mono HB2.out.size))
    clear hb3
    go_wp2
    go_ret
    exact ⟨rfl, HB3.out⟩
  · have hr' : IntRow .u64 w a ((l.take 20).map Int.ofNat) := by rw [List.map_take]; exact hr.take 20
    have hb' : ∀ n ∈ l.take 20, n < 18446744073709551616 := fun n hn => hb n (List.mem_of_mem_take hn)
    have hl20 : (l.take 20).length = 20 := by simp; omega
    obtain ⟨b, off, rfl, -⟩ := hr.lt (by simp; omega)
    have HT := Lib.hid (diceSeeds_tail w _ (l.take 20) cap 0 (by omega) hr' hb')
    rw [hl20] at HT
    clear hr hb hwf hr' hb' hl20
    go_enter Try.func5, Try.ntmps5
    go_wp2_with fail
    refine (awake5_any w).mono ?_
    rintro r w1 ⟨rfl, hb1⟩
    have HB1 := Lib.hid hb1
    clear hb1
    generalize seedN (l.take 20) = s at *
    go_wp2_with fail
    refine (HT.out.1 w1 HB1.out).mono ?_
    rintro r w2 ⟨rfl, hb2⟩
    have HB2 := Lib.hid (HB1.out.trans (hb2.mono HB1.out.size))
    clear hb2
    go_wp2_with fail
    refine (HT.out.2 w2 HB2.out).mono ?_
    rintro r w3 ⟨rfl, rfl⟩
    go_wp2_with fail
    refine (seed_none w2).mono ?_
    rintro r w3 ⟨rfl, hb3⟩
    have HB3 := Lib.hid (HB2.out.trans (hb3.mono HB2.out.size))
    clear hb3
    go_wp2
    go_ret
    exact ⟨rfl, HB3.out⟩
end Go.Proofs.Ytmghhigepjeicaa
