/-
  The walk of the law CodeOps.
-/
import Derived.Test.YtmonbjlkkhpinaaDoorAwake3
namespace Go.Proofs.YtmonbjlkkhpinaaDoor
open Go.RowKit
set_option linter.unusedVariables false

theorem words_apart : ∀ o < 23, ∀ p < 23, 1 ≤ o → 1 ≤ p → (opWords.getD o [] == opWords.getD p []) = (o == p) := by decide +kernel
theorem words_real : ∀ o < 23, 1 ≤ o → (opWords.getD o [] == [63]) = false := by decide +kernel
theorem word_real (o : Nat) (h1 : 1 ≤ o) (h2 : o ≤ 22) : ((bs (opWord o)).toList == [63]) = false := by
  rw [ByteArray.toList_eq, bs_list, opWord, if_pos ⟨h1, h2⟩]; exact words_real o (by omega) h1
theorem word_none (o : Nat) (h : ¬ (1 ≤ o ∧ o ≤ 22)) : (bs (opWord o)).toList = [63] := by
  rw [ByteArray.toList_eq, bs_list, opWord, if_neg h]
theorem word_apart (o p : Nat) (h1 : 1 ≤ o) (h2 : o ≤ 22) (h3 : 1 ≤ p) (h4 : p ≤ 22) (hne : o ≠ p) : ((bs (opWord o)).toList == (bs (opWord p)).toList) = false := by
  rw [ByteArray.toList_eq, ByteArray.toList_eq, bs_list, bs_list, opWord, opWord, if_pos ⟨h1, h2⟩, if_pos ⟨h3, h4⟩, words_apart o (by omega) p (by omega) h1 h3]
  simpa using hne
/-- The law's end: what Of makes. -/
theorem ofArg_one (o : Nat) (n : Int) : (ofArg o [n] = n) ∨ (hasA o = false ∧ ofArg o [n] = 0) := by
  cases h : hasA o
  · exact .inr ⟨rfl, by simp [ofArg, h]⟩
  · exact .inl (by simp [ofArg, h])
set_option maxHeartbeats 4000000 in
theorem codeOps_walk (o p : Nat) (n : Int) (w : World) (ho : o < 256) (hp : p < 256) (hN : NamesAt w) :
    Calls Tryd.prog 5 #[.int .u8 o, .int .u8 p, .int .i64 n] w fun e w' => e = .returned (.bool true) ∧ Below w.heap.size w w' := by
  have HN := Lib.hid hN
  clear hN
  have HA := Lib.hid (awake3_any w HN.out)
  have HOF := Lib.hid (ofArg_one o n)
  have HH0 := Lib.hid (hasArg_any o)
  have hnn : (hasA o != hasA o) = false := by simp
  have key : (¬ (1 ≤ o ∧ o ≤ 22)) ∨ (1 ≤ o ∧ o ≤ 22) := by omega
  rcases key with hno | ⟨h1, h2⟩
  · have hw := word_none o hno
    have hcase : o = 0 ∨ 22 < o := by omega
    clear hno
    have g1 : ((bs (opWord o)).toList == [63]) = true := by rw [hw]; rfl
    clear hw
    rcases hcase with rfl | h22
    all_goals
      go_enter Tryd.func5, Tryd.ntmps5
      go_wp2_with (first
        | (go_at_call 12; refine HA.out.mono ?_; rintro e w1 ⟨rfl, hb1⟩; have HB1 := Lib.hid hb1; have HN1 := Lib.hid (HN.out.below hb1); clear hb1)
        | (go_at_call 21; refine (name_any _ _ HN1.out).mono ?_; rintro e w' ⟨rfl, rfl⟩)
        | (go_at_call 22; refine (hasArg_any _ _).mono ?_; rintro e w' ⟨rfl, rfl⟩)
        | (go_at_call 23; refine (refHasArg_any _ _).mono ?_; rintro e w' ⟨rfl, rfl⟩)
        | fail)
      all_goals
        refine (of_lit _ n _ w1.heap.size (by simp)).mono ?_
        rintro e w2 ⟨rfl, hb2⟩
        have HB2 := Lib.hid (show Below w.heap.size w w2 from (HB1.out.alloc HB1.out.size _).trans (hb2.mono (by have := HB1.out.size; simp; omega)))
        clear hb2
        go_wp2_with fail
        refine (of_none _ _).mono ?_
        rintro e w3 ⟨rfl, hb3⟩
        have HB3 := Lib.hid (show Below w.heap.size w w3 from HB2.out.trans (hb3.mono HB2.out.size))
        have hz3 := HB3.out.size
        clear hb3 g1
        have hC := HOF.out
        rcases hC with hC | ⟨hC, hD⟩
        · rw [hC]
          clear hC hnn
          go_wp2
          go_ret
          exact ⟨rfl, (HB3.out.alloc hz3 _).alloc (by simp; omega) _⟩
        · rw [hD]
          have HH := HH0.out
          rw [hC] at HH
          have HH := Lib.hid HH
          clear hC hD hnn
          by_cases hn0 : n = 0
          · subst hn0
            go_wp2
            go_ret
            exact ⟨rfl, (HB3.out.alloc hz3 _).alloc (by simp; omega) _⟩
          · have hnb : ((0 : Int) == n) = false := by simp; omega
            clear hn0
            go_wp2_with (go_at_call 22; refine (HH.out _).mono ?_; rintro e w' ⟨rfl, rfl⟩)
            go_ret
            exact ⟨rfl, (HB3.out.alloc hz3 _).alloc (by simp; omega) _⟩
  · have g1 := word_real o h1 h2
    have hcase : p = 0 ∨ 22 < p ∨ (1 ≤ p ∧ p ≤ 22 ∧ (((bs (opWord o)).toList == (bs (opWord p)).toList) = true ∧ ((o : Int) == (p : Int)) = true ∨ ((bs (opWord o)).toList == (bs (opWord p)).toList) = false ∧ ((o : Int) == (p : Int)) = false)) := by
      by_cases ha : p = 0
      · exact .inl ha
      · by_cases hb : 22 < p
        · exact .inr (.inl hb)
        · refine .inr (.inr ⟨by omega, by omega, ?_⟩)
          by_cases hc : o = p
          · subst hc; exact .inl ⟨by simp, by simp⟩
          · exact .inr ⟨word_apart o p h1 h2 (by omega) (by omega) hc, by simp; omega⟩
    rcases hcase with rfl | hq | ⟨hq1, hq2, ⟨hq3, hq4⟩ | ⟨hq3, hq4⟩⟩
    all_goals
      go_enter Tryd.func5, Tryd.ntmps5
      go_wp2_with (first
        | (go_at_call 12; refine HA.out.mono ?_; rintro e w1 ⟨rfl, hb1⟩; have HB1 := Lib.hid hb1; have HN1 := Lib.hid (HN.out.below hb1); clear hb1)
        | (go_at_call 21; refine (name_any _ _ HN1.out).mono ?_; rintro e w' ⟨rfl, rfl⟩)
        | (go_at_call 22; refine (hasArg_any _ _).mono ?_; rintro e w' ⟨rfl, rfl⟩)
        | (go_at_call 23; refine (refHasArg_any _ _).mono ?_; rintro e w' ⟨rfl, rfl⟩)
        | fail)
      all_goals
        refine (of_lit _ n _ w1.heap.size (by simp)).mono ?_
        rintro e w2 ⟨rfl, hb2⟩
        have HB2 := Lib.hid (show Below w.heap.size w w2 from (HB1.out.alloc HB1.out.size _).trans (hb2.mono (by have := HB1.out.size; simp; omega)))
        clear hb2
        go_wp2_with fail
        refine (of_none _ _).mono ?_
        rintro e w3 ⟨rfl, hb3⟩
        have HB3 := Lib.hid (show Below w.heap.size w w3 from HB2.out.trans (hb3.mono HB2.out.size))
        have hz3 := HB3.out.size
        clear hb3 g1
        have hC := HOF.out
        rcases hC with hC | ⟨hC, hD⟩
        · rw [hC]
          clear hC hnn
          go_wp2
          go_ret
          exact ⟨rfl, (HB3.out.alloc hz3 _).alloc (by simp; omega) _⟩
        · rw [hD]
          have HH := HH0.out
          rw [hC] at HH
          have HH := Lib.hid HH
          clear hC hD hnn
          by_cases hn0 : n = 0
          · subst hn0
            go_wp2
            go_ret
            exact ⟨rfl, (HB3.out.alloc hz3 _).alloc (by simp; omega) _⟩
          · have hnb : ((0 : Int) == n) = false := by simp; omega
            clear hn0
            go_wp2_with (go_at_call 22; refine (HH.out _).mono ?_; rintro e w' ⟨rfl, rfl⟩)
            go_ret
            exact ⟨rfl, (HB3.out.alloc hz3 _).alloc (by simp; omega) _⟩
end Go.Proofs.YtmonbjlkkhpinaaDoor
