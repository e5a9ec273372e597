/-
  The walk of DiceNumbers.
-/
import Derived.Test.YtmghhigepjeicaaDiceText
import Derived.Test.YtmghhigepjeicaaNums
namespace Go.Proofs.Ytmghhigepjeicaa
open Go.RowKit
set_option linter.unusedVariables false

set_option maxRecDepth 100000 in
set_option maxHeartbeats 2000000 in
theorem diceNumbers_walk (s0 : Nat) (hs0 : s0 < 18446744073709551616) (w : World) (a : Option Addr) (len cap : Nat) (ns : List Int) (h : NumArg .i64 w a len cap ns) :
    Calls Try.prog 3 #[.int .u64 s0, .slice a len cap] w fun e w' => e = .returned (.bool true) ∧ Below w.heap.size w w' := by
  obtain ⟨rfl, hl, hlc, hcm, hr, hn0, hwf⟩ := h
  unfold maxLen at hl hcm
  have HR := Lib.hid hr
  have HF := Lib.hid hwf
  clear hr hwf
  go_enter Try.func3, Try.ntmps3
  go_wp2_with fail
  refine (awake5_any w).mono ?_
  rintro r w1 ⟨rfl, hb1⟩
  have HB1 := Lib.hid hb1
  clear hb1
  go_wp2_with fail
  refine (new_any s0 w1 hs0).mono ?_
  rintro r w2 ⟨rfl, hd, hb2⟩
  have HD := Lib.hid (show DiceAt w2 w1.heap.size s0 ∧ Below w.heap.size w w2 ∧ w.heap.size ≤ w1.heap.size from ⟨hd, HB1.out.trans (hb2.mono HB1.out.size), HB1.out.size⟩)
  clear hd hb2 HB1
  generalize w1.heap.size = D at HD ⊢
  go_wp2
  go_loopw [6, 7] (fun sv i wr => ∃ k s : Nat, k ≤ ns.length ∧ sv = .int .u64 s ∧ i = .int .i64 k ∧ Hid (DiceAt wr D s ∧ Below w.heap.size w wr ∧ w.heap.size ≤ D)) (fun _ i _ => ns.length - (intOf i).toNat)
  case atStart => exact ⟨0, s0, by omega, rfl, rfl, HD⟩
  case round =>
    obtain ⟨k, s, hk, rfl, rfl, H⟩ := hrel
    by_cases hlt : k < ns.length ∧ k < 100
    · obtain ⟨hlt1, hlt2⟩ := hlt
      obtain ⟨rb, off, rfl, hcell⟩ := HR.out (by omega)
      have hc : w.cell? ⟨rb, off + k, none⟩ = some (.int .i64 ns[k]) := hcell k hlt1
      have hrb := block_lt_of_cell hc
      have hcr : wr.cell? ⟨rb, off + k, none⟩ = some (.int .i64 ns[k]) := (H.out.2.1.cell (p := ⟨rb, off + k, none⟩) hrb).trans hc
      obtain ⟨hn1, hn2⟩ := wf_i64 (HF.out ns[k] (List.getElem_mem hlt1))
      clear hcell
      generalize ns[k] = n at hc hcr hn1 hn2
      by_cases hm : k % 3 = 2
      · have hmb : ((k : Int).tmod 3 == 2) = true := by
          have : (k : Int).tmod 3 = ((k % 3 : Nat) : Int) := rfl
          rw [this, hm]; rfl
        as_aux_lemma =>
          go_wp2_with fail
          obtain ⟨hA, hb, h1⟩ := H.out
          refine (next_any D s wr hA).mono ?_
          rintro r x1 ⟨rfl, hto⟩
          have HD1 := Lib.hid (show DiceAt x1 D (goOn s) ∧ Below w.heap.size w x1 ∧ w.heap.size ≤ D from ⟨hto.1, hb.trans (hto.2.below hb.size (by rintro j hj rfl; omega)), h1⟩)
          have HS := Lib.hid hA.2.2
          clear hA hb h1 hto
          go_wp2_with fail
          refine (refNext_any s x1 HS.out).mono ?_
          rintro r x2 ⟨rfl, rfl⟩
          generalize goOn s = t at HD1 ⊢
          generalize mixN t = y at *
          go_wp2_with fail
          refine (state_any D t x1 HD1.out.1).mono ?_
          rintro r x2 ⟨rfl, rfl⟩
          go_wp2_with fail
          refine (diceText_any D t x1 HD1.out.1).mono ?_
          rintro r x3 ⟨rfl, hb3⟩
          have HD3 := Lib.hid (show DiceAt x3 D t ∧ Below w.heap.size w x3 ∧ w.heap.size ≤ D from ⟨HD1.out.1.below hb3, HD1.out.2.1.trans (hb3.mono HD1.out.2.1.size), HD1.out.2.2⟩)
          clear hb3
          go_wp2_with fail
          refine (refNum_any t x3 HD1.out.1.2.2).mono ?_
          rintro r x4 ⟨rfl, hb4⟩
          have HD4 := Lib.hid (show DiceAt x4 D t ∧ Below w.heap.size w x4 ∧ w.heap.size ≤ D from ⟨HD3.out.1.below hb4, HD3.out.2.1.trans (hb4.mono HD3.out.2.1.size), HD3.out.2.2⟩)
          clear hb4 HD1 HD3
          generalize bs (numB t) = S
          go_wp2
          go_roundw
          case rel => exact ⟨k + 1, t, by omega, rfl, by go_num, HD4⟩
          case measure => simp [intOf]; omega
      · have hmb : ((k : Int).tmod 3 == 2) = false := by
          have e : (k : Int).tmod 3 = ((k % 3 : Nat) : Int) := rfl
          rw [e]; simp; omega
        by_cases hn : n < 1
        · as_aux_lemma =>
            go_wp2_with fail
            refine (below_none D s n wr hn H.out.1).mono ?_
            rintro r x1 ⟨rfl, rfl⟩
            go_wp2_with fail
            refine (refBelow_none s n wr hn).mono ?_
            rintro r x2 ⟨rfl, rfl⟩
            have HD1 := H
            generalize s = t at *
            generalize wr = x1 at *
            go_wp2_with fail
            refine (state_any D t x1 HD1.out.1).mono ?_
            rintro r x2 ⟨rfl, rfl⟩
            go_wp2_with fail
            refine (diceText_any D t x1 HD1.out.1).mono ?_
            rintro r x3 ⟨rfl, hb3⟩
            have HD3 := Lib.hid (show DiceAt x3 D t ∧ Below w.heap.size w x3 ∧ w.heap.size ≤ D from ⟨HD1.out.1.below hb3, HD1.out.2.1.trans (hb3.mono HD1.out.2.1.size), HD1.out.2.2⟩)
            clear hb3
            go_wp2_with fail
            refine (refNum_any t x3 HD1.out.1.2.2).mono ?_
            rintro r x4 ⟨rfl, hb4⟩
            have HD4 := Lib.hid (show DiceAt x4 D t ∧ Below w.heap.size w x4 ∧ w.heap.size ≤ D from ⟨HD3.out.1.below hb4, HD3.out.2.1.trans (hb4.mono HD3.out.2.1.size), HD3.out.2.2⟩)
            clear hb4 HD1 HD3
            generalize bs (numB t) = S
            go_wp2
            go_roundw
            case rel => exact ⟨k + 1, t, by omega, rfl, by go_num, HD4⟩
            case measure => simp [intOf]; omega
        · obtain ⟨m, rfl⟩ := Int.eq_ofNat_of_zero_le (show 0 ≤ n by omega)
          have HN1 := Lib.hid (below_some D s m wr (by omega) (by omega) H.out.1)
          have HN2 := Lib.hid (fun x => refBelow_some s m x H.out.1.2.2 (by omega) (by omega))
          have HV := Lib.hid (highN_lt (mixN_lt (goOn s)) (show 0 < m by omega))
          generalize highN (mixN (goOn s)) m = y at HN1 HN2 HV
          generalize goOn s = t at HN1 HN2
          have hv := HV.out
          have HL := Lib.hid H.out.2
          clear HV
          as_aux_lemma =>
            go_wp2_with fail
            refine HN1.out.mono ?_
            rintro r x1 ⟨rfl, hto⟩
            have HD1 := Lib.hid (show DiceAt x1 D t ∧ Below w.heap.size w x1 ∧ w.heap.size ≤ D from ⟨hto.1, HL.out.1.trans (hto.2.below HL.out.1.size (by rintro j hj rfl; have := HL.out.2; omega)), HL.out.2⟩)
            have hc1 : x1.cell? ⟨rb, off + k, none⟩ = some (.int .i64 (m : Int)) := (HD1.out.2.1.cell (p := ⟨rb, off + k, none⟩) hrb).trans hc
            clear hto hcr HN1
            go_wp2_with fail
            refine (HN2.out x1).mono ?_
            rintro r x2 ⟨rfl, hb2⟩
            have HD2 := Lib.hid (show DiceAt x2 D t ∧ Below w.heap.size w x2 ∧ w.heap.size ≤ D from ⟨HD1.out.1.below hb2, HD1.out.2.1.trans (hb2.mono HD1.out.2.1.size), HD1.out.2.2⟩)
            have hc2 : x2.cell? ⟨rb, off + k, none⟩ = some (.int .i64 (m : Int)) := (HD2.out.2.1.cell (p := ⟨rb, off + k, none⟩) hrb).trans hc
            clear hb2 hc1 HD1 HN2
            go_wp2_with fail
            refine (state_any D t x2 HD2.out.1).mono ?_
            rintro r x2b ⟨rfl, rfl⟩
            go_wp2_with fail
            refine (diceText_any D t x2 HD2.out.1).mono ?_
            rintro r x3 ⟨rfl, hb3⟩
            have HD3 := Lib.hid (show DiceAt x3 D t ∧ Below w.heap.size w x3 ∧ w.heap.size ≤ D from ⟨HD2.out.1.below hb3, HD2.out.2.1.trans (hb3.mono HD2.out.2.1.size), HD2.out.2.2⟩)
            clear hb3
            go_wp2_with fail
            refine (refNum_any t x3 HD2.out.1.2.2).mono ?_
            rintro r x4 ⟨rfl, hb4⟩
            have HD4 := Lib.hid (show DiceAt x4 D t ∧ Below w.heap.size w x4 ∧ w.heap.size ≤ D from ⟨HD3.out.1.below hb4, HD3.out.2.1.trans (hb4.mono HD3.out.2.1.size), HD3.out.2.2⟩)
            clear hb4 HD2 HD3
            generalize bs (numB t) = S
            go_wp2
            go_roundw
            case rel => exact ⟨k + 1, t, by omega, rfl, by go_num, HD4⟩
            case measure => simp [intOf]; omega
    · go_wp2
      all_goals
        go_ret
        exact ⟨rfl, H.out.2.1⟩
end Go.Proofs.Ytmghhigepjeicaa
