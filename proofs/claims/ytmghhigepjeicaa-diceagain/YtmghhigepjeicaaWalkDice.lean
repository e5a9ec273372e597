/-
  The walks of the laws of layer 5.
-/
import Derived.Test.YtmghhigepjeicaaDiceMore
import Derived.Test.YtmghhigepjeicaaNums
namespace Go.Proofs.Ytmghhigepjeicaa
open Go.RowKit
set_option linter.unusedVariables false

/-- Three dice: two of one state. -/
def TwoAt (w : World) (A B C : Nat) (wr : World) (s : Nat) : Prop := DiceAt wr A s ∧ DiceAt wr B s ∧ (∃ c, DiceAt wr C c) ∧ Below w.heap.size w wr ∧ w.heap.size ≤ A ∧ A < B ∧ B < C
set_option maxHeartbeats 1000000 in
theorem diceTwo_walk (s0 : Nat) (a1 a2 : Int) (hs0 : s0 < 18446744073709551616) (w : World) :
    Calls Try.prog 6 #[.int .u64 s0, .int .i64 a1, .int .i64 a2] w fun e w' => e = .returned (.bool true) ∧ Below w.heap.size w w' := by
  obtain ⟨m, hm, hM⟩ := and65535 a1
  obtain ⟨n, hn, hN⟩ := and31 a2
  have HS := Lib.hid (show IntKind.u64.wrap ((s0 : Int) + 1) = (((s0 + 1) % 18446744073709551616 : Nat) : Int) from w64 (s0 + 1))
  have HS1 := Lib.hid (show (s0 + 1) % 18446744073709551616 < 18446744073709551616 from Nat.mod_lt _ (by decide))
  generalize (s0 + 1) % 18446744073709551616 = s1 at HS HS1
  go_enter Try.func6, Try.ntmps6
  go_wp2_with fail
  refine (awake5_any w).mono ?_
  rintro r w1 ⟨rfl, hb1⟩
  have HB1 := Lib.hid hb1
  clear hb1
  go_wp2_with fail
  refine (new_any s0 w1 hs0).mono ?_
  rintro r w2 ⟨rfl, hd2, hb2⟩
  have HD2 := Lib.hid hd2
  have HB2 := Lib.hid hb2
  clear hd2 hb2
  go_wp2_with fail
  refine (new_any s0 w2 hs0).mono ?_
  rintro r w3 ⟨rfl, hd3, hb3⟩
  have HD3 := Lib.hid hd3
  have HB3 := Lib.hid hb3
  clear hd3 hb3
  go_wp2_with fail
  rw [HS.out]
  refine (new_any s1 w3 HS1.out).mono ?_
  rintro r w4 ⟨rfl, hd4, hb4⟩
  have HT := Lib.hid (show TwoAt w w1.heap.size w2.heap.size w3.heap.size w4 s0 from
    ⟨(HD2.out.below HB3.out).below hb4, HD3.out.below hb4, ⟨s1, hd4⟩, ((HB1.out.trans (HB2.out.mono HB1.out.size)).trans (HB3.out.mono (by have := HB1.out.size; have := HD2.out.lt; omega))).trans (hb4.mono (by have := HB1.out.size; have := HD2.out.lt; have := HD3.out.lt; omega)), HB1.out.size, HD2.out.lt, HD3.out.lt⟩)
  clear hd4 hb4 HB1 HB2 HB3 HD2 HD3 HS HS1
  generalize w1.heap.size = A at HT ⊢
  generalize w2.heap.size = B at HT ⊢
  generalize w3.heap.size = C at HT ⊢
  go_wp2
  go_loopw [26] (fun i wr => ∃ k s : Nat, k ≤ n ∧ i = .int .i64 k ∧ Hid (TwoAt w A B C wr s)) (fun i _ => n - (intOf i).toNat)
  case atStart => exact ⟨0, s0, by omega, rfl, HT⟩
  case round =>
    obtain ⟨k, s, hk, rfl, H⟩ := hrel
    by_cases hlt : k < n
    · go_wp2_with fail
      obtain ⟨hA, hB, ⟨c, hC⟩, hb, h1, h2, h3⟩ := H.out
      refine (next_any C c wr hC).mono ?_
      rintro r x1 ⟨rfl, hto⟩
      have H1 := Lib.hid (show TwoAt w A B C x1 s from ⟨hA.touch hto.2 (by omega), hB.touch hto.2 (by omega), ⟨_, hto.1⟩, hb.trans (hto.2.below hb.size (by rintro j hj rfl; omega)), h1, h2, h3⟩)
      clear hA hB hC hb h1 h2 h3 hto H
      go_wp2_with fail
      obtain ⟨hA, hB, ⟨c', hC⟩, hb, h1, h2, h3⟩ := H1.out
      refine (below_at A s (m + 1) _ (by omega) x1 (by omega) (by omega) hA).mono ?_
      rintro r x2 ⟨rfl, hto⟩
      have H2 := Lib.hid (show DiceAt x2 A (goOn s) ∧ DiceAt x2 B s ∧ DiceAt x2 C c' ∧ Below w.heap.size w x2 ∧ w.heap.size ≤ A ∧ A < B ∧ B < C from ⟨hto.1, hB.touch hto.2 (by omega), hC.touch hto.2 (by omega), hb.trans (hto.2.below hb.size (by rintro j hj rfl; omega)), h1, h2, h3⟩)
      clear hA hB hC hb h1 h2 h3 hto H1
      go_wp2_with fail
      obtain ⟨hA, hB, hC, hb, h1, h2, h3⟩ := H2.out
      refine (below_at B s (2 * (m + 1)) _ (by omega) x2 (by omega) (by omega) hB).mono ?_
      rintro r x3 ⟨rfl, hto⟩
      have H3 := Lib.hid (show TwoAt w A B C x3 (goOn s) from ⟨hA.touch hto.2 (by omega), hto.1, ⟨c', hC.touch hto.2 (by omega)⟩, hb.trans (hto.2.below hb.size (by rintro j hj rfl; omega)), h1, h2, h3⟩)
      clear hA hB hC hb h1 h2 h3 hto H2
      have hh := highN_half (mixN (goOn s)) (m + 1)
      have hl := highN_lt (mixN_lt (goOn s)) (show 0 < 2 * (m + 1) by omega)
      generalize highN (mixN (goOn s)) (2 * (m + 1)) = q at hh hl ⊢
      generalize highN (mixN (goOn s)) (m + 1) = p at hh ⊢
      have hne : ((p : Int) != (q : Int) / 2) = false := by simp; omega
      have HH := Lib.hid hh
      clear hh
      go_wp2_with fail
      refine (state_any A (goOn s) x3 H3.out.1).mono ?_
      rintro r x4 ⟨rfl, rfl⟩
      go_wp2_with fail
      refine (state_any B (goOn s) x3 H3.out.2.1).mono ?_
      rintro r x4 ⟨rfl, rfl⟩
      generalize goOn s = t at H3 ⊢
      go_wp2
      go_roundw
      case rel => exact ⟨k + 1, t, by omega, by go_num, H3⟩
      case measure => simp [intOf]; omega
    · go_wp2_with fail
      obtain ⟨hA, hB, ⟨c, hC⟩, hb, h1, h2, h3⟩ := H.out
      refine (next_any A s wr hA).mono ?_
      rintro r x1 ⟨rfl, hto⟩
      have H1 := Lib.hid (show DiceAt x1 B s ∧ Below w.heap.size w x1 from ⟨hB.touch hto.2 (by omega), hb.trans (hto.2.below hb.size (by rintro j hj rfl; omega))⟩)
      have hAB := Lib.hid (show w.heap.size ≤ B by omega)
      clear hA hB hC hb h1 h2 h3 hto H
      go_wp2_with fail
      refine (next_any B s x1 H1.out.1).mono ?_
      rintro r x2 ⟨rfl, hto⟩
      have H2 := Lib.hid (H1.out.2.trans (hto.2.below H1.out.2.size (by rintro j hj rfl; have := hAB.out; omega)))
      clear hto
      generalize mixN (goOn s) = t at *
      go_wp2
      go_ret
      exact ⟨rfl, H2.out⟩
/-- Two dice of one state. -/
def PairAt (w : World) (A B : Nat) (wr : World) (s : Nat) : Prop := DiceAt wr A s ∧ DiceAt wr B s ∧ Below w.heap.size w wr ∧ w.heap.size ≤ A ∧ A < B
set_option maxHeartbeats 1000000 in
theorem diceAgain_walk (s0 : Nat) (a1 a2 : Int) (hs0 : s0 < 18446744073709551616) (w : World) :
    Calls Try.prog 4 #[.int .u64 s0, .int .i64 a1, .int .i64 a2] w fun e w' => e = .returned (.bool true) ∧ Below w.heap.size w w' := by
  obtain ⟨m, hm, hM⟩ := and31 a1
  obtain ⟨n, hn, hN⟩ := and31 a2
  go_enter Try.func4, Try.ntmps4
  go_wp2_with fail
  refine (awake5_any w).mono ?_
  rintro r w1 ⟨rfl, hb1⟩
  have HB1 := Lib.hid hb1
  clear hb1
  go_wp2_with fail
  refine (new_any s0 w1 hs0).mono ?_
  rintro r w2 ⟨rfl, hd2, hb2⟩
  have HT := Lib.hid (show DiceAt w2 w1.heap.size s0 ∧ Below w.heap.size w w2 ∧ w.heap.size ≤ w1.heap.size from ⟨hd2, HB1.out.trans (hb2.mono HB1.out.size), HB1.out.size⟩)
  clear hd2 hb2 HB1
  generalize w1.heap.size = A at HT ⊢
  go_wp2
  go_loopw [15] (fun i wr => ∃ k s : Nat, k ≤ m ∧ i = .int .i64 k ∧ Hid (DiceAt wr A s ∧ Below w.heap.size w wr ∧ w.heap.size ≤ A)) (fun i _ => m - (intOf i).toNat)
  case atStart => exact ⟨0, s0, by omega, rfl, HT⟩
  case round =>
    obtain ⟨k, s, hk, rfl, H⟩ := hrel
    by_cases hlt : k < m
    · go_wp2_with fail
      obtain ⟨hA, hb, h1⟩ := H.out
      refine (next_any A s wr hA).mono ?_
      rintro r x1 ⟨rfl, hto⟩
      have H1 := Lib.hid (show DiceAt x1 A (goOn s) ∧ Below w.heap.size w x1 ∧ w.heap.size ≤ A from ⟨hto.1, hb.trans (hto.2.below hb.size (by rintro j hj rfl; omega)), h1⟩)
      clear hA hb h1 hto H
      generalize goOn s = t at H1 ⊢
      go_wp2
      go_roundw
      case rel => exact ⟨k + 1, t, by omega, by go_num, H1⟩
      case measure => simp [intOf]; omega
    · go_wp2_with fail
      refine (state_any A s wr H.out.1).mono ?_
      rintro r x1 ⟨rfl, rfl⟩
      go_wp2_with fail
      refine (new_any s wr H.out.1.2.2).mono ?_
      rintro r x2 ⟨rfl, hd, hb⟩
      have HT2 := Lib.hid (show PairAt w A wr.heap.size x2 s from ⟨H.out.1.below hb, hd, H.out.2.1.trans (hb.mono H.out.2.1.size), H.out.2.2, H.out.1.lt⟩)
      clear hd hb H HT
      generalize wr.heap.size = B at HT2 ⊢
      go_wp2
      go_loopw [25] (fun i wr => ∃ k s : Nat, k ≤ n ∧ i = .int .i64 k ∧ Hid (PairAt w A B wr s)) (fun i _ => n - (intOf i).toNat)
      case atStart => exact ⟨0, s, by omega, rfl, HT2⟩
      case round =>
        obtain ⟨j, u, hj, rfl, H⟩ := hrel
        by_cases hlj : j < n
        · go_wp2_with fail
          obtain ⟨hA, hB, hb, h1, h2⟩ := H.out
          refine (next_any A u _ hA).mono ?_
          rintro r x1 ⟨rfl, hto⟩
          have H1 := Lib.hid (show DiceAt x1 A (goOn u) ∧ DiceAt x1 B u ∧ Below w.heap.size w x1 ∧ w.heap.size ≤ A ∧ A < B from ⟨hto.1, hB.touch hto.2 (by omega), hb.trans (hto.2.below hb.size (by rintro j hj rfl; omega)), h1, h2⟩)
          clear hA hB hb h1 h2 hto H
          go_wp2_with fail
          obtain ⟨hA, hB, hb, h1, h2⟩ := H1.out
          refine (next_any B u _ hB).mono ?_
          rintro r x2 ⟨rfl, hto⟩
          have H2 := Lib.hid (show PairAt w A B x2 (goOn u) from ⟨hA.touch hto.2 (by omega), hto.1, hb.trans (hto.2.below hb.size (by rintro j hj rfl; omega)), h1, h2⟩)
          clear hA hB hb h1 h2 hto H1
          generalize goOn u = t at H2 ⊢
          generalize mixN t = v at *
          go_wp2_with fail
          refine (state_any A t x2 H2.out.1).mono ?_
          rintro r x4 ⟨rfl, rfl⟩
          go_wp2_with fail
          refine (state_any B t x2 H2.out.2.1).mono ?_
          rintro r x4 ⟨rfl, rfl⟩
          go_wp2
          go_roundw
          case rel => exact ⟨j + 1, t, by omega, by go_num, H2⟩
          case measure => simp [intOf]; omega
        · go_wp2_with fail
          obtain ⟨hA, hB, hb, h1, h2⟩ := H.out
          refine (below_at A u 100 _ (by omega) _ (by omega) (by omega) hA).mono ?_
          rintro r x1 ⟨rfl, hto⟩
          have H1 := Lib.hid (show DiceAt x1 B u ∧ Below w.heap.size w x1 ∧ w.heap.size ≤ B from ⟨hB.touch hto.2 (by omega), hb.trans (hto.2.below hb.size (by rintro j hj rfl; omega)), by omega⟩)
          clear hA hB hb h1 h2 hto H
          go_wp2_with fail
          refine (below_at B u 100 _ (by omega) _ (by omega) (by omega) H1.out.1).mono ?_
          rintro r x2 ⟨rfl, hto⟩
          have H2 := Lib.hid (H1.out.2.1.trans (hto.2.below H1.out.2.1.size (by rintro j hj rfl; have := H1.out.2.2; omega)))
          clear hto
          generalize highN (mixN (goOn u)) 100 = t at *
          go_wp2
          go_ret
          exact ⟨rfl, H2.out⟩
end Go.Proofs.Ytmghhigepjeicaa
