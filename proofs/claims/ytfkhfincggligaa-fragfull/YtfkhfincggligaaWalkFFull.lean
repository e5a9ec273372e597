/-
  The walk of the law FragFull.
-/
import Derived.Test.YtfkhfincggligaaFrag6
import Derived.Test.YtfkhfincggligaaOrdTidy
namespace Go.Proofs.Ytfkhfincggligaa
open Go.RowKit
set_option linter.unusedVariables false

set_option maxRecDepth 100000 in
set_option maxHeartbeats 2000000 in
theorem fragFull_walk (w : World) (n : Int) (more : Bool) :
    Calls Try.prog 7 #[.int .i64 n, .bool more] w fun e w' => e = .returned (.bool true) ∧ Below w.heap.size w w' := by
  have HAW := Lib.hid (fun W => awake12_any W)
  obtain ⟨q, hq, eq⟩ := andM n 255 255 rfl (by decide)
  have HMK := Lib.hid (fun u => zmade u 200 200 rfl (by decide))
  have HST := Lib.hid (fun u B h => zstr u B 200 h)
  have hzl := zerosN_len 200
  have hzs := bs_size (zerosN 200)
  rw [hzl] at hzs
  generalize hZ : zerosN 200 = Z at hzl hzs HST
  have HZ := Lib.hid hzl
  clear hZ hzl
  go_enter Try.func7, Try.ntmps7
  go_wp2_with fail
  refine (HAW.out _).mono ?_
  rintro r w1 ⟨rfl, hb1⟩
  have HB1 := Lib.hid (bel_alloc hb1 (.cells (madeCells #[.int .u8 0] 200) 5))
  have hmk := HMK.out w1
  have hst := HST.out w1 _ rfl
  clear hb1 HAW HMK HST
  go_wp2
  have HJ0 : Hid (JIn w (w1.heap.size + 1) ⟨0, []⟩ ((w1.alloc (.cells (madeCells #[.int .u8 0] 200) 5)).alloc (.cells #[.int .i64 0, .slice none 0 0] 32))) := Lib.hid (by
    have := JIn.start HB1.out
    rw [show (w1.alloc (.cells (madeCells #[.int .u8 0] 200) 5)).heap.size = w1.heap.size + 1 by simp] at this
    exact this)
  clear hmk hst HB1
  generalize (w1.alloc (.cells (madeCells #[.int .u8 0] 200) 5)).alloc (.cells #[.int .i64 0, .slice none 0 0] 32) = W1 at HJ0 ⊢
  generalize w1.heap.size + 1 = b at HJ0 ⊢
  go_loopw [22] (fun iv wr => ∃ k : Nat, k ≤ 327 ∧ iv = .int .i64 k ∧ ∃ L : List UInt8, Hid (L.length = 200 * k ∧ JIn w b ⟨k, L⟩ wr)) (fun iv _ => 327 - (intOf iv).toNat)
  case atStart => exact ⟨0, by omega, rfl, [], Lib.hid ⟨rfl, HJ0.out⟩⟩
  case round =>
    obtain ⟨k, hk, rfl, L, HL⟩ := hrel
    by_cases hlt : k < 327
    · have HPUT := Lib.hid (fun W h => joPut_in w b ⟨k, L⟩ ⟨false, Z⟩ W h (by simp only; omega) (by have := HL.out.1; simp only; omega) (by have := HZ.out; simp only; omega))
      rw [putJ_more ⟨k, L⟩ Z (by have := HZ.out; omega) (by have := HL.out.1; have := HZ.out; simp only; omega)] at HPUT
      unfold ptV at HPUT
      simp only at HPUT
      have hi : (k : Int) < 327 := by omega
      go_wp2_with fail
      refine (HPUT.out _ HL.out.2).mono ?_
      rintro r w2 ⟨rfl, hj⟩
      have HL2 : Hid ((L ++ Z).length = 200 * (k + 1) ∧ JIn w b ⟨k + 1, L ++ Z⟩ w2) := Lib.hid ⟨by have := HL.out.1; have := HZ.out; rw [List.length_append]; omega, hj⟩
      clear hj HPUT HL
      go_wp2
      go_roundw
      case rel => exact ⟨k + 1, by omega, by go_num, _, HL2⟩
      case measure => simp [intOf]; omega
    · obtain rfl : k = 327 := by omega
      have HLL := Lib.hid (show L.length = 65400 from HL.out.1)
      have HOP1 : Hid (∀ W, JIn w b ⟨327, L⟩ W → Calls Try.prog 20 #[.pointer (some ⟨b, 0, none⟩)] W fun r w' => r = .returned (.tuple #[.int .i64 327, .int .i64 65400]) ∧ JIn w b ⟨327, L⟩ w') := Lib.hid (fun W h => by
        have := joOpen_in w b ⟨327, L⟩ W h
        simp only [HLL.out] at this
        exact this)
      have hm : ((q : Int) % 201) = ((q % 201 : Nat) : Int) := by omega
      have hm2 : ((q : Int).tmod 201) = ((q % 201 : Nat) : Int) := by rw [Int.tmod_eq_emod_of_nonneg (by omega)]; omega
      have hml : q % 201 ≤ 200 := by omega
      generalize q % 201 = m at hm hm2 hml
      have s1 : (bs Z).extract 0 m = bs (Z.take m) := by rw [extract_take, bs_list]
      have HTL := Lib.hid (show (Z.take m).length = m by rw [List.length_take, HZ.out]; omega)
      generalize Z.take m = T at s1 HTL
      have hi1 : (0 : Int) ≤ (m : Int) := by omega
      have hi2 : (m : Int) ≤ 200 := by omega
      go_wp2_with fail
      refine (HOP1.out _ HL.out.2).mono ?_
      rintro r w2 ⟨rfl, hj2⟩
      have HJ2 := Lib.hid hj2
      clear hj2 HL hm hm2
      by_cases hbig : 136 < m
      · have hbi : (136 : Int) < (m : Int) := by omega
        have HPUT := Lib.hid (fun W h => joPut_in w b ⟨327, L⟩ ⟨!more, T⟩ W h (by simp only; omega) (by have := HLL.out; simp only; omega) (by have := HTL.out; simp only; omega))
        rw [putJ_big ⟨327, L⟩ ⟨!more, T⟩ (by have := HTL.out; have := HLL.out; simp only; omega)] at HPUT
        unfold ptV at HPUT
        simp only at HPUT
        cases more
        all_goals
          simp only [Bool.not_true, Bool.not_false] at HPUT
          go_wp2_with fail
          refine (HPUT.out _ HJ2.out).mono ?_
          rintro r w3 ⟨rfl, hj3⟩
          have HJ3 := Lib.hid hj3
          clear hj3 HPUT HJ2
          go_wp2_with fail
          refine (HOP1.out _ HJ3.out).mono ?_
          rintro r w4 ⟨rfl, hj4⟩
          have HB4 := Lib.hid hj4.bel
          clear hj4 HOP1
          go_wp2
          go_ret
          exact ⟨rfl, HB4.out⟩
      · have hbi : (m : Int) ≤ 136 := by omega
        cases more
        · have HPUT := Lib.hid (fun W h => joPut_in w b ⟨327, L⟩ ⟨true, T⟩ W h (by simp only; omega) (by have := HLL.out; simp only; omega) (by have := HTL.out; simp only; omega))
          rw [putJ_last ⟨327, L⟩ T (by have := HTL.out; omega) (by have := HTL.out; have := HLL.out; simp only; omega)] at HPUT
          unfold ptV at HPUT
          simp only at HPUT
          have HOP2 : Hid (∀ W, JIn w b ⟨0, []⟩ W → Calls Try.prog 20 #[.pointer (some ⟨b, 0, none⟩)] W fun r w' => r = .returned (.tuple #[.int .i64 0, .int .i64 0]) ∧ JIn w b ⟨0, []⟩ w') := Lib.hid (fun W h => joOpen_in w b ⟨0, []⟩ W h)
          go_wp2_with fail
          refine (HPUT.out _ HJ2.out).mono ?_
          rintro r w3 ⟨rfl, hj3⟩
          have HJ3 := Lib.hid hj3
          clear hj3 HPUT HJ2
          go_wp2_with fail
          refine (HOP2.out _ HJ3.out).mono ?_
          rintro r w4 ⟨rfl, hj4⟩
          have HB4 := Lib.hid hj4.bel
          clear hj4 HOP1 HOP2
          go_wp2
          go_ret
          exact ⟨rfl, HB4.out⟩
        · have HPUT := Lib.hid (fun W h => joPut_in w b ⟨327, L⟩ ⟨false, T⟩ W h (by simp only; omega) (by have := HLL.out; simp only; omega) (by have := HTL.out; simp only; omega))
          rw [putJ_more ⟨327, L⟩ T (by have := HTL.out; omega) (by have := HTL.out; have := HLL.out; simp only; omega)] at HPUT
          unfold ptV at HPUT
          simp only at HPUT
          have HOP2 : Hid (∀ W, JIn w b ⟨328, L ++ T⟩ W → Calls Try.prog 20 #[.pointer (some ⟨b, 0, none⟩)] W fun r w' => r = .returned (.tuple #[.int .i64 328, .int .i64 (65400 + (m : Int))]) ∧ JIn w b ⟨328, L ++ T⟩ w') := Lib.hid (fun W h => by
            have := joOpen_in w b ⟨328, L ++ T⟩ W h
            simp only [List.length_append, HLL.out, HTL.out] at this
            exact this)
          go_wp2_with fail
          refine (HPUT.out _ HJ2.out).mono ?_
          rintro r w3 ⟨rfl, hj3⟩
          have HJ3 := Lib.hid hj3
          clear hj3 HPUT HJ2
          go_wp2_with fail
          refine (HOP2.out _ HJ3.out).mono ?_
          rintro r w4 ⟨rfl, hj4⟩
          have HB4 := Lib.hid hj4.bel
          clear hj4 HOP1 HOP2
          go_wp2
          go_ret
          exact ⟨rfl, HB4.out⟩
end Go.Proofs.Ytfkhfincggligaa
