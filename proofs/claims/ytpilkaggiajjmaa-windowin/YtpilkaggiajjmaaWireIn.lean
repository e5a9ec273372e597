/-
  Taking things from the front of bytes: what each call comes to.
-/
import Derived.Test.YtpilkaggiajjmaaSums
import Derived.Test.YtpilkaggiajjmaaWireMath
import Derived.Test.YtpilkaggiajjmaaBytes
import Derived.Below
import Derived.Deep.Cut
import Derived.Outline
namespace Go.Proofs.Ytpilkaggiajjmaa
open Go.RowKit
set_option linter.unusedVariables false

theorem number_any (s : ByteArray) (w : World) (hs : s.size ≤ maxLen) :
    Calls Try.prog 122 #[.string s] w fun e w' => e = .returned (.tuple #[.int .u64 ((numT s.data.toList).1 : Nat), .int .i64 ((numT s.data.toList).2.1 : Nat), .int .i64 ((numT s.data.toList).2.2 : Nat)]) ∧ w = w' := by
  unfold maxLen at hs
  go_enter Try.func122, Try.ntmps122
  go_wp2
  go_loop [5, 10] (fun n i => ∃ k acc : Nat, k ≤ s.size ∧ k ≤ 9 ∧ i = .int .i64 k ∧ n = .int .u64 acc ∧ Hid (acc < 128 ^ k) ∧ Hid (numT s.data.toList = takeF k acc (s.data.toList.drop k))) (fun _ i => 10 - (intOf i).toNat)
  case atStart => exact ⟨0, 0, by omega, by omega, rfl, rfl, Lib.hid (by decide), Lib.hid rfl⟩
  case round =>
    obtain ⟨k, acc, hk, hk9, rfl, rfl, H1, H2⟩ := hrel
    by_cases hlt : k < s.size
    · have hb := byte_lt s[k]
      have HD := Lib.hid (drop_at s k hlt)
      by_cases hA : 0 < k ∧ s[k].toNat = 0
      · have HU := Lib.hid (show numT s.data.toList = (0, 0, 2) by rw [H2.out, HD.out, takeF_bad (.inl hA)])
        obtain ⟨hA1, hA2⟩ := hA
        have hc0 : ((s[k].toNat : Int) == 0) = true := by simp; omega
        have HA2 := Lib.hid hA2
        clear hA2
        go_wp2
        go_ret3
        exact ⟨by rw [HU.out]; rfl, rfl⟩
      by_cases hB : k = 9 ∧ 1 < s[k].toNat
      · have HU := Lib.hid (show numT s.data.toList = (0, 0, 2) by rw [H2.out, HD.out, takeF_bad (.inr hB)])
        obtain ⟨hB1, hB2⟩ := hB
        have hc0 : ((s[k].toNat : Int) == 0) = false := by simp; omega
        have hkk : ((k : Int) == 9) = true := by simp; omega
        have hk1 : 0 < k := by omega
        clear hB1 hA
        go_wp2
        go_ret3
        exact ⟨by rw [HU.out]; rfl, rfl⟩
      have hN : ¬ ((0 < k ∧ s[k].toNat = 0) ∨ (k = 9 ∧ 1 < s[k].toNat)) := by omega
      have HW := Lib.hid (or_walk acc k s[k].toNat hb H1.out hk9 (by omega))
      have HL := Lib.hid (@acc_lt acc k s[k].toNat H1.out)
      have HT1 := Lib.hid (fun (hb : s[k].toNat < 128) => (H2.out.trans (by rw [HD.out, takeF_last hN hb]) : numT s.data.toList = (acc + s[k].toNat % 128 * 128 ^ k, k + 1, 0)))
      have HT2 := Lib.hid (fun (hb : ¬ s[k].toNat < 128) => (H2.out.trans (by rw [HD.out, takeF_more hN hb]) : numT s.data.toList = takeF (k + 1) (acc + s[k].toNat % 128 * 128 ^ k) (s.data.toList.drop (k + 1))))
      generalize acc + s[k].toNat % 128 * 128 ^ k = acc' at HW HL HT1 HT2
      clear H2 HD
      by_cases hk0 : k = 0
      · have hG : decide (0 < k) = false := by simp; omega
        have HK0 := Lib.hid hk0
        have hkk : ((k : Int) == 9) = false := by simp; omega
        clear hA hB hN hk0
        by_cases hD : s[k].toNat < 128
        · have hDb : decide ((s[k].toNat : Int) < 128) = true := by simp; omega
          have HD := Lib.hid hD
          clear hD
          go_upto_region 9 with (fail)
          rw [HW.out]
          generalize IntKind.u64.wrap (IntKind.u64.wrap (bits .andNot .u8 (s[k].toNat : Int) 128) * 2 ^ (7 * k)) = junk
          go_wp2
          go_ret3
          exact ⟨by rw [HT1.out HD.out]; rfl, rfl⟩
        · have hDb : decide ((s[k].toNat : Int) < 128) = false := by simp; omega
          have HD := Lib.hid hD
          clear hD
          go_upto_region 9 with (fail)
          rw [HW.out]
          generalize IntKind.u64.wrap (IntKind.u64.wrap (bits .andNot .u8 (s[k].toNat : Int) 128) * 2 ^ (7 * k)) = junk
          go_wp2
          go_round
          case rel => exact ⟨k + 1, acc', by omega, by have := HK0.out; omega, by go_num, rfl, HL, Lib.hid (HT2.out HD.out)⟩
          case measure => simp [intOf]; omega
      by_cases hk9' : k = 9
      · have hk1 : 0 < k := by omega
        have hc0 : ((s[k].toNat : Int) == 0) = false := by simp; omega
        have hkk : ((k : Int) == 9) = true := by simp; omega
        have hc1 : decide (1 < (s[k].toNat : Int)) = false := by simp; omega
        have HD := Lib.hid (show s[k].toNat < 128 by omega)
        have hDb : decide ((s[k].toNat : Int) < 128) = true := by simp; omega
        clear hA hB hN hk0 hk9'
        go_upto_region 9 with (fail)
        rw [HW.out]
        generalize IntKind.u64.wrap (IntKind.u64.wrap (bits .andNot .u8 (s[k].toNat : Int) 128) * 2 ^ (7 * k)) = junk
        go_wp2
        go_ret3
        exact ⟨by rw [HT1.out HD.out]; rfl, rfl⟩
      have hk1 : 0 < k := by omega
      have hk2 : k < 9 := by omega
      have hc0 : ((s[k].toNat : Int) == 0) = false := by simp; omega
      have hkk : ((k : Int) == 9) = false := by simp; omega
      clear hA hB hk0 hk9' hN
      by_cases hD : s[k].toNat < 128
      · have hDb : decide ((s[k].toNat : Int) < 128) = true := by simp; omega
        have HD := Lib.hid hD
        clear hD
        go_upto_region 9 with (fail)
        rw [HW.out]
        generalize IntKind.u64.wrap (IntKind.u64.wrap (bits .andNot .u8 (s[k].toNat : Int) 128) * 2 ^ (7 * k)) = junk
        go_wp2
        go_ret3
        exact ⟨by rw [HT1.out HD.out]; rfl, rfl⟩
      · have hDb : decide ((s[k].toNat : Int) < 128) = false := by simp; omega
        have HD := Lib.hid hD
        clear hD
        go_upto_region 9 with (fail)
        rw [HW.out]
        generalize IntKind.u64.wrap (IntKind.u64.wrap (bits .andNot .u8 (s[k].toNat : Int) 128) * 2 ^ (7 * k)) = junk
        go_wp2
        go_round
        case rel => exact ⟨k + 1, acc', by omega, by omega, by go_num, rfl, HL, Lib.hid (HT2.out HD.out)⟩
        case measure => simp [intOf]; omega
    · have HU := Lib.hid (show numT s.data.toList = (0, 0, 1) by rw [H2.out, List.drop_of_length_le (by simp; omega), takeF_end])
      go_wp2
      go_ret3
      exact ⟨by rw [HU.out]; rfl, rfl⟩
end Go.Proofs.Ytpilkaggiajjmaa
