/-
  Datagrams: what each call that makes or opens one comes to.
-/
import Derived.Test.YtpilkaggiajjmaaSums
import Derived.Test.YtpilkaggiajjmaaWireMath
import Derived.Test.YtpilkaggiajjmaaBytes
import Derived.Below
import Derived.LoopN
import Derived.Deep.RegionWith
namespace Go.Proofs.Ytpilkaggiajjmaa
open Go.RowKit
set_option linter.unusedVariables false

theorem below_drew0 {w w' : World} (h : Below w.drew.heap.size w.drew w') : Below w.heap.size w w' := ⟨h.os, h.tape, h.output, h.size, h.block⟩
theorem one_back (w : World) (c : UInt8) : (convert 115 9 (.slice (some ⟨w.heap.size, 0, none⟩) 1 1)).run Try.prog (w.alloc (.cells #[.int .u8 (c.toNat : Int)] 5)) = .ok (.string (bs [c])) (w.alloc (.cells #[.int .u8 (c.toNat : Int)] 5)) := by
  refine bytes_back _ _ 1 1 [c] rfl fun j hj => ?_
  obtain rfl : j = 0 := by simpa using hj
  simp
theorem firstByte_any (w : World) : Calls Try.prog 120 #[] w fun e w' => e = .returned (.string (bs [7])) ∧ Below w.heap.size w w' := by
  have hback : (convert 115 9 (.slice (some ⟨w.heap.size, 0, none⟩) 1 1)).run Try.prog (w.alloc (.cells #[.int .u8 7] 5)) = .ok (.string (bs [7])) (w.alloc (.cells #[.int .u8 7] 5)) := one_back w 7
  go_enter Try.func120, Try.ntmps120
  go_wp2
  go_ret
  exact ⟨rfl, (Below.refl _ _).alloc (Nat.le_refl _) _⟩
theorem crc_two (b : Nat) (cap : Nat) (s t : ByteArray) (w : World) (hs : s.size ≤ maxLen) (ht : t.size ≤ maxLen) (hc : w.cell? ⟨b, 0, none⟩ = some (.string s)) (hd : w.cell? ⟨b, 1, none⟩ = some (.string t)) :
    Calls Try.prog 121 #[.slice (some ⟨b, 0, none⟩) 2 cap] w fun e w' => e = .returned (.int .u32 (crc32 (s.data.toList ++ t.data.toList) : Nat)) ∧ w = w' := by
  have hr : StrRow w (some ⟨b, 0, none⟩) [s, t] := by
    refine ⟨by simp [maxLen], fun i h => ?_, fun _ => ⟨b, 0, rfl, fun i h => ?_⟩⟩
    · rcases (show i = 0 ∨ i = 1 by simp at h; omega) with rfl | rfl
      · exact hs
      · exact ht
    · rcases (show i = 0 ∨ i = 1 by simp at h; omega) with rfl | rfl
      · exact hc
      · exact hd
  have := crc_any (some ⟨b, 0, none⟩) cap [s, t] w hr
  rw [moreS_zero] at this
  simpa [bls, crc32] using this
theorem four_back (u : World) (b : Nat) (t : TypeId) (x : Nat) (hx : x < 4294967296) (hb : b = u.heap.size) :
    (convert 115 9 (.slice (some ⟨b, 0, none⟩) 4 4)).run Try.prog (u.alloc (.cells #[.int .u8 ((x : Int) % 256), .int .u8 ((x : Int) / 256 % 256), .int .u8 ((x : Int) / 65536 % 256), .int .u8 ((x : Int) / 16777216)] t)) =
      .ok (.string (bs (sum4 x))) (u.alloc (.cells #[.int .u8 ((x : Int) % 256), .int .u8 ((x : Int) / 256 % 256), .int .u8 ((x : Int) / 65536 % 256), .int .u8 ((x : Int) / 16777216)] t)) := by
  subst hb
  refine bytes_back _ _ 4 4 (sum4 x) rfl fun j hj => ?_
  have h0 : ((x % 256 : Nat) : Int) = (x : Int) % 256 := by omega
  have h1 : ((x / 256 % 256 : Nat) : Int) = (x : Int) / 256 % 256 := by omega
  have h2 : ((x / 65536 % 256 : Nat) : Int) = (x : Int) / 65536 % 256 := by omega
  have h3 : ((x / 16777216 % 256 : Nat) : Int) = (x : Int) / 16777216 := by omega
  rcases (show j = 0 ∨ j = 1 ∨ j = 2 ∨ j = 3 by rw [sum4_length] at hj; omega) with rfl | rfl | rfl | rfl
  · simp [sum4, byteOf_toNat (show x % 256 < 256 by omega)]
  · simp [sum4, byteOf_toNat (show x / 256 % 256 < 256 by omega)]
  · simp [sum4, byteOf_toNat (show x / 65536 % 256 < 256 by omega)]
  · simp only [sum4, List.getElem_cons_succ, List.getElem_cons_zero, byteOf_toNat (show x / 16777216 % 256 < 256 by omega), h3]
    simp
theorem sumBytes_any (s : ByteArray) (w : World) (hs : s.size ≤ 1000000) : Calls Try.prog 112 #[.string s] w fun e w' => e = .returned (.string (bs (sum4 (crc32 (7 :: s.data.toList))))) ∧ Below w.heap.size w w' := by
  go_enter Try.func112, Try.ntmps112
  go_wp2_with fail
  refine (firstByte_any _).mono ?_
  rintro e w1 ⟨rfl, hb1⟩
  go_wp2_with fail
  refine (crc_two _ _ (bs [7]) s _ (by decide) (by unfold maxLen; omega) (by simp) (by simp)).mono ?_
  rintro e w' ⟨rfl, rfl⟩
  rw [bs_list, List.singleton_append]
  have hx := crc32_lt (7 :: s.data.toList)
  generalize hX : crc32 (7 :: s.data.toList) = x at hx ⊢
  have HX := Lib.hid hX
  clear hX
  have hback := four_back (w1.alloc (.cells #[.string (bs [7]), .string s] 9)) (w1.heap.size + 1) 212 x hx (by simp)
  go_wp2_with fail
  refine wp_loop_rounds 5 ?_
  rw [rounds_succ]; go_wp2
  rw [rounds_succ]; go_wp2
  rw [rounds_succ]; go_wp2
  rw [rounds_succ]; go_wp2
  rw [rounds_succ]; go_wp2
  go_ret
  have hz := hb1.size
  exact ⟨by rw [HX.out]; rfl, (hb1.alloc hz _).alloc (by simp; omega) _⟩
theorem seal_any (s : ByteArray) (w : World) (hs : s.size ≤ 1000000) : Calls Try.prog 109 #[.string s] w fun e w' => e = .returned (.string (bs (sealB s.data.toList))) ∧ Below w.heap.size w w' := by
  go_enter Try.func109, Try.ntmps109
  go_wp2_with fail
  refine (firstByte_any _).mono ?_
  rintro e w1 ⟨rfl, hb1⟩
  go_wp2_with fail
  refine (sumBytes_any s _ hs).mono ?_
  rintro e w2 ⟨rfl, hb2⟩
  have HP := Lib.hid (show bs [7] ++ bs (sum4 (crc32 (7 :: s.data.toList))) ++ s = bs (sealB s.data.toList) by
    rw [bs_append]; conv => lhs; rhs; rw [← bs_eta s]
    rw [bs_append]; rfl)
  have h1 : (bs [7]).size ≤ 1 := by rw [bs_size]; decide
  have h2 : (bs (sum4 (crc32 (7 :: s.data.toList)))).size ≤ 4 := by rw [bs_size, sum4_length]; decide
  generalize bs [7] = p at h1 HP ⊢
  generalize bs (sum4 (crc32 (7 :: s.data.toList))) = q at h2 HP ⊢
  go_wp2
  go_ret
  exact ⟨by rw [← HP.out]; rfl, hb1.trans (hb2.mono hb1.size)⟩
theorem refCrc_seven (s : ByteArray) (w : World) (hs : s.size ≤ 1000000) : Calls Try.prog 103 #[.string (ByteArray.mk #[7] ++ s)] w fun e w' => e = .returned (.int .u32 (crc32 (7 :: s.data.toList) : Nat)) ∧ w = w' := by
  have h := refCrc_any (ByteArray.mk #[7] ++ s) w (by rw [seven_append, bs_size]; simp [maxLen]; omega)
  have e : (ByteArray.mk #[7] ++ s).data.toList = 7 :: s.data.toList := by rw [seven_append, bs_list]
  rw [e] at h
  exact h
theorem refSeal_any (s : ByteArray) (w : World) (hs : s.size ≤ 1000000) : Calls Try.prog 80 #[.string s] w fun e w' => e = .returned (.string (bs (sealB s.data.toList))) ∧ Below w.heap.size w w' := by
  go_enter Try.func80, Try.ntmps80
  go_wp2_with fail
  refine (refCrc_seven s _ hs).mono ?_
  rintro e w' ⟨rfl, rfl⟩
  have hx := crc32_lt (7 :: s.data.toList)
  have HP := Lib.hid (show ByteArray.mk #[7] ++ bs (sum4 (crc32 (7 :: s.data.toList))) ++ s = bs (sealB s.data.toList) by
    rw [show ByteArray.mk #[7] = bs [7] from rfl, bs_append]; conv => lhs; rhs; rw [← bs_eta s]
    rw [bs_append]; rfl)
  have hb := four_back w w.heap.size 5 (crc32 (7 :: s.data.toList)) hx rfl
  have h2 : (bs (sum4 (crc32 (7 :: s.data.toList)))).size ≤ 4 := by rw [bs_size, sum4_length]; decide
  generalize bs (sum4 (crc32 (7 :: s.data.toList))) = q at h2 HP hb
  generalize crc32 (7 :: s.data.toList) = x at hx hb ⊢
  go_wp2
  go_ret
  exact ⟨by rw [← HP.out]; rfl, (Below.refl _ _).alloc (Nat.le_refl _) _⟩
theorem sumBytes_drop (s q : ByteArray) (hq : bs (sum4 (crc32 (7 :: s.data.toList.drop 5))) = q) (w : World) (hs : s.size ≤ 1000000) : Calls Try.prog 112 #[.string (s.extract 5 s.size)] w fun e w' => e = .returned (.string q) ∧ Below w.heap.size w w' := by
  have h := sumBytes_any (s.extract 5 s.size) w (by simp; omega)
  rw [extract_drop, bs_list, hq] at h
  rw [extract_drop]
  exact h
theorem unseal_any (s : ByteArray) (w : World) (hs : s.size ≤ 1000000) : Calls Try.prog 95 #[.string s] w fun e w' => e = .returned (.tuple #[.string (bs (unsealB s.data.toList).1), .int .i64 ((unsealB s.data.toList).2 : Nat)]) ∧ Below w.heap.size w w' := by
  by_cases h1 : s.size < 5
  · have HU := Lib.hid (unseal_1 s h1)
    go_enter Try.func95, Try.ntmps95
    go_wp2
    go_ret2
    exact ⟨by rw [HU.out]; rfl, Below.refl _ _⟩
  have h0 : 0 < s.size := by omega
  by_cases h7 : (s[0]'h0).toNat = 7
  · have h7' : (((s[0]'h0).toNat : Int) != 7) = false := by rw [h7]; rfl
    have HX := Lib.hid (extract_drop s 5)
    have HY := Lib.hid (extract_list s 1 5)
    by_cases hsum : (s.data.toList.drop 1).take 4 = sum4 (crc32 (7 :: s.data.toList.drop 5))
    · have HU := Lib.hid (unseal_0 s h1 h7 hsum)
      have HQ := Lib.hid (show bs (sum4 (crc32 (7 :: s.data.toList.drop 5))) = s.extract 1 5 by rw [HY.out, ← hsum])
      have hn := str_eq (s.extract 1 5)
      clear h7 hsum
      go_enter Try.func95, Try.ntmps95
      go_wp2_with fail
      go_region_with (go_at_call 112; refine (sumBytes_drop s (s.extract 1 5) HQ.out _ hs).mono ?_; rintro e w1 ⟨rfl, hb1⟩)
      all_goals (go_wp2; go_ret2; exact ⟨by rw [HU.out, ← HX.out]; rfl, below_drew0 hb1⟩)
    · have HU := Lib.hid (unseal_5 s h1 h7 hsum)
      have hn : ((s.extract 1 5).toList == (bs (sum4 (crc32 (7 :: s.data.toList.drop 5)))).toList) = false := by
        refine str_ne ?_
        rw [HY.out, bs_list, bs_list]
        exact hsum
      generalize hq : bs (sum4 (crc32 (7 :: s.data.toList.drop 5))) = q at hn
      have HQ := Lib.hid hq
      clear h7 hsum hq
      go_enter Try.func95, Try.ntmps95
      go_wp2_with fail
      go_region_with (go_at_call 112; refine (sumBytes_drop s q HQ.out _ hs).mono ?_; rintro e w1 ⟨rfl, hb1⟩)
      all_goals (go_wp2; go_ret2; exact ⟨by rw [HU.out]; rfl, below_drew0 hb1⟩)
  · have h7' : (((s[0]'h0).toNat : Int) != 7) = true := by simp; omega
    have HU := Lib.hid (unseal_6 s h1 h7)
    go_enter Try.func95, Try.ntmps95
    go_wp2
    go_ret2
    exact ⟨by rw [HU.out]; rfl, Below.refl _ _⟩
theorem refSeal_drop (s q : ByteArray) (hq : bs (sealB (s.data.toList.drop 5)) = q) (w : World) (hs : s.size ≤ 1000000) : Calls Try.prog 80 #[.string (s.extract 5 s.size)] w fun e w' => e = .returned (.string q) ∧ Below w.heap.size w w' := by
  have h := refSeal_any (s.extract 5 s.size) w (by simp; omega)
  rw [extract_drop, bs_list, hq] at h
  rw [extract_drop]
  exact h
theorem refUnseal_any (s : ByteArray) (w : World) (hs : s.size ≤ 1000000) : Calls Try.prog 73 #[.string s] w fun e w' => e = .returned (.tuple #[.string (bs (unsealB s.data.toList).1), .int .i64 ((unsealB s.data.toList).2 : Nat)]) ∧ Below w.heap.size w w' := by
  by_cases h1 : s.size < 5
  · have HU := Lib.hid (unseal_1 s h1)
    go_enter Try.func73, Try.ntmps73
    go_wp2
    go_ret2
    exact ⟨by rw [HU.out]; rfl, Below.refl _ _⟩
  have h0 : 0 < s.size := by omega
  by_cases h7 : (s[0]'h0).toNat = 7
  · have h7' : (((s[0]'h0).toNat : Int) != 7) = false := by rw [h7]; rfl
    have HX := Lib.hid (extract_drop s 5)
    have hse := seal_eq s.data.toList (by simp; omega) (head7 s h1 h7)
    by_cases hsum : (s.data.toList.drop 1).take 4 = sum4 (crc32 (7 :: s.data.toList.drop 5))
    · have HU := Lib.hid (unseal_0 s h1 h7 hsum)
      have HQ := Lib.hid (show bs (sealB (s.data.toList.drop 5)) = s by rw [hse.2 hsum, bs_eta])
      have hn := str_eq s
      clear h7 hsum hse
      go_enter Try.func73, Try.ntmps73
      go_wp2_with fail
      refine (refSeal_drop s s HQ.out _ hs).mono ?_
      rintro e w1 ⟨rfl, hb1⟩
      go_wp2
      go_ret2
      exact ⟨by rw [HU.out, ← HX.out]; rfl, hb1⟩
    · have HU := Lib.hid (unseal_5 s h1 h7 hsum)
      have hn : ((bs (sealB (s.data.toList.drop 5))).toList == s.toList) = false := by
        refine str_ne ?_
        rw [bs_list]
        exact fun h => hsum (hse.1 h)
      generalize hq : bs (sealB (s.data.toList.drop 5)) = q at hn
      have HQ := Lib.hid hq
      clear h7 hsum hq hse
      go_enter Try.func73, Try.ntmps73
      go_wp2_with fail
      refine (refSeal_drop s q HQ.out _ hs).mono ?_
      rintro e w1 ⟨rfl, hb1⟩
      go_wp2
      go_ret2
      exact ⟨by rw [HU.out]; rfl, hb1⟩
  · have h7' : (((s[0]'h0).toNat : Int) != 7) = true := by simp; omega
    have HU := Lib.hid (unseal_6 s h1 h7)
    go_enter Try.func73, Try.ntmps73
    go_wp2
    go_ret2
    exact ⟨by rw [HU.out]; rfl, Below.refl _ _⟩
end Go.Proofs.Ytpilkaggiajjmaa
