/-
  The document's own answers for layer 2: what each comes to.
-/
import Derived.Test.YtpilkaggiajjmaaWirePut
import Derived.Test.YtpilkaggiajjmaaWireTake
import Derived.Test.YtpilkaggiajjmaaWireSeal
namespace Go.Proofs.Ytpilkaggiajjmaa
open Go.RowKit
set_option linter.unusedVariables false

theorem byte_back (w : World) (c : UInt8) (x : Int) (hx : x = (c.toNat : Int)) : (convert 115 9 (.slice (some ⟨w.heap.size, 0, none⟩) 1 1)).run Try.prog (w.alloc (.cells #[.int .u8 x] 5)) = .ok (.string (bs [c])) (w.alloc (.cells #[.int .u8 x] 5)) := by
  subst hx; exact one_back w c
set_option maxHeartbeats 400000 in
set_option maxRecDepth 100000 in
theorem refNum_any (n : Nat) (w : World) (hn : n < 18446744073709551616) : Calls Try.prog 102 #[.int .u64 n] w fun e w' => e = .returned (.string (bs (numB n))) ∧ Below w.heap.size w w' := by
  have HN := Lib.hid hn
  clear hn
  go_enter Try.func102, Try.ntmps102
  go_wp2
  go_loopw [0, 3, 4] (fun x s i wr => ∃ (k m : Nat) (S : ByteArray), k ≤ 10 ∧ x = .int .u64 m ∧ s = .string S ∧ i = .int .i64 k ∧ S.size ≤ 10 ∧ S.size ≤ k ∧ Hid (m * 128 ^ k ≤ n) ∧ Hid (numB n = S.data.toList ++ numB m) ∧ Below w.heap.size w wr) (fun _ _ i _ => 10 - (intOf i).toNat)
  case atStart => exact ⟨0, n, ⟨#[]⟩, by omega, rfl, rfl, rfl, by decide, by decide, Lib.hid (by simp), Lib.hid rfl, Below.refl _ _⟩
  case round =>
    obtain ⟨k, m, S, hk, rfl, rfl, rfl, hS, hSk, H1, H2, hb⟩ := hrel
    have hz := hb.size
    by_cases hlt : k < 10
    · by_cases hge : 127 < m
      · have hgb : decide ((127 : Int) < (m : Int)) = true := by simp; omega
        have HG := Lib.hid hge
        clear hge
        have hback := byte_back wr (byteOf (m % 128 + 128)) (128 + (m : Int) % 128) (by rw [byteOf_toNat (by omega)]; omega)
        have hs1 : (bs [byteOf (m % 128 + 128)]).size ≤ 1 := by rw [bs_size]; exact Nat.le_refl 1
        have HQ := Lib.hid (bs_list [byteOf (m % 128 + 128)])
        generalize bs [byteOf (m % 128 + 128)] = q at hback hs1 HQ
        go_wp2
        go_roundw
        case rel =>
          have h1 := HG.out
          have hmn : m ≤ n := Nat.le_trans (Nat.le_mul_of_pos_right m (Nat.pow_pos (by decide))) H1.out
          have hn := HN.out
          exact ⟨k + 1, m / 128, S ++ q, by omega, congrArg (Value.int .u64) (by rw [IntKind.wrap_u64]; omega), rfl, by go_num, by simp; omega, by simp; omega, Lib.hid (by
            have := H1.out
            rw [Nat.pow_succ, Nat.mul_comm (128 ^ k), ← Nat.mul_assoc]
            exact Nat.le_trans (Nat.mul_le_mul_right _ (Nat.div_mul_le_self m 128)) this), Lib.hid (by rw [H2.out, numB_ge (by omega)]; simp [HQ.out]), hb.alloc hz _⟩
        case measure => simp [intOf]; omega
      · have hgb : decide ((127 : Int) < (m : Int)) = false := by simp; omega
        have HG := Lib.hid hge
        clear hge
        have hback := byte_back wr (byteOf m) _ (low_walk m (by have := HG.out; omega))
        have hs1 : (bs [byteOf m]).size ≤ 1 := by rw [bs_size]; exact Nat.le_refl 1
        have HR := Lib.hid (show S ++ bs [byteOf m] = bs (numB n) by rw [H2.out, numB_lt (by have := HG.out; omega), ← bs_append, bs_eta])
        generalize bs [byteOf m] = q at hback hs1 HR
        go_wp2
        go_ret
        exact ⟨by rw [← HR.out]; rfl, hb.alloc hz _⟩
    · have HG := Lib.hid (show m = 0 by
        have h1 := H1.out
        have h2 := HN.out
        have h10 : (128 : Nat) ^ 10 = 1180591620717411303424 := by decide
        have : k = 10 := by omega
        subst this
        by_cases h0 : m = 0
        · exact h0
        · have := Nat.mul_le_mul_right (128 ^ 10) (show 1 ≤ m by omega)
          omega)
      have hback := byte_back wr (byteOf m) _ (low_walk m (by have := HG.out; omega))
      have hs1 : (bs [byteOf m]).size ≤ 1 := by rw [bs_size]; exact Nat.le_refl 1
      have HR := Lib.hid (show S ++ bs [byteOf m] = bs (numB n) by rw [H2.out, numB_lt (by have := HG.out; omega), ← bs_append, bs_eta])
      generalize bs [byteOf m] = q at hback hs1 HR
      go_wp2
      go_ret
      exact ⟨by rw [← HR.out]; rfl, hb.alloc hz _⟩
theorem refNum_int (n : Nat) (x : Int) (hx : x = (n : Int)) (w : World) (hn : n < 18446744073709551616) : Calls Try.prog 102 #[.int .u64 x] w fun e w' => e = .returned (.string (bs (numB n))) ∧ Below w.heap.size w w' := by
  subst hx; exact refNum_any n w hn
theorem refCount_any (n : Int) (w : World) (h1 : -9223372036854775808 ≤ n) (h2 : n ≤ 9223372036854775807) : Calls Try.prog 79 #[.int .i64 n] w fun e w' => e = .returned (.string (bs (numB n.toNat))) ∧ Below w.heap.size w w' := by
  by_cases hn : n < 0
  · have HE := Lib.hid (show n.toNat = 0 by omega)
    go_enter Try.func79, Try.ntmps79
    go_wp2_with fail
    refine (refNum_int n.toNat _ (by rw [HE.out]; rfl) _ (by omega)).mono ?_
    rintro e w1 ⟨rfl, hb⟩
    go_wp2
    go_ret
    exact ⟨rfl, hb⟩
  · go_enter Try.func79, Try.ntmps79
    go_wp2_with fail
    refine (refNum_int n.toNat _ (by omega) _ (by omega)).mono ?_
    rintro e w1 ⟨rfl, hb⟩
    go_wp2
    go_ret
    exact ⟨rfl, hb⟩
theorem refStr_any (s : ByteArray) (w : World) (h : s.size ≤ 1000000000) : Calls Try.prog 81 #[.string s] w fun e w' => e = .returned (.string (bs (strB s.data.toList))) ∧ Below w.heap.size w w' := by
  have HL := Lib.hid (@numB_ten s.size (by omega))
  have HE := Lib.hid (show bs (numB s.size) ++ s = bs (strB s.data.toList) by
    have e : s.data.toList.length = s.size := by simp
    rw [strB, e, ← bs_append, bs_eta])
  go_enter Try.func81, Try.ntmps81
  go_wp2_with fail
  refine (refNum_int s.size _ (by omega) _ (by omega)).mono ?_
  rintro e w1 ⟨rfl, hb⟩
  have hq : (bs (numB s.size)).size ≤ 10 := by rw [bs_size]; exact HL.out
  generalize bs (numB s.size) = q at hq HE ⊢
  go_wp2
  go_ret
  exact ⟨by rw [← HE.out]; rfl, hb⟩
end Go.Proofs.Ytpilkaggiajjmaa
