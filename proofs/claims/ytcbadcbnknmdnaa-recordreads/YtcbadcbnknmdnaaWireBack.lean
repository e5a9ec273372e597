/-
  There and back: what is taken of bytes that were put.
-/
import Derived.Test.YtcbadcbnknmdnaaVals
namespace Go.Proofs.Ytcbadcbnknmdnaa
open Go.RowKit

theorem takeF_back (m : Nat) : ∀ k acc (r : List UInt8), k ≤ 9 → m * 128 ^ k < 18446744073709551616 → (0 < k → 0 < m) → takeF k acc (numB m ++ r) = (acc + m * 128 ^ k, k + (numB m).length, 0) := by
  induction m using Nat.strongRecOn with
  | ind m ih =>
    intro k acc r hk hm h0
    have h9 : (128 : Nat) ^ 9 = 9223372036854775808 := by decide
    have hk9 : k = 9 → m ≤ 1 := fun e => by subst e; omega
    by_cases h : m < 128
    · rw [numB_lt h]
      have e : (byteOf m).toNat = m := byteOf_toNat (by omega)
      show takeF k acc (byteOf m :: r) = _
      rw [takeF_last (by rw [e]; omega) (by rw [e]; exact h), e, Nat.mod_eq_of_lt h]
      rfl
    · rw [numB_ge (by omega)]
      have e : (byteOf (m % 128 + 128)).toNat = m % 128 + 128 := byteOf_toNat (by omega)
      show takeF k acc (byteOf (m % 128 + 128) :: (numB (m / 128) ++ r)) = _
      have hk8 : k ≠ 9 := fun e => by have := hk9 e; omega
      have hp : m / 128 * 128 ^ (k + 1) ≤ m * 128 ^ k := by
        rw [Nat.pow_succ, Nat.mul_comm (128 ^ k), ← Nat.mul_assoc]
        exact Nat.mul_le_mul_right _ (Nat.div_mul_le_self m 128)
      rw [takeF_more (by rw [e]; omega) (by rw [e]; omega), e, ih (m / 128) (by omega) (k + 1) _ r (by omega) (by omega) (by omega)]
      have e2 : (m % 128 + 128) % 128 = m % 128 := by omega
      rw [e2, List.length_cons]
      refine Prod.ext ?_ (Prod.ext ?_ rfl)
      · show acc + m % 128 * 128 ^ k + m / 128 * 128 ^ (k + 1) = acc + m * 128 ^ k
        rw [Nat.pow_succ, Nat.mul_comm (128 ^ k) 128, ← Nat.mul_assoc, Nat.add_assoc, ← Nat.add_mul]
        congr 2
        omega
      · show k + 1 + _ = k + (_ + 1)
        omega
theorem numT_back (n : Nat) (r : List UInt8) (h : n < 18446744073709551616) : numT (numB n ++ r) = (n, (numB n).length, 0) := by
  have := takeF_back n 0 0 r (by decide) (by simpa using h) (by omega)
  simpa [numT] using this
theorem numS_back (n : Nat) (r : List UInt8) (h : n < 18446744073709551616) : numS (numB n ++ r, 0) = ((r, 0), n) := by
  unfold numS
  simp only [numT_back n r h]
  simp
theorem zig_back (n : Int) : unzig (zig n) = n := by
  unfold unzig zig
  by_cases h : n < 0
  · rw [if_pos h, if_pos (by omega)]; omega
  · rw [if_neg h, if_neg (by omega)]; omega
theorem rawS_back (l r : List UInt8) : rawS (l ++ r, 0) (l.length : Int) = ((r, 0), l) := by
  unfold rawS
  simp only [Int.toNat_natCast]
  rw [if_neg (by simp)]
  simp
theorem strS_back (l r : List UInt8) (most : Int) (h : (l.length : Int) ≤ most) (h2 : l.length < 18446744073709551616) : strS (strB l ++ r, 0) most = ((r, 0), l) := by
  have e : countS (strB l ++ r, 0) most = ((l ++ r, 0), l.length) := by
    unfold countS
    rw [strB, List.append_assoc, numS_back _ _ h2]
    simp only
    rw [if_neg (by omega)]
  unfold strS
  rw [e]
  exact rawS_back l r
theorem inNum_back (b n : Nat) (r : List UInt8) (w : World) (hn : n < 18446744073709551616) (h : InSt w b (numB n ++ r, 0)) :
    Calls Try.prog 81 #[.pointer (some ⟨b, 0, none⟩)] w fun e w' => e = .returned (.int .u64 n) ∧ InTo w b (r, 0) w' := by
  have := inNum_any b _ 0 w h
  rwa [numS_back n r hn] at this
theorem inInt_back (b : Nat) (n : Int) (r : List UInt8) (w : World) (hn : -9223372036854775808 ≤ n ∧ n ≤ 9223372036854775807) (h : InSt w b (numB (zig n) ++ r, 0)) :
    Calls Try.prog 82 #[.pointer (some ⟨b, 0, none⟩)] w fun e w' => e = .returned (.int .i64 n) ∧ InTo w b (r, 0) w' := by
  have := inInt_any b _ 0 w h
  rw [numS_back _ r (zig_lt hn.1 hn.2)] at this
  simp only [zig_back] at this
  exact this
theorem inStr_back (b : Nat) (s : ByteArray) (r : List UInt8) (most : Int) (w : World) (hs : (s.size : Int) ≤ most) (hm : most ≤ 9223372036854775807) (h : InSt w b (strB s.data.toList ++ r, 0)) :
    Calls Try.prog 113 #[.pointer (some ⟨b, 0, none⟩), .int .i64 most] w fun e w' => e = .returned (.string s) ∧ InTo w b (r, 0) w' := by
  have := inStr_any b _ 0 most w hm (by omega) h
  have e : s.data.toList.length = s.size := by simp
  rw [strS_back _ r most (by rw [e]; exact hs) (by rw [e]; omega)] at this
  rwa [bs_eta] at this
theorem inRaw_back (b : Nat) (s : ByteArray) (r : List UInt8) (w : World) (hm : s.size ≤ 9223372036854775807) (h : InSt w b (s.data.toList ++ r, 0)) :
    Calls Try.prog 119 #[.pointer (some ⟨b, 0, none⟩), .int .i64 s.size] w fun e w' => e = .returned (.string s) ∧ InTo w b (r, 0) w' := by
  have := raw_any b _ 0 (s.size : Int) w (by omega) (by omega) h
  have e : (s.size : Int) = (s.data.toList.length : Int) := by simp
  rw [e, rawS_back] at this
  rw [e]
  rwa [bs_eta] at this
theorem inEnd_back (b : Nat) (w : World) (h : InSt w b ([], 0)) :
    Calls Try.prog 29 #[.pointer (some ⟨b, 0, none⟩)] w fun e w' => e = .returned (.int .i64 0) ∧ InTo w b ([], 0) w' := end_any b [] 0 w h
theorem InTo.below {w w' : World} {b B : Nat} {st : List UInt8 × Nat} (h : InTo w b st w') (hB : B ≤ w.heap.size) (hb : B ≤ b) : Below B w w' := h.2.below hB (by rintro k hk rfl; omega)
end Go.Proofs.Ytcbadcbnknmdnaa
