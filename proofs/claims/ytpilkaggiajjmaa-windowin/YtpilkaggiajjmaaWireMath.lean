/-
  Plain mathematics of layer 2: texts as lists of bytes; a datagram's bytes.
-/
import Derived.Test.YtpilkaggiajjmaaMath
namespace Go.Proofs.Ytpilkaggiajjmaa

/-- A text of these bytes. -/
def bs (l : List UInt8) : ByteArray := ⟨l.toArray⟩
theorem bs_list (l : List UInt8) : (bs l).data.toList = l := by simp [bs]
theorem bs_size (l : List UInt8) : (bs l).size = l.length := by simp [bs, ByteArray.size]
theorem bs_eta (s : ByteArray) : bs s.data.toList = s := by cases s; simp [bs]
theorem bs_append (l m : List UInt8) : bs l ++ bs m = bs (l ++ m) := by
  have : (bs l ++ bs m).data.toList = (bs (l ++ m)).data.toList := by simp [bs]
  rw [← bs_eta (bs l ++ bs m), this, bs_eta]
theorem list_inj {s t : ByteArray} (h : s.data.toList = t.data.toList) : s = t := by rw [← bs_eta s, h, bs_eta]
theorem extract_list (s : ByteArray) (a b : Nat) : s.extract a b = bs ((s.data.toList.drop a).take (b - a)) := by
  apply list_inj
  rw [bs_list, ByteArray.data_extract, Array.toList_extract, List.extract_eq_take_drop]
theorem extract_drop (s : ByteArray) (a : Nat) : s.extract a s.size = bs (s.data.toList.drop a) := by
  rw [extract_list, List.take_of_length_le (by simp)]
theorem extract_take (s : ByteArray) (b : Nat) : s.extract 0 b = bs (s.data.toList.take b) := by
  rw [extract_list]; rfl
def byteOf (x : Nat) : UInt8 := UInt8.ofNat x
theorem byteOf_toNat {x : Nat} (h : x < 256) : (byteOf x).toNat = x := UInt8.toNat_ofNat_of_lt' (by simpa using h)
/-- The four bytes of a sum, the lowest first. -/
def sum4 (x : Nat) : List UInt8 := [byteOf (x % 256), byteOf (x / 256 % 256), byteOf (x / 65536 % 256), byteOf (x / 16777216 % 256)]
def crc32 (l : List UInt8) : Nat := 4294967295 - crcS 4294967295 l
theorem crc32_lt (l : List UInt8) : crc32 l < 4294967296 := by unfold crc32; omega
def sealB (l : List UInt8) : List UInt8 := 7 :: (sum4 (crc32 (7 :: l)) ++ l)
/-- The bytes of a datagram, and the error's number. -/
def unsealB (l : List UInt8) : List UInt8 × Nat :=
  if l.length < 5 then ([], 1) else if l.getD 0 0 ≠ 7 then ([], 6) else if (l.drop 1).take 4 ≠ sum4 (crc32 (7 :: l.drop 5)) then ([], 5) else (l.drop 5, 0)
theorem sum4_length (x : Nat) : (sum4 x).length = 4 := rfl
theorem sealB_length (l : List UInt8) : (sealB l).length = l.length + 5 := by simp [sealB, sum4_length]; omega
theorem unseal_seal (l : List UInt8) : unsealB (sealB l) = (l, 0) := by
  unfold unsealB
  rw [if_neg (by rw [sealB_length]; omega), if_neg (by simp [sealB])]
  simp [sealB, sum4]
theorem seal_eq (l : List UInt8) (h5 : 5 ≤ l.length) (h7 : l.getD 0 0 = 7) : sealB (l.drop 5) = l ↔ (l.drop 1).take 4 = sum4 (crc32 (7 :: l.drop 5)) := by
  match l, h5 with
  | a :: b :: c :: d :: e :: r, _ =>
    have : a = 7 := by simpa using h7
    subst this
    simp [sealB, sum4]
    constructor
    · rintro ⟨h1, h2, h3, h4⟩; exact ⟨h1.symm, h2.symm, h3.symm, h4.symm⟩
    · rintro ⟨h1, h2, h3, h4⟩; exact ⟨h1.symm, h2.symm, h3.symm, h4.symm⟩
theorem seven_append (s : ByteArray) : ByteArray.mk #[7] ++ s = bs (7 :: s.data.toList) := by
  rw [show ByteArray.mk #[7] = bs [7] from rfl, ← bs_eta s, bs_append, bs_list]; rfl
theorem unseal_1 (s : ByteArray) (h : s.size < 5) : unsealB s.data.toList = ([], 1) := by
  unfold unsealB; rw [if_pos (by simpa using h)]
theorem unseal_6 (s : ByteArray) (h : ¬ s.size < 5) (h7 : (s[0]'(by omega)).toNat ≠ 7) : unsealB s.data.toList = ([], 6) := by
  have h0 : s.data.toList.getD 0 0 = s[0]'(by omega) := by
    rw [List.getD_eq_getElem?_getD, List.getElem?_eq_getElem (by simp; omega)]; rfl
  unfold unsealB
  rw [if_neg (by simpa using h), if_pos]
  rw [h0]
  intro hh
  exact h7 (by rw [hh]; rfl)
theorem head7 (s : ByteArray) (h : ¬ s.size < 5) (h7 : (s[0]'(by omega)).toNat = 7) : s.data.toList.getD 0 0 = 7 := by
  have h0 : s.data.toList.getD 0 0 = s[0]'(by omega) := by
    rw [List.getD_eq_getElem?_getD, List.getElem?_eq_getElem (by simp; omega)]; rfl
  rw [h0]
  exact UInt8.toNat_inj.1 h7
theorem unseal_5 (s : ByteArray) (h : ¬ s.size < 5) (h7 : (s[0]'(by omega)).toNat = 7) (hs : (s.data.toList.drop 1).take 4 ≠ sum4 (crc32 (7 :: s.data.toList.drop 5))) : unsealB s.data.toList = ([], 5) := by
  unfold unsealB
  rw [if_neg (by simpa using h), if_neg (by rw [head7 s h h7]; simp), if_pos hs]
theorem unseal_0 (s : ByteArray) (h : ¬ s.size < 5) (h7 : (s[0]'(by omega)).toNat = 7) (hs : (s.data.toList.drop 1).take 4 = sum4 (crc32 (7 :: s.data.toList.drop 5))) : unsealB s.data.toList = (s.data.toList.drop 5, 0) := by
  unfold unsealB
  rw [if_neg (by simpa using h), if_neg (by rw [head7 s h h7]; simp), if_neg (by rw [hs]; simp)]
/-! ### Numbers -/
/-- A number taken from the front, from its k-th byte on: the number, how many bytes say it, the error. -/
def takeF : Nat → Nat → List UInt8 → Nat × Nat × Nat
  | _, _, [] => (0, 0, 1)
  | k, acc, b :: r =>
    if (0 < k ∧ b.toNat = 0) ∨ (k = 9 ∧ 1 < b.toNat) then (0, 0, 2)
    else if b.toNat < 128 then (acc + b.toNat % 128 * 128 ^ k, k + 1, 0) else takeF (k + 1) (acc + b.toNat % 128 * 128 ^ k) r
def numT (l : List UInt8) : Nat × Nat × Nat := takeF 0 0 l
theorem pow_128 (k : Nat) : (128 : Nat) ^ k = 2 ^ (7 * k) := by
  rw [Nat.pow_mul]
theorem or_walk (acc k c : Nat) (hc : c < 256) (ha : acc < 128 ^ k) (hk : k ≤ 9) (hf : k = 9 → c ≤ 1) :
    bits .or .u64 (acc : Int) (IntKind.u64.wrap (IntKind.u64.wrap (bits .andNot .u8 (c : Int) 128) * 2 ^ (7 * k))) = ((acc + c % 128 * 128 ^ k : Nat) : Int) := by
  have h1 : bits .andNot .u8 (c : Int) 128 = ((c % 128 : Nat) : Int) := by
    have := u8_andNot_nat c 128 hc (by decide)
    rw [show (255 - 128 : Nat) = 127 from rfl, nat_mask7] at this
    exact this
  have hp : (128 : Nat) ^ k * 128 ≤ 128 ^ 10 := by
    rw [← Nat.pow_succ]; exact Nat.pow_le_pow_right (by decide) (by omega)
  have h10 : (128 : Nat) ^ 10 = 1180591620717411303424 := by decide
  have h9 : (128 : Nat) ^ 9 = 9223372036854775808 := by decide
  have hlt : c % 128 * 128 ^ k < 18446744073709551616 := by
    by_cases h : k = 9
    · subst h
      have := hf rfl
      have : c % 128 ≤ 1 := by omega
      have := Nat.mul_le_mul_right (128 ^ 9) this
      omega
    · have h8 : (128 : Nat) ^ k * 128 ≤ 128 ^ 9 := by
        rw [← Nat.pow_succ]; exact Nat.pow_le_pow_right (by decide) (by omega)
      have h2 : c % 128 ≤ 127 := by omega
      have := Nat.mul_le_mul_right (128 ^ k) h2
      omega
  have hal : acc < 18446744073709551616 := by
    have : (128 : Nat) ^ k ≤ 128 ^ 9 := Nat.pow_le_pow_right (by decide) hk
    omega
  rw [h1]
  have h3 : IntKind.u64.wrap ((c % 128 : Nat) : Int) = ((c % 128 : Nat) : Int) := by rw [IntKind.wrap_u64]; omega
  rw [h3]
  have h4 : ((c % 128 : Nat) : Int) * 2 ^ (7 * k) = ((c % 128 * 128 ^ k : Nat) : Int) := by
    rw [pow_128]; simp
  rw [h4]
  have h5 : IntKind.u64.wrap ((c % 128 * 128 ^ k : Nat) : Int) = ((c % 128 * 128 ^ k : Nat) : Int) := by rw [IntKind.wrap_u64]; omega
  rw [h5, u64_or_nat _ _ hal hlt]
  congr 1
  rw [Nat.or_comm, nat_join (7 * k) _ _ (by rw [pow_128]; exact Nat.mul_mod_left _ _) (by rw [← pow_128]; exact ha), Nat.add_comm]
theorem add_walk (acc k c q : Nat) (hc : c < 256) (ha : acc < 128 ^ k) (hk : k ≤ 9) (hf : k = 9 → c ≤ 1) (hq : q = 128 ^ k) :
    IntKind.u64.wrap ((acc : Int) + IntKind.u64.wrap ((c : Int) % 128 * (q : Int))) = ((acc + c % 128 * 128 ^ k : Nat) : Int) := by
  subst hq
  have h9 : (128 : Nat) ^ 9 = 9223372036854775808 := by decide
  have hsum : acc + c % 128 * 128 ^ k < 18446744073709551616 := by
    by_cases h : k = 9
    · subst h
      have := hf rfl
      have : c % 128 ≤ 1 := by omega
      have := Nat.mul_le_mul_right (128 ^ 9) this
      omega
    · have h8 : (128 : Nat) ^ k * 128 ≤ 128 ^ 9 := by
        rw [← Nat.pow_succ]; exact Nat.pow_le_pow_right (by decide) (by omega)
      have h2 : c % 128 ≤ 127 := by omega
      have := Nat.mul_le_mul_right (128 ^ k) h2
      omega
  have h4 : ((c : Int) % 128 * ((128 ^ k : Nat) : Int)) = ((c % 128 * 128 ^ k : Nat) : Int) := by
    rw [Int.natCast_mul]; rfl
  rw [h4]
  generalize c % 128 * 128 ^ k = p at hsum ⊢
  have h5 : IntKind.u64.wrap (p : Int) = (p : Int) := by rw [IntKind.wrap_u64]; omega
  rw [h5, IntKind.wrap_u64]
  omega
theorem takeF_end (k acc : Nat) : takeF k acc [] = (0, 0, 1) := by simp [takeF]
theorem takeF_bad {k acc : Nat} {b : UInt8} {r : List UInt8} (h : (0 < k ∧ b.toNat = 0) ∨ (k = 9 ∧ 1 < b.toNat)) : takeF k acc (b :: r) = (0, 0, 2) := by
  rw [takeF, if_pos h]
theorem takeF_last {k acc : Nat} {b : UInt8} {r : List UInt8} (h : ¬ ((0 < k ∧ b.toNat = 0) ∨ (k = 9 ∧ 1 < b.toNat))) (hb : b.toNat < 128) : takeF k acc (b :: r) = (acc + b.toNat % 128 * 128 ^ k, k + 1, 0) := by
  rw [takeF, if_neg h, if_pos hb]
theorem takeF_more {k acc : Nat} {b : UInt8} {r : List UInt8} (h : ¬ ((0 < k ∧ b.toNat = 0) ∨ (k = 9 ∧ 1 < b.toNat))) (hb : ¬ b.toNat < 128) : takeF k acc (b :: r) = takeF (k + 1) (acc + b.toNat % 128 * 128 ^ k) r := by
  rw [takeF, if_neg h, if_neg hb]
theorem acc_lt {acc k c : Nat} (ha : acc < 128 ^ k) : acc + c % 128 * 128 ^ k < 128 ^ (k + 1) := by
  rw [Nat.pow_succ]
  have h2 : c % 128 ≤ 127 := by omega
  have := Nat.mul_le_mul_right (128 ^ k) h2
  omega
theorem takeF_ok (l : List UInt8) : ∀ k acc, k ≤ 9 → acc < 128 ^ k → (takeF k acc l).2.2 ≤ 2 ∧ ((takeF k acc l).2.2 = 0 → (takeF k acc l).2.1 ≤ k + l.length ∧ k < (takeF k acc l).2.1) ∧ (takeF k acc l).1 < 18446744073709551616 ∧ ((takeF k acc l).2.2 ≠ 0 → (takeF k acc l).1 = 0) := by
  induction l with
  | nil => intro k acc _ _; rw [takeF_end]; simp
  | cons b r ih =>
    intro k acc hk ha
    have hb := byte_lt b
    by_cases h : (0 < k ∧ b.toNat = 0) ∨ (k = 9 ∧ 1 < b.toNat)
    · rw [takeF_bad h]; simp
    · have h9 : (128 : Nat) ^ 9 = 9223372036854775808 := by decide
      by_cases h2 : b.toNat < 128
      · rw [takeF_last h h2]
        refine ⟨by simp, fun _ => by simp, ?_, by simp⟩
        show acc + b.toNat % 128 * 128 ^ k < _
        by_cases hk9 : k = 9
        · subst hk9
          have : b.toNat % 128 ≤ 1 := by omega
          have := Nat.mul_le_mul_right (128 ^ 9) this
          omega
        · have h3 := @acc_lt acc k b.toNat ha
          have : (128 : Nat) ^ (k + 1) ≤ 128 ^ 9 := Nat.pow_le_pow_right (by decide) (by omega)
          omega
      · rw [takeF_more h h2]
        have := ih (k + 1) _ (by omega) (@acc_lt acc k b.toNat ha)
        refine ⟨this.1, fun h0 => ?_, this.2.2⟩
        have := this.2.1 h0
        simp only [List.length_cons]
        omega
theorem numT_err (l : List UInt8) : (numT l).2.2 ≤ 2 := (takeF_ok l 0 0 (by decide) (by decide)).1
theorem numT_size (l : List UInt8) (h : (numT l).2.2 = 0) : (numT l).2.1 ≤ l.length := by
  have := ((takeF_ok l 0 0 (by decide) (by decide)).2.1 h).1; unfold numT; omega
theorem numT_lt (l : List UInt8) : (numT l).1 < 18446744073709551616 := (takeF_ok l 0 0 (by decide) (by decide)).2.2.1
theorem drop_at (s : ByteArray) (k : Nat) (h : k < s.size) : s.data.toList.drop k = s[k] :: s.data.toList.drop (k + 1) := by
  rw [List.drop_eq_getElem_cons (by simpa using h)]; rfl
theorem and1_walk (n : Nat) (h : n < 18446744073709551616) : bits .and .u64 (n : Int) 1 = ((n % 2 : Nat) : Int) := by
  have := u64_and_nat n 1 h (by decide)
  rw [nat_mask1] at this
  exact this
/-! ### A number's bytes -/
def numF : Nat → Nat → List UInt8
  | 0, n => [byteOf n]
  | f + 1, n => if n < 128 then [byteOf n] else byteOf (n % 128 + 128) :: numF f (n / 128)
/-- The bytes of a number: seven bits in each, the lowest first. -/
def numB (n : Nat) : List UInt8 := numF n n
theorem numF_any (f : Nat) : ∀ g n, n ≤ f → n ≤ g → numF f n = numF g n := by
  induction f with
  | zero =>
    intro g n h1 h2
    obtain rfl : n = 0 := by omega
    cases g with
    | zero => rfl
    | succ g => rw [numF, numF, if_pos (by omega)]
  | succ f ih =>
    intro g n h1 h2
    cases g with
    | zero =>
      obtain rfl : n = 0 := by omega
      rw [numF, numF, if_pos (by omega)]
    | succ g =>
      rw [numF, numF]
      by_cases h : n < 128
      · rw [if_pos h, if_pos h]
      · rw [if_neg h, if_neg h, ih g (n / 128) (by omega) (by omega)]
theorem numB_lt {n : Nat} (h : n < 128) : numB n = [byteOf n] := by
  unfold numB
  cases n with
  | zero => rfl
  | succ n => rw [numF, if_pos h]
theorem numB_ge {n : Nat} (h : 128 ≤ n) : numB n = byteOf (n % 128 + 128) :: numB (n / 128) := by
  unfold numB
  cases n with
  | zero => omega
  | succ n => rw [numF, if_neg (by omega), numF_any n ((n + 1) / 128) _ (by omega) (by omega)]
theorem numB_len (k : Nat) : ∀ n, n < 128 ^ (k + 1) → (numB n).length ≤ k + 1 := by
  induction k with
  | zero => intro n h; rw [numB_lt (by simpa using h)]; simp
  | succ k ih =>
    intro n h
    by_cases h1 : n < 128
    · rw [numB_lt h1]; simp
    · rw [numB_ge (by omega), List.length_cons]
      have : n / 128 < 128 ^ (k + 1) := by rw [Nat.div_lt_iff_lt_mul (by decide), ← Nat.pow_succ]; exact h
      have := ih _ this
      omega
theorem numB_ten {n : Nat} (h : n < 18446744073709551616) : (numB n).length ≤ 10 :=
  numB_len 9 n (by have : (128 : Nat) ^ 10 = 1180591620717411303424 := by decide
                   omega)
theorem or128_nat (x : Nat) (h : x < 256) : x ||| 128 = x % 128 + 128 := by
  have key : ∀ y : Fin 256, y.val ||| 128 = y.val % 128 + 128 := by decide +kernel
  exact key ⟨x, h⟩
theorem or128_walk (n : Nat) : bits .or .u8 (IntKind.u8.wrap (n : Int)) 128 = (((byteOf (n % 128 + 128)).toNat : Nat) : Int) := by
  rw [byteOf_toNat (by omega)]
  have h1 : IntKind.u8.wrap (n : Int) = ((n % 256 : Nat) : Int) := by rw [IntKind.wrap_u8']; omega
  rw [h1]
  have := u8_or_nat (n % 256) 128 (by omega) (by decide)
  rw [or128_nat _ (by omega)] at this
  have e : n % 256 % 128 = n % 128 := by omega
  rw [e] at this
  exact this
def numsB (ns : List Nat) : List UInt8 := (ns.map numB).flatten
theorem numsB_snoc (ns : List Nat) (k : Nat) (h : k < ns.length) : numsB (ns.take (k + 1)) = numsB (ns.take k) ++ numB ns[k] := by
  unfold numsB; rw [List.take_succ_eq_append_getElem h, List.map_append, List.flatten_append]; simp
theorem numsB_len (ns : List Nat) (h : ∀ n ∈ ns, n < 18446744073709551616) : (numsB ns).length ≤ 10 * ns.length := by
  induction ns with
  | nil => simp [numsB]
  | cons n ns ih =>
    have h1 := numB_ten (h n (by simp))
    have h2 := ih (fun m hm => h m (by simp [hm]))
    simp only [numsB, List.map_cons, List.flatten_cons, List.length_append, List.length_cons] at h2 ⊢
    omega
theorem or128_walk' (n : Nat) : bits .or .u8 ((n : Int) % 256) 128 = (((byteOf (n % 128 + 128)).toNat : Nat) : Int) := by
  rw [← or128_walk, IntKind.wrap_u8']
theorem low_walk (n : Nat) (h : n < 128) : ((n : Int) % 256) = (((byteOf n).toNat : Nat) : Int) := by
  rw [byteOf_toNat (by omega)]; omega
/-- The number that says a whole number. -/
def zig (n : Int) : Nat := if n < 0 then (-2 * n - 1).toNat else (2 * n).toNat
theorem zig_lt {n : Int} (h1 : -9223372036854775808 ≤ n) (h2 : n ≤ 9223372036854775807) : zig n < 18446744073709551616 := by
  unfold zig; split <;> omega
theorem xor_ones64 (x : Nat) (h : x < 18446744073709551616) : 18446744073709551615 ^^^ x = 18446744073709551615 - x := by
  have h1 : (BitVec.allOnes 64 ^^^ BitVec.ofNat 64 x).toNat = (~~~ (BitVec.ofNat 64 x)).toNat := by rw [BitVec.allOnes_xor]
  rw [BitVec.toNat_xor, BitVec.toNat_not, BitVec.toNat_allOnes, BitVec.toNat_ofNat] at h1
  have h2 : x % 2 ^ 64 = x := Nat.mod_eq_of_lt (by omega)
  rw [h2] at h1
  exact h1
theorem not_walk64 (x : Nat) (h : x < 18446744073709551616) : bits .xor .u64 IntKind.u64.max (x : Int) = ((18446744073709551615 - x : Nat) : Int) := by
  have e : IntKind.u64.max = ((18446744073709551615 : Nat) : Int) := by decide
  rw [e, u64_xor_nat _ _ (by decide) h, xor_ones64 x h]
theorem zig_neg_walk (n : Int) (h : n < 0) (h1 : -9223372036854775808 ≤ n) : bits .xor .u64 IntKind.u64.max (IntKind.u64.wrap (IntKind.u64.wrap n * 2)) = (zig n : Int) := by
  have e1 : IntKind.u64.wrap (IntKind.u64.wrap n * 2) = (((2 * n + 18446744073709551616).toNat : Nat) : Int) := by
    simp only [IntKind.wrap_u64]; omega
  rw [e1, not_walk64 _ (by omega), zig, if_pos h]
  omega
end Go.Proofs.Ytpilkaggiajjmaa
