/-
  Plain mathematics of the two sums (no program in it): one step, one byte, a text, a list of texts; the document's bit by bit way comes to the same; unlike in one byte alone, unlike sums.
-/
import Derived.Laws.BitsAllLaws
import Derived.Laws.Bits64
namespace Go.Proofs.Ytpilkaggiajjmaa

def stepC (x : Nat) : Nat := (x / 2) ^^^ (3988292384 * (x % 2))
def iterC : Nat → Nat → Nat
  | 0, x => x
  | k + 1, x => stepC (iterC k x)
def crcB (x : Nat) (b : UInt8) : Nat := iterC 8 (x ^^^ b.toNat)
def crcS (x : Nat) (l : List UInt8) : Nat := l.foldl crcB x
def crcL (x : Nat) (ss : List (List UInt8)) : Nat := ss.foldl crcS x
def fnvB (x : Nat) (b : UInt8) : Nat := ((x ^^^ b.toNat) * 1099511628211) % 18446744073709551616
def fnvS (x : Nat) (l : List UInt8) : Nat := l.foldl fnvB x
def fnvL (x : Nat) (ss : List (List UInt8)) : Nat := ss.foldl fnvS x
/-- The sum of 32 bits that is told, of bytes behind a told sum. -/
def moreS (sum : Nat) (ss : List (List UInt8)) : Nat := 4294967295 - crcL (4294967295 - sum) ss

theorem xor_lt32 {a b : Nat} (ha : a < 4294967296) (hb : b < 4294967296) : a ^^^ b < 4294967296 := by
  have := @Nat.xor_lt_two_pow a b 32 (by omega) (by omega); omega
theorem xor_lt64 {a b : Nat} (ha : a < 18446744073709551616) (hb : b < 18446744073709551616) : a ^^^ b < 18446744073709551616 := by
  have := @Nat.xor_lt_two_pow a b 64 (by omega) (by omega); omega
theorem stepC_lt {x : Nat} (h : x < 4294967296) : stepC x < 4294967296 := by
  unfold stepC; exact xor_lt32 (by omega) (by omega)
theorem iterC_lt (k : Nat) {x : Nat} (h : x < 4294967296) : iterC k x < 4294967296 := by
  induction k with
  | zero => exact h
  | succ k ih => exact stepC_lt ih
theorem byte_lt (b : UInt8) : b.toNat < 256 := b.toNat_lt
theorem crcB_lt {x : Nat} (b : UInt8) (h : x < 4294967296) : crcB x b < 4294967296 :=
  iterC_lt 8 (xor_lt32 h (by have := byte_lt b; omega))
theorem crcS_lt (l : List UInt8) {x : Nat} (h : x < 4294967296) : crcS x l < 4294967296 := by
  induction l generalizing x with
  | nil => exact h
  | cons b l ih => exact ih (crcB_lt b h)
theorem crcL_lt (ss : List (List UInt8)) {x : Nat} (h : x < 4294967296) : crcL x ss < 4294967296 := by
  induction ss generalizing x with
  | nil => exact h
  | cons b l ih => exact ih (crcS_lt b h)
theorem fnvB_lt (x : Nat) (b : UInt8) : fnvB x b < 18446744073709551616 := Nat.mod_lt _ (by decide)
theorem fnvS_lt (l : List UInt8) {x : Nat} (h : x < 18446744073709551616) : fnvS x l < 18446744073709551616 := by
  induction l generalizing x with
  | nil => exact h
  | cons b l ih => exact ih (fnvB_lt x b)
theorem fnvL_lt (ss : List (List UInt8)) {x : Nat} (h : x < 18446744073709551616) : fnvL x ss < 18446744073709551616 := by
  induction ss generalizing x with
  | nil => exact h
  | cons b l ih => exact ih (fnvS_lt b h)
theorem fold_snoc {A B : Type} (f : A → B → A) (x : A) (l : List B) (b : B) : List.foldl f x (l ++ [b]) = f (List.foldl f x l) b := by simp
theorem fold_append {A B : Type} (f : A → B → A) (x : A) (l m : List B) : List.foldl f x (l ++ m) = List.foldl f (List.foldl f x l) m := by simp
theorem crcS_snoc (x : Nat) (l : List UInt8) (b : UInt8) : crcS x (l ++ [b]) = crcB (crcS x l) b := fold_snoc crcB x l b
theorem fnvS_snoc (x : Nat) (l : List UInt8) (b : UInt8) : fnvS x (l ++ [b]) = fnvB (fnvS x l) b := fold_snoc fnvB x l b
theorem crcL_snoc (x : Nat) (l : List (List UInt8)) (b : List UInt8) : crcL x (l ++ [b]) = crcS (crcL x l) b := fold_snoc crcS x l b
theorem fnvL_snoc (x : Nat) (l : List (List UInt8)) (b : List UInt8) : fnvL x (l ++ [b]) = fnvS (fnvL x l) b := fold_snoc fnvS x l b
theorem crcS_append (x : Nat) (l m : List UInt8) : crcS x (l ++ m) = crcS (crcS x l) m := fold_append crcB x l m
theorem fnvS_append (x : Nat) (l m : List UInt8) : fnvS x (l ++ m) = fnvS (fnvS x l) m := fold_append fnvB x l m
theorem crcL_flat (x : Nat) (ss : List (List UInt8)) : crcL x ss = crcS x ss.flatten := by
  induction ss generalizing x with
  | nil => rfl
  | cons s ss ih => simp only [List.flatten_cons, crcS_append]; exact ih _
theorem fnvL_flat (x : Nat) (ss : List (List UInt8)) : fnvL x ss = fnvS x ss.flatten := by
  induction ss generalizing x with
  | nil => rfl
  | cons s ss ih => simp only [List.flatten_cons, fnvS_append]; exact ih _

/-- One step of the document's way, on the sum and the byte's bits apart. -/
theorem stepC_apart (s c : Nat) : stepC (s ^^^ c) = (if (s + c) % 2 = 1 then (s / 2) ^^^ 3988292384 else s / 2) ^^^ (c / 2) := by
  have h1 : (s ^^^ c) / 2 = (s / 2) ^^^ (c / 2) := Nat.xor_div_two
  have h2 : (s ^^^ c) % 2 = (s + c) % 2 := by
    have h := @Nat.xor_mod_two_pow s c 1
    simp only [Nat.pow_one] at h
    rw [h]
    rcases Nat.mod_two_eq_zero_or_one s with hs | hs <;> rcases Nat.mod_two_eq_zero_or_one c with hc | hc <;> rw [hs, hc]
    · show 0 = _; omega
    · show 1 = _; omega
    · show 1 = _; omega
    · show 0 = _; omega
  unfold stepC
  rw [h1, h2]
  by_cases h : (s + c) % 2 = 1
  · rw [if_pos h, h, Nat.mul_one, Nat.xor_assoc, Nat.xor_comm (c / 2), ← Nat.xor_assoc]
  · have h0 : (s + c) % 2 = 0 := by omega
    rw [if_neg h, h0, Nat.mul_zero, Nat.xor_zero]

theorem ref_odd {y d j z : Nat} (h : (y + d) % 2 = 1) (H : y ^^^ d = iterC j z) : ((y / 2) ^^^ 3988292384) ^^^ (d / 2) = iterC (j + 1) z := by
  show _ = stepC (iterC j z)
  rw [← H, stepC_apart, if_pos h]
theorem ref_even {y d j z : Nat} (h : ¬ (y + d) % 2 = 1) (H : y ^^^ d = iterC j z) : (y / 2) ^^^ (d / 2) = iterC (j + 1) z := by
  show _ = stepC (iterC j z)
  rw [← H, stepC_apart, if_neg h]
theorem half_pow {d b j : Nat} (h : d = b / 2 ^ j) : d / 2 = b / 2 ^ (j + 1) := by
  rw [h, Nat.pow_succ, Nat.div_div_eq_div_mul]
theorem ref_odd_val (y : Nat) (h : y < 4294967296) : bits .xor .u32 ((y : Int) / 2) 3988292384 = (((y / 2) ^^^ 3988292384 : Nat) : Int) := by
  have h3 : ((y : Int) / 2) = ((y / 2 : Nat) : Int) := by omega
  rw [h3]
  exact u32_xor_nat _ 3988292384 (by omega) (by decide)
theorem ref_last {y d b x0 : Nat} (hb : b < 256) (h1 : d = b / 2 ^ 8) (h2 : y ^^^ d = iterC 8 (x0 ^^^ b)) : y = iterC 8 (x0 ^^^ b) := by
  have : d = 0 := by rw [h1]; omega
  rw [← h2, this, Nat.xor_zero]

/-- The walk's own spelling of a step of crcByte. -/
theorem stepC_walk (x : Nat) (h : x < 4294967296) : bits .xor .u32 ((x : Int) / 2) (3988292384 * bits .and .u32 (x : Int) 1 % 4294967296) = ((stepC x : Nat) : Int) := by
  have h1 : bits .and .u32 (x : Int) 1 = ((x % 2 : Nat) : Int) := by
    have := u32_and_nat x 1 h (by decide)
    rw [nat_mask1] at this
    exact this
  rw [h1]
  have h2 : (3988292384 * ((x % 2 : Nat) : Int) % 4294967296) = ((3988292384 * (x % 2) : Nat) : Int) := by omega
  have h3 : ((x : Int) / 2) = ((x / 2 : Nat) : Int) := by omega
  rw [h2, h3, u32_xor_nat _ _ (by omega) (by omega)]
  rfl
theorem wrap_u64_byte (b : UInt8) : IntKind.u64.wrap (b.toNat : Int) = (b.toNat : Int) := by
  have hb := byte_lt b
  simp only [IntKind.wrap_u64]; omega
theorem wrap_u32_byte (b : UInt8) : IntKind.u32.wrap (b.toNat : Int) = (b.toNat : Int) := by
  have hb := byte_lt b
  simp only [IntKind.wrap_u32']; omega
theorem fnvB_walk (x : Nat) (b : UInt8) (h : x < 18446744073709551616) : IntKind.u64.wrap (bits .xor .u64 (x : Int) (IntKind.u64.wrap (b.toNat : Int)) * 1099511628211) = ((fnvB x b : Nat) : Int) := by
  have hb := byte_lt b
  rw [wrap_u64_byte, u64_xor_nat _ _ h (by omega), IntKind.wrap_u64]
  unfold fnvB
  omega
theorem xorC_walk (x : Nat) (b : Nat) (h : x < 4294967296) (hb : b < 256) : bits .xor .u32 (x : Int) (b : Int) = ((x ^^^ b : Nat) : Int) :=
  u32_xor_nat _ _ h (by omega)
theorem xor_ones (x : Nat) (h : x < 4294967296) : 4294967295 ^^^ x = 4294967295 - x := by
  have h1 : (BitVec.allOnes 32 ^^^ BitVec.ofNat 32 x).toNat = (~~~ (BitVec.ofNat 32 x)).toNat := by rw [BitVec.allOnes_xor]
  rw [BitVec.toNat_xor, BitVec.toNat_not, BitVec.toNat_allOnes, BitVec.toNat_ofNat] at h1
  have h2 : x % 2 ^ 32 = x := Nat.mod_eq_of_lt (by omega)
  rw [h2] at h1
  exact h1
theorem not_walk (x : Nat) (h : x < 4294967296) : bits .xor .u32 IntKind.u32.max (x : Int) = ((4294967295 - x : Nat) : Int) := by
  have e : IntKind.u32.max = ((4294967295 : Nat) : Int) := by decide
  rw [e, u32_xor_nat _ _ (by decide) h, xor_ones x h]
theorem moreS_lt (x : Nat) (ss : List (List UInt8)) : moreS x ss < 4294967296 := by unfold moreS; omega
theorem moreS_zero (ss : List (List UInt8)) : moreS 0 ss = 4294967295 - crcS 4294967295 ss.flatten := by
  unfold moreS; rw [crcL_flat]
/-! ### Unlike in one byte alone: unlike sums -/
theorem xor_cancel {a b c : Nat} (h : a ^^^ c = b ^^^ c) : a = b := by
  have : (a ^^^ c) ^^^ c = (b ^^^ c) ^^^ c := by rw [h]
  rwa [Nat.xor_assoc, Nat.xor_assoc, Nat.xor_self, Nat.xor_zero, Nat.xor_zero] at this
theorem stepC_top {x : Nat} (h : x < 4294967296) : stepC x / 2 ^ 31 = x % 2 := by
  unfold stepC
  rw [Nat.xor_div_two_pow]
  have h1 : x / 2 / 2 ^ 31 = 0 := by omega
  have h2 : 3988292384 * (x % 2) / 2 ^ 31 = x % 2 := by omega
  rw [h1, h2, Nat.zero_xor]
theorem stepC_inj {x y : Nat} (hx : x < 4294967296) (hy : y < 4294967296) (h : stepC x = stepC y) : x = y := by
  have h1 : x % 2 = y % 2 := by rw [← stepC_top hx, ← stepC_top hy, h]
  unfold stepC at h
  rw [h1] at h
  have h2 := xor_cancel h
  omega
theorem iterC_inj (k : Nat) {x y : Nat} (hx : x < 4294967296) (hy : y < 4294967296) (h : iterC k x = iterC k y) : x = y := by
  induction k with
  | zero => exact h
  | succ k ih => exact ih (stepC_inj (iterC_lt k hx) (iterC_lt k hy) h)
theorem crcB_inj {x y : Nat} (b : UInt8) (hx : x < 4294967296) (hy : y < 4294967296) (h : crcB x b = crcB y b) : x = y := by
  have hb := byte_lt b
  exact xor_cancel (iterC_inj 8 (xor_lt32 hx (by omega)) (xor_lt32 hy (by omega)) h)
theorem crcB_byte {x : Nat} {b c : UInt8} (hx : x < 4294967296) (h : crcB x b = crcB x c) : b = c := by
  have hb := byte_lt b
  have hc := byte_lt c
  have h1 := iterC_inj 8 (xor_lt32 hx (by omega)) (xor_lt32 hx (by omega)) h
  rw [Nat.xor_comm x, Nat.xor_comm x] at h1
  exact UInt8.toNat_inj.1 (xor_cancel h1)
theorem crcS_inj (l : List UInt8) {x y : Nat} (hx : x < 4294967296) (hy : y < 4294967296) (h : crcS x l = crcS y l) : x = y := by
  induction l generalizing x y with
  | nil => exact h
  | cons b l ih => exact crcB_inj b hx hy (ih (crcB_lt b hx) (crcB_lt b hy) h)
theorem crcS_tell (p q : List UInt8) (b c : UInt8) (x : Nat) (hx : x < 4294967296) (h : crcS x (p ++ b :: q) = crcS x (p ++ c :: q)) : b = c := by
  rw [crcS_append, crcS_append] at h
  have hp := crcS_lt p hx
  have h1 : crcS (crcB (crcS x p) b) q = crcS (crcB (crcS x p) c) q := h
  exact crcB_byte hp (crcS_inj q (crcB_lt b hp) (crcB_lt c hp) h1)
/-- A list in which one byte is another one. -/
theorem crcS_set (l : List UInt8) (i : Nat) (hi : i < l.length) (c : UInt8) (hc : c ≠ l[i]) (x : Nat) (hx : x < 4294967296) : crcS x (l.set i c) ≠ crcS x l := by
  intro h
  have e1 : l.set i c = l.take i ++ c :: l.drop (i + 1) := List.set_eq_take_append_cons_drop.trans (by rw [if_pos hi])
  have e2 : l = l.take i ++ l[i] :: l.drop (i + 1) := by rw [← List.drop_eq_getElem_cons hi, List.take_append_drop]
  rw [e1] at h
  generalize hL : l.take i = L at h e2
  generalize hR : l.drop (i + 1) = R at h e2
  have h2 : crcS x (L ++ c :: R) = crcS x (L ++ l[i] :: R) := by rw [h]; exact congrArg (crcS x) e2
  exact hc (crcS_tell L R c l[i] x hx h2)
theorem xor_byte_ne {b c : Nat} (h : c ≠ 0) : b ^^^ c ≠ b := by
  intro h1
  have : c ^^^ b = 0 ^^^ b := by rw [Nat.xor_comm, h1, Nat.zero_xor]
  exact h (xor_cancel this)
theorem xor_lt8 {a b : Nat} (ha : a < 256) (hb : b < 256) : a ^^^ b < 256 := by
  have := @Nat.xor_lt_two_pow a b 8 (by omega) (by omega); omega
end Go.Proofs.Ytpilkaggiajjmaa
