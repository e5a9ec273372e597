/-
  The numbers of a dice, and the upper half of a product: plain mathematics (no program in it).
-/
import Derived.Test.YtmghhigepjeicaaMath
namespace Go.Proofs.Ytmghhigepjeicaa

/-- Where a dice goes on to. -/
def goOn (s : Nat) : Nat := (s + 11400714819323198485) % 18446744073709551616
def mulX (x d c : Nat) : Nat := ((x ^^^ (x / d)) * c) % 18446744073709551616
/-- The number of a state. -/
def mixN (x : Nat) : Nat :=
  mulX (mulX x 1073741824 13787848793156543929) 134217728 10723151780598845931 ^^^ (mulX (mulX x 1073741824 13787848793156543929) 134217728 10723151780598845931 / 2147483648)
/-- The upper half of a product. -/
def highN (a b : Nat) : Nat := a * b / 18446744073709551616
theorem goOn_lt (s : Nat) : goOn s < 18446744073709551616 := Nat.mod_lt _ (by decide)
theorem mulX_lt (x d c : Nat) : mulX x d c < 18446744073709551616 := Nat.mod_lt _ (by decide)
theorem mixN_lt (x : Nat) : mixN x < 18446744073709551616 := by
  unfold mixN
  have h := mulX_lt (mulX x 1073741824 13787848793156543929) 134217728 10723151780598845931
  generalize mulX (mulX x 1073741824 13787848793156543929) 134217728 10723151780598845931 = z at h
  exact xor_lt64 h (by omega)
theorem highN_lt {a n : Nat} (ha : a < 18446744073709551616) (hn : 0 < n) : highN a n < n := by
  unfold highN
  rw [Nat.div_lt_iff_lt_mul (by decide), Nat.mul_comm n]
  exact Nat.mul_lt_mul_of_pos_right ha hn
theorem highN_half (a n : Nat) : highN a (2 * n) / 2 = highN a n := by
  unfold highN
  rw [Nat.div_div_eq_div_mul, Nat.mul_left_comm, Nat.mul_comm 2, Nat.mul_div_mul_right _ _ (by decide)]
/-- A product of numbers of 32 bits. -/
theorem mul32_le {a b : Nat} (ha : a < 4294967296) (hb : b < 4294967296) : a * b ≤ 18446744065119617025 := by
  have h1 : a * b ≤ 4294967295 * 4294967295 := Nat.mul_le_mul (by omega) (by omega)
  omega
/-- The product, of its halves' products. -/
theorem mul_halves (a b : Nat) : a * b = (a / 4294967296) * (b / 4294967296) * 18446744073709551616 + ((a / 4294967296) * (b % 4294967296) + (a % 4294967296) * (b / 4294967296)) * 4294967296 + (a % 4294967296) * (b % 4294967296) := by
  have ha : a = (a / 4294967296) * 4294967296 + a % 4294967296 := by omega
  have hb : b = (b / 4294967296) * 4294967296 + b % 4294967296 := by omega
  generalize a / 4294967296 = a1 at ha ⊢
  generalize a % 4294967296 = a0 at ha ⊢
  generalize b / 4294967296 = b1 at hb ⊢
  generalize b % 4294967296 = b0 at hb ⊢
  subst ha; subst hb
  simp only [Nat.add_mul, Nat.mul_add]
  have e1 : a1 * 4294967296 * (b1 * 4294967296) = a1 * b1 * 18446744073709551616 := by
    rw [Nat.mul_mul_mul_comm]
  have e2 : a1 * 4294967296 * b0 = a1 * b0 * 4294967296 := by rw [Nat.mul_right_comm]
  have e3 : a0 * (b1 * 4294967296) = a0 * b1 * 4294967296 := by rw [Nat.mul_assoc]
  rw [e1, e2, e3]
  omega
/-- The document's way to the upper half. -/
theorem high_doc (a b : Nat) : (a / 4294967296) * (b / 4294967296) + ((a / 4294967296) * (b % 4294967296)) / 4294967296 + ((a % 4294967296) * (b / 4294967296)) / 4294967296
    + (((a % 4294967296) * (b % 4294967296)) / 4294967296 + ((a / 4294967296) * (b % 4294967296)) % 4294967296 + ((a % 4294967296) * (b / 4294967296)) % 4294967296) / 4294967296 = highN a b := by
  unfold highN
  rw [mul_halves a b]
  generalize (a / 4294967296) * (b / 4294967296) = S
  generalize (a / 4294967296) * (b % 4294967296) = Q
  generalize (a % 4294967296) * (b / 4294967296) = R
  generalize (a % 4294967296) * (b % 4294967296) = P
  omega
/-- The program's way to it. -/
theorem high_code (a b : Nat) : (a / 4294967296) * (b / 4294967296) + ((a / 4294967296) * (b % 4294967296) + ((a % 4294967296) * (b % 4294967296)) / 4294967296) / 4294967296
    + (((a / 4294967296) * (b % 4294967296) + ((a % 4294967296) * (b % 4294967296)) / 4294967296) % 4294967296 + (a % 4294967296) * (b / 4294967296)) / 4294967296 = highN a b := by
  unfold highN
  rw [mul_halves a b]
  generalize (a / 4294967296) * (b / 4294967296) = S
  generalize (a / 4294967296) * (b % 4294967296) = Q
  generalize (a % 4294967296) * (b / 4294967296) = R
  generalize (a % 4294967296) * (b % 4294967296) = P
  omega
/-- A seed of parts. -/
def seedP (s p : Nat) : Nat := mixN (goOn (s ^^^ p))
def seedN (l : List Nat) : Nat := List.foldl seedP 0 l
theorem seedN_nil : seedN [] = 0 := rfl
theorem seedN_snoc (l : List Nat) (k : Nat) (h : k < l.length) : seedN (l.take (k + 1)) = mixN (goOn (seedN (l.take k) ^^^ l[k])) := by
  rw [List.take_succ_eq_append_getElem h]
  exact fold_snoc seedP 0 (l.take k) l[k]
theorem seedP_lt (s p : Nat) : seedP s p < 18446744073709551616 := mixN_lt _
theorem fold_lt {f : Nat → Nat → Nat} {B : Nat} (hf : ∀ s p, f s p < B) (l : List Nat) (x : Nat) (hx : x < B) : List.foldl f x l < B := by
  induction l generalizing x with
  | nil => exact hx
  | cons a l ih => exact ih _ (hf _ _)
theorem seedN_lt (l : List Nat) : seedN l < 18446744073709551616 := fold_lt seedP_lt l 0 (by decide)
/-! ### In the walk's own spelling -/
theorem w64 (n : Nat) : IntKind.u64.wrap (n : Int) = ((n % 18446744073709551616 : Nat) : Int) := by
  rw [IntKind.wrap_u64]; omega
theorem mulX_walk (x d c : Nat) (h : x < 18446744073709551616) : IntKind.u64.wrap (bits .xor .u64 (x : Int) ((x : Int) / (d : Int)) * (c : Int)) = ((mulX x d c : Nat) : Int) := by
  have e : (x : Int) / (d : Int) = ((x / d : Nat) : Int) := rfl
  have hd : x / d ≤ x := Nat.div_le_self _ _
  rw [e, u64_xor_nat _ _ h (by omega), ← Int.natCast_mul, w64]
  rfl
theorem mixN_walk (x : Nat) (h : x < 18446744073709551616) : bits .xor .u64 (IntKind.u64.wrap (bits .xor .u64 (IntKind.u64.wrap (bits .xor .u64 (x : Int) ((x : Int) / 1073741824) * 13787848793156543929)) (IntKind.u64.wrap (bits .xor .u64 (x : Int) ((x : Int) / 1073741824) * 13787848793156543929) / 134217728) * 10723151780598845931))
    (IntKind.u64.wrap (bits .xor .u64 (IntKind.u64.wrap (bits .xor .u64 (x : Int) ((x : Int) / 1073741824) * 13787848793156543929)) (IntKind.u64.wrap (bits .xor .u64 (x : Int) ((x : Int) / 1073741824) * 13787848793156543929) / 134217728) * 10723151780598845931) / 2147483648) = ((mixN x : Nat) : Int) := by
  have e1 : IntKind.u64.wrap (bits .xor .u64 (x : Int) ((x : Int) / 1073741824) * 13787848793156543929) = ((mulX x 1073741824 13787848793156543929 : Nat) : Int) := mulX_walk x 1073741824 13787848793156543929 h
  rw [e1]
  have h1 := mulX_lt x 1073741824 13787848793156543929
  unfold mixN
  generalize mulX x 1073741824 13787848793156543929 = y at h1
  have e2 : IntKind.u64.wrap (bits .xor .u64 (y : Int) ((y : Int) / 134217728) * 10723151780598845931) = ((mulX y 134217728 10723151780598845931 : Nat) : Int) := mulX_walk y 134217728 10723151780598845931 h1
  rw [e2]
  have h2 := mulX_lt y 134217728 10723151780598845931
  generalize mulX y 134217728 10723151780598845931 = z at h2
  have e3 : ((z : Int) / 2147483648) = ((z / 2147483648 : Nat) : Int) := rfl
  rw [e3, u64_xor_nat _ _ h2 (by omega)]
theorem goOn_walk (s : Nat) : IntKind.u64.wrap ((s : Int) + 11400714819323198485) = ((goOn s : Nat) : Int) := by
  have e : (s : Int) + 11400714819323198485 = ((s + 11400714819323198485 : Nat) : Int) := rfl
  rw [e, w64]; rfl
theorem tdiv_walk (x : Nat) (d : Nat) (h : x < 18446744073709551616) : IntKind.u64.wrap ((x : Int).tdiv (d : Int)) = ((x : Int) / (d : Int)) := by
  have e : (x : Int).tdiv (d : Int) = ((x / d : Nat) : Int) := rfl
  have hd : x / d ≤ x := Nat.div_le_self _ _
  rw [e, w64, Nat.mod_eq_of_lt (by omega)]; rfl
/-- The document's number. -/
theorem mixD_walk (x : Nat) (h : x < 18446744073709551616) : bits .xor .u64 (IntKind.u64.wrap (bits .xor .u64 (IntKind.u64.wrap (bits .xor .u64 (x : Int) (IntKind.u64.wrap ((x : Int).tdiv 1073741824)) * 13787848793156543929)) (IntKind.u64.wrap ((IntKind.u64.wrap (bits .xor .u64 (x : Int) (IntKind.u64.wrap ((x : Int).tdiv 1073741824)) * 13787848793156543929)).tdiv 134217728)) * 10723151780598845931))
    (IntKind.u64.wrap ((IntKind.u64.wrap (bits .xor .u64 (IntKind.u64.wrap (bits .xor .u64 (x : Int) (IntKind.u64.wrap ((x : Int).tdiv 1073741824)) * 13787848793156543929)) (IntKind.u64.wrap ((IntKind.u64.wrap (bits .xor .u64 (x : Int) (IntKind.u64.wrap ((x : Int).tdiv 1073741824)) * 13787848793156543929)).tdiv 134217728)) * 10723151780598845931)).tdiv 2147483648)) = ((mixN x : Nat) : Int) := by
  have d1 : IntKind.u64.wrap ((x : Int).tdiv 1073741824) = (x : Int) / 1073741824 := tdiv_walk x 1073741824 h
  have e1 : IntKind.u64.wrap (bits .xor .u64 (x : Int) ((x : Int) / 1073741824) * 13787848793156543929) = ((mulX x 1073741824 13787848793156543929 : Nat) : Int) := mulX_walk x 1073741824 13787848793156543929 h
  rw [d1, e1]
  have h1 := mulX_lt x 1073741824 13787848793156543929
  unfold mixN
  generalize mulX x 1073741824 13787848793156543929 = y at h1
  have d2 : IntKind.u64.wrap ((y : Int).tdiv 134217728) = (y : Int) / 134217728 := tdiv_walk y 134217728 h1
  have e2 : IntKind.u64.wrap (bits .xor .u64 (y : Int) ((y : Int) / 134217728) * 10723151780598845931) = ((mulX y 134217728 10723151780598845931 : Nat) : Int) := mulX_walk y 134217728 10723151780598845931 h1
  rw [d2, e2]
  have h2 := mulX_lt y 134217728 10723151780598845931
  generalize mulX y 134217728 10723151780598845931 = z at h2
  have d3 : IntKind.u64.wrap ((z : Int).tdiv 2147483648) = (z : Int) / 2147483648 := tdiv_walk z 2147483648 h2
  have e3 : ((z : Int) / 2147483648) = ((z / 2147483648 : Nat) : Int) := rfl
  rw [d3, e3, u64_xor_nat _ _ h2 (by omega)]
theorem and32 (a : Nat) (h : a < 18446744073709551616) : bits .and .u64 (a : Int) 4294967295 = ((a % 4294967296 : Nat) : Int) := by
  have := u64_and_nat a 4294967295 h (by decide)
  rw [nat_mask32] at this
  exact this
theorem div32 (a : Nat) : (a : Int) / 4294967296 = ((a / 4294967296 : Nat) : Int) := rfl
theorem w64_lt {n : Nat} (h : n < 18446744073709551616) : IntKind.u64.wrap (n : Int) = (n : Int) := by rw [w64, Nat.mod_eq_of_lt h]
/-- The upper half, as the program reckons it. -/
theorem high_walk (a b : Nat) (ha : a < 18446744073709551616) (hb : b < 18446744073709551616) :
    IntKind.u64.wrap (IntKind.u64.wrap (IntKind.u64.wrap ((a : Int) / 4294967296 * ((b : Int) / 4294967296)) + IntKind.u64.wrap (IntKind.u64.wrap ((a : Int) / 4294967296 * bits .and .u64 (b : Int) 4294967295) + IntKind.u64.wrap (bits .and .u64 (a : Int) 4294967295 * bits .and .u64 (b : Int) 4294967295) / 4294967296) / 4294967296) +
      IntKind.u64.wrap (bits .and .u64 (IntKind.u64.wrap (IntKind.u64.wrap ((a : Int) / 4294967296 * bits .and .u64 (b : Int) 4294967295) + IntKind.u64.wrap (bits .and .u64 (a : Int) 4294967295 * bits .and .u64 (b : Int) 4294967295) / 4294967296)) 4294967295 + IntKind.u64.wrap (bits .and .u64 (a : Int) 4294967295 * ((b : Int) / 4294967296))) / 4294967296) = ((highN a b : Nat) : Int) := by
  have e := high_code a b
  have l1 := mul32_le (a := a / 4294967296) (b := b / 4294967296) (by omega) (by omega)
  have l2 := mul32_le (a := a / 4294967296) (b := b % 4294967296) (by omega) (by omega)
  have l3 := mul32_le (a := a % 4294967296) (b := b / 4294967296) (by omega) (by omega)
  have l4 := mul32_le (a := a % 4294967296) (b := b % 4294967296) (by omega) (by omega)
  rw [and32 a ha, and32 b hb, div32, div32, ← Int.natCast_mul, ← Int.natCast_mul, ← Int.natCast_mul, ← Int.natCast_mul]
  rw [← e]
  generalize (a / 4294967296) * (b / 4294967296) = S at *
  generalize (a / 4294967296) * (b % 4294967296) = Q at *
  generalize (a % 4294967296) * (b / 4294967296) = R at *
  generalize (a % 4294967296) * (b % 4294967296) = P at *
  rw [w64_lt (n := S) (by omega), w64_lt (n := Q) (by omega), w64_lt (n := R) (by omega), w64_lt (n := P) (by omega), div32, ← Int.natCast_add, w64_lt (n := Q + P / 4294967296) (by omega), and32 _ (by omega), div32, ← Int.natCast_add, ← Int.natCast_add, w64_lt (n := S + (Q + P / 4294967296) / 4294967296) (by omega), w64_lt (n := (Q + P / 4294967296) % 4294967296 + R) (by omega), div32, ← Int.natCast_add, w64_lt (by omega)]
theorem mod32 (a : Nat) : (a : Int) % 4294967296 = ((a % 4294967296 : Nat) : Int) := rfl
theorem tdiv32 (a : Nat) : (a : Int).tdiv 4294967296 = ((a / 4294967296 : Nat) : Int) := rfl
theorem tmod32 (a : Nat) : (a : Int).tmod 4294967296 = ((a % 4294967296 : Nat) : Int) := rfl
/-- The upper half, as the document reckons it. -/
theorem highD_walk (a b : Nat) (ha : a < 18446744073709551616) (hb : b < 18446744073709551616) :
    IntKind.u64.wrap (IntKind.u64.wrap (IntKind.u64.wrap (IntKind.u64.wrap ((a : Int) / 4294967296 * ((b : Int) / 4294967296)) + IntKind.u64.wrap ((IntKind.u64.wrap ((a : Int) / 4294967296 * ((b : Int) % 4294967296))).tdiv 4294967296)) + IntKind.u64.wrap ((IntKind.u64.wrap ((a : Int) % 4294967296 * ((b : Int) / 4294967296))).tdiv 4294967296)) +
      IntKind.u64.wrap ((IntKind.u64.wrap (IntKind.u64.wrap (IntKind.u64.wrap ((IntKind.u64.wrap ((a : Int) % 4294967296 * ((b : Int) % 4294967296))).tdiv 4294967296) + (IntKind.u64.wrap ((a : Int) / 4294967296 * ((b : Int) % 4294967296))).tmod 4294967296) + (IntKind.u64.wrap ((a : Int) % 4294967296 * ((b : Int) / 4294967296))).tmod 4294967296)).tdiv 4294967296)) = ((highN a b : Nat) : Int) := by
  have e := high_doc a b
  have l1 := mul32_le (a := a / 4294967296) (b := b / 4294967296) (by omega) (by omega)
  have l2 := mul32_le (a := a / 4294967296) (b := b % 4294967296) (by omega) (by omega)
  have l3 := mul32_le (a := a % 4294967296) (b := b / 4294967296) (by omega) (by omega)
  have l4 := mul32_le (a := a % 4294967296) (b := b % 4294967296) (by omega) (by omega)
  rw [div32, div32, mod32, mod32, ← Int.natCast_mul, ← Int.natCast_mul, ← Int.natCast_mul, ← Int.natCast_mul]
  rw [← e]
  generalize (a / 4294967296) * (b / 4294967296) = S at *
  generalize (a / 4294967296) * (b % 4294967296) = Q at *
  generalize (a % 4294967296) * (b / 4294967296) = R at *
  generalize (a % 4294967296) * (b % 4294967296) = P at *
  rw [w64_lt (n := S) (by omega), w64_lt (n := Q) (by omega), w64_lt (n := R) (by omega), w64_lt (n := P) (by omega), tdiv32 Q, tdiv32 R, tdiv32 P, tmod32 Q, tmod32 R, w64_lt (n := Q / 4294967296) (by omega), w64_lt (n := R / 4294967296) (by omega), w64_lt (n := P / 4294967296) (by omega)]
  rw [← Int.natCast_add, ← Int.natCast_add, w64_lt (n := S + Q / 4294967296) (by omega), w64_lt (n := P / 4294967296 + Q % 4294967296) (by omega), ← Int.natCast_add, ← Int.natCast_add, w64_lt (n := S + Q / 4294967296 + R / 4294967296) (by omega), w64_lt (n := P / 4294967296 + Q % 4294967296 + R % 4294967296) (by omega), tdiv32, w64_lt (n := (P / 4294967296 + Q % 4294967296 + R % 4294967296) / 4294967296) (by omega), ← Int.natCast_add, w64_lt (by omega)]
end Go.Proofs.Ytmghhigepjeicaa
