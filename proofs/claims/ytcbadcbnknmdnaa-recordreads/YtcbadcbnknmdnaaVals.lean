/-
  Layer 18 as plain mathematics: who plays as bits of a number and as a list, and what changes do.
-/
import Derived.WalkKit
import Derived.Lib.BitFns
import Derived.Lib.TrailingZeros
import Derived.Laws.BitsAllLaws
import Derived.Laws.Bits64
import Derived.Below
import Derived.Test.YtcbadcbnknmdnaaRows
import Derived.Outline
import Derived.Lib.Hide
import Derived.Laws.IdiomStrings
import Derived.Lib.ConvBytes
import Derived.Laws.StructEq
import Derived.Lib.AppendStr
import Derived.RegionTactic
import Derived.Deep.LoopGhost
import Derived.OpenShut
import Derived.ProofKit
import Derived.ChangeSlices
import Derived.Deep.Slices
import Derived.Lib.SliceRun
import Derived.Deep.QuietTactic
import Derived.BigQuiet
import Derived.Deep.DeepCutAuto
import Derived.WalkSpells
import Derived.Deep.Cut
import Derived.Laws.DeepNot64
import Derived.LoopN
import Derived.Deep.RegionWith
import Derived.Laws.MakeOwn
namespace Go.Proofs.Ytcbadcbnknmdnaa
set_option linter.unusedVariables false

def hasP (p : Nat) (x : Int) : Bool := decide (0 ≤ x) && (decide (x < 32) && p.testBit x.toNat)
def lstK (p k : Nat) : List Int := ((List.range k).filter (fun i => p.testBit i)).map Int.ofNat
def lstP (p : Nat) : List Int := lstK p 32
def lenP (p : Nat) : Nat := (lstP p).length
def addP (n : Nat) (x : Int) : Nat := if 0 ≤ x ∧ x < 32 then n ||| 2 ^ x.toNat else n
def ofP (l : List Int) : Nat := l.foldl addP 0
def hasL (L : List Int) (x : Int) : Bool := L.any (fun y => y == x)
def freeP (p : Nat) : Nat := Lib.ctz 32 (4294967295 - p)

theorem lstK_succ (p k : Nat) : lstK p (k + 1) = if p.testBit k then lstK p k ++ [(k : Int)] else lstK p k := by
  unfold lstK
  rw [List.range_succ, List.filter_append]
  split <;> rename_i h <;> simp [h]
theorem lstK_len (p k : Nat) : (lstK p k).length ≤ k := by
  unfold lstK
  rw [List.length_map]
  exact Nat.le_trans (List.length_filter_le _ _) (by simp)
theorem lenP_le (p : Nat) : lenP p ≤ 32 := lstK_len p 32
theorem mem_lstK {p k : Nat} {x : Int} : x ∈ lstK p k ↔ 0 ≤ x ∧ x < k ∧ p.testBit x.toNat = true := by
  unfold lstK
  simp only [List.mem_map, List.mem_filter, List.mem_range]
  constructor
  · rintro ⟨i, ⟨h1, h2⟩, rfl⟩
    refine ⟨Int.natCast_nonneg _, by simp; omega, by simpa using h2⟩
  · rintro ⟨h0, h1, h2⟩
    exact ⟨x.toNat, ⟨by omega, h2⟩, by simp; omega⟩
theorem hasP_iff {p : Nat} {x : Int} : hasP p x = true ↔ 0 ≤ x ∧ x < 32 ∧ p.testBit x.toNat = true := by
  unfold hasP; simp
theorem hasL_iff {L : List Int} {x : Int} : hasL L x = true ↔ x ∈ L := by
  unfold hasL
  simp
theorem hasL_lst (p : Nat) (x : Int) : hasL (lstP p) x = hasP p x := by
  rw [Bool.eq_iff_iff, hasL_iff, hasP_iff]
  exact mem_lstK
theorem hasL_snoc (L : List Int) (y x : Int) : hasL (L ++ [y]) x = (hasL L x || y == x) := by
  unfold hasL; simp
theorem lst_congr {p q : Nat} (h : ∀ k, k < 32 → p.testBit k = q.testBit k) : lstP p = lstP q := by
  unfold lstP lstK
  congr 1
  refine List.filter_congr fun i hi => ?_
  rw [List.mem_range] at hi
  exact h i hi
theorem addP_lt {n : Nat} (h : n < 4294967296) (x : Int) : addP n x < 4294967296 := by
  unfold addP
  split
  · rename_i hx
    refine Nat.or_lt_two_pow (n := 32) h (Nat.pow_lt_pow_right (by decide) (by omega))
  · exact h
theorem foldP_lt (l : List Int) : ∀ n, n < 4294967296 → l.foldl addP n < 4294967296 := by
  induction l with
  | nil => intro n h; exact h
  | cons x l ih => intro n h; exact ih _ (addP_lt h x)
theorem ofP_lt (l : List Int) : ofP l < 4294967296 := foldP_lt l 0 (by decide)
theorem testBit_one (j k : Nat) : (2 ^ j).testBit k = decide (j = k) := by
  rw [Nat.testBit_two_pow]
theorem addP_bit (n : Nat) (x : Int) (k : Nat) (hk : k < 32) : (addP n x).testBit k = (n.testBit k || x == (k : Int)) := by
  unfold addP
  split
  · rename_i hx
    rw [Nat.testBit_or, testBit_one]
    congr 1
    rw [Bool.eq_iff_iff]
    simp
    omega
  · rename_i hx
    have : (x == (k : Int)) = false := by rw [beq_eq_false_iff_ne]; omega
    rw [this, Bool.or_false]
theorem foldP_bit (l : List Int) (k : Nat) (hk : k < 32) : ∀ n, (l.foldl addP n).testBit k = (n.testBit k || hasL l (k : Int)) := by
  induction l with
  | nil => intro n; simp [hasL]
  | cons x l ih =>
    intro n
    rw [List.foldl_cons, ih, addP_bit n x k hk]
    simp [hasL, Bool.or_assoc]
theorem ofP_bit (l : List Int) {k : Nat} (hk : k < 32) : (ofP l).testBit k = hasL l (k : Int) := by
  unfold ofP
  rw [foldP_bit l k hk]; simp
theorem foldP_take {l : List Int} {k : Nat} (hk : k < l.length) : ofP (l.take (k + 1)) = addP (ofP (l.take k)) l[k] := by
  unfold ofP
  rw [List.take_succ_eq_append_getElem hk, List.foldl_append]
  rfl
theorem xor_lt {n : Nat} (h : n < 4294967296) {x : Int} (h0 : 0 ≤ x) (h1 : x < 32) : n ^^^ 2 ^ x.toNat < 4294967296 :=
  Nat.xor_lt_two_pow (n := 32) h (Nat.pow_lt_pow_right (by decide) (by omega))
theorem xor_bit (n : Nat) (j k : Nat) : (n ^^^ 2 ^ j).testBit k = if k = j then !n.testBit k else n.testBit k := by
  rw [Nat.testBit_xor, testBit_one]
  split
  · rename_i h; simp [h]
  · rename_i h
    have : decide (j = k) = false := by simp; omega
    rw [this, Bool.xor_false]
theorem has_xor (n : Nat) {x : Int} (h0 : 0 ≤ x) (h1 : x < 32) (y : Int) : hasP (n ^^^ 2 ^ x.toNat) y = if y = x then !hasP n x else hasP n y := by
  by_cases e : y = x
  · subst e
    unfold hasP
    rw [xor_bit]
    simp [h0, h1]
  · rw [if_neg e]
    unfold hasP
    rw [xor_bit]
    by_cases a0 : 0 ≤ y
    · by_cases a1 : y < 32
      · rw [if_neg (by omega)]
      · simp [a1]
    · simp [a0]
theorem lst_join {n : Nat} {x : Int} (h0 : 0 ≤ x) (h1 : x < 32) (h : hasP n x = false) : lstP (ofP (lstP n ++ [x])) = lstP (n ^^^ 2 ^ x.toNat) := by
  refine lst_congr fun k hk => ?_
  have hb : n.testBit x.toNat = false := by simpa [hasP, h0, h1] using h
  rw [ofP_bit _ hk, hasL_snoc, hasL_lst, xor_bit]
  have e : hasP n (k : Int) = n.testBit k := by simp [hasP]; omega
  rw [e]
  split
  · rename_i hkx
    have : (x == (k : Int)) = true := by rw [beq_iff_eq]; omega
    rw [this, hkx, hb]; rfl
  · rename_i hkx
    have : (x == (k : Int)) = false := by rw [beq_eq_false_iff_ne]; omega
    rw [this, Bool.or_false]
theorem lst_leave {n : Nat} {x : Int} (h0 : 0 ≤ x) (h1 : x < 32) (h : hasP n x = true) : (lstP n).filter (fun y => !(y == x)) = lstP (n ^^^ 2 ^ x.toNat) := by
  unfold lstP lstK
  rw [List.filter_map, List.filter_filter]
  congr 1
  refine List.filter_congr fun i hi => ?_
  rw [List.mem_range] at hi
  have hb : n.testBit x.toNat = true := by simpa [hasP, h0, h1] using h
  rw [xor_bit]
  split
  · rename_i e
    have : (Int.ofNat i == x) = true := by rw [beq_iff_eq]; simp; omega
    simp only [Function.comp, this]
    rw [e, hb]; rfl
  · rename_i e
    have : (Int.ofNat i == x) = false := by rw [beq_eq_false_iff_ne]; simp; omega
    simp only [Function.comp, this]
    simp
theorem lst_of (l : List Int) : lstP (ofP l) = ((List.range 32).filter (fun i : Nat => hasL l (i : Int))).map Int.ofNat := by
  unfold lstP lstK
  congr 1
  refine List.filter_congr fun i hi => ?_
  rw [List.mem_range] at hi
  exact ofP_bit l hi

/-! ### How many, and the least free -/
def pop8 (b : Nat) : Nat := ((List.range 8).filter (fun i => b.testBit i)).length
theorem pop8_ones : ∀ b : Fin 256, Lib.onesCount b.val = pop8 b.val := by decide +kernel
theorem ones8 {b : Nat} (h : b < 256) : Lib.onesCount b = pop8 b := pop8_ones ⟨b, h⟩
theorem bit_byte (p s i : Nat) (hi : i < 8) : (p / 2 ^ s % 256).testBit i = p.testBit (i + s) := by
  rw [show (256 : Nat) = 2 ^ 8 from rfl, Nat.testBit_mod_two_pow, Nat.testBit_div_two_pow]
  simp [hi]
theorem range32 : List.range 32 = List.range 8 ++ ((List.range 8).map (· + 8) ++ ((List.range 8).map (· + 16) ++ (List.range 8).map (· + 24))) := by decide
theorem part8 (p s : Nat) : (((List.range 8).map (· + s)).filter (fun i => p.testBit i)).length = pop8 (p / 2 ^ s % 256) := by
  rw [List.filter_map, List.length_map]
  unfold pop8
  congr 1
  refine List.filter_congr fun i hi => ?_
  rw [List.mem_range] at hi
  exact (bit_byte p s i hi).symm
theorem lenP_bytes (p : Nat) : lenP p = Lib.onesCount (p % 256) + (Lib.onesCount (p / 256 % 256) + (Lib.onesCount (p / 65536 % 256) + Lib.onesCount (p / 16777216 % 256))) := by
  rw [ones8 (Nat.mod_lt _ (by decide)), ones8 (Nat.mod_lt _ (by decide)), ones8 (Nat.mod_lt _ (by decide)), ones8 (Nat.mod_lt _ (by decide))]
  have h0 := part8 p 0
  have h1 := part8 p 8
  have h2 := part8 p 16
  have h3 := part8 p 24
  simp only [Nat.add_zero, List.map_id', Nat.pow_zero, Nat.div_one] at h0
  unfold lenP lstP lstK
  rw [List.length_map, range32, List.filter_append, List.filter_append, List.filter_append, List.length_append, List.length_append, List.length_append, h1, h2, h3, h0]
theorem ctz_bits {x : Nat} (h0 : x ≠ 0) (h : x < 4294967296) : Lib.ctz 32 x < 32 ∧ x.testBit (Lib.ctz 32 x) = true ∧ ∀ k, k < Lib.ctz 32 x → x.testBit k = false := by
  obtain ⟨m, hm, hk⟩ := Lib.ctzFrom_spec 32 x (by omega) h
  have e : Lib.ctz 32 x = Lib.ctzFrom 32 x := by unfold Lib.ctz; rw [if_neg h0]
  rw [e]
  generalize Lib.ctzFrom 32 x = c at hm hk
  subst hm
  refine ⟨hk, ?_, fun k hk' => ?_⟩
  · rw [Nat.testBit_two_pow_mul]; simp
  · rw [Nat.testBit_two_pow_mul]
    have : decide (k ≥ c) = false := by simp; omega
    rw [this]; rfl
theorem not_bit {p : Nat} (h : p < 4294967296) {k : Nat} (hk : k < 32) : (4294967295 - p).testBit k = !p.testBit k := by
  have := Nat.testBit_two_pow_sub_succ (n := 32) (x := p) h k
  rw [show (2 : Nat) ^ 32 - (p + 1) = 4294967295 - p by omega] at this
  rw [this]; simp [hk]
theorem freeP_is {p : Nat} (h : p < 4294967296) : (freeP p = 32 ∧ lenP p = 32) ∨ (freeP p < 32 ∧ p.testBit (freeP p) = false ∧ (∀ k, k < freeP p → p.testBit k = true) ∧ lenP p < 32) := by
  unfold freeP
  by_cases h0 : 4294967295 - p = 0
  · left
    obtain rfl : p = 4294967295 := by omega
    exact ⟨by decide, by decide +kernel⟩
  · right
    obtain ⟨h1, h2, h3⟩ := ctz_bits h0 (by omega)
    rw [not_bit h h1] at h2
    refine ⟨h1, by simpa using h2, fun k hk => ?_, ?_⟩
    · have := h3 k hk
      rw [not_bit h (by omega)] at this
      simpa using this
    · have hlt : ((List.range 32).filter (fun i => p.testBit i)).length < (List.range 32).length := by
        rw [List.length_filter_lt_length_iff_exists]
        exact ⟨Lib.ctz 32 (4294967295 - p), List.mem_range.2 h1, by simpa using h2⟩
      unfold lenP lstP lstK
      rw [List.length_map]
      simpa using hlt

/-! ### Changes -/
structure Chg where
  k : Int
  p : Int
  v : List Int
def okS (n : Nat) (no : Int) : Int → List Int → Bool
  | _, [] => true
  | last, v :: r => decide (last < v) && ((!(v == no)) && (hasP n v && okS n no v r))
def mostP (n : Nat) (no : Int) (V : List Int) : Bool := okS n no (-1) V && decide (lenP n < 2 * V.length)
def chk (n : Nat) (c : Chg) : Int :=
  if c.k < 1 ∨ 3 < c.k then 7
  else if ¬ (0 ≤ c.p ∧ c.p < 32) ∨ (c.k ≠ 1 ∧ c.p = 0) ∨ (c.k ≠ 3 ∧ 0 < c.v.length) then 4
  else if c.k = 1 then (if hasP n c.p = true then 10 else 0)
  else if hasP n c.p = false then 13
  else if c.k = 3 ∧ mostP n c.p c.v = false then 15 else 0
def doP (n : Nat) (c : Chg) : Nat := n ^^^ 2 ^ c.p.toNat
def runP : Nat → List Chg → Nat × Int
  | n, [] => (n, 0)
  | n, c :: l => if chk n c = 0 then runP (doP n c) l else (n, chk n c)
def withP (n : Nat) (e : Int) (l : List Chg) : Nat × Int × Int := if (runP n l).2 = 0 then ((runP n l).1, e + l.length, 0) else (n, e, (runP n l).2)
theorem chk_range {n : Nat} {c : Chg} (h : chk n c = 0) : 0 ≤ c.p ∧ c.p < 32 ∧ 1 ≤ c.k ∧ c.k ≤ 3 := by
  unfold chk at h
  split at h
  · omega
  · split at h
    · omega
    · omega
theorem chk_has {n : Nat} {c : Chg} (h : chk n c = 0) : hasP n c.p = !(c.k == 1) := by
  have hr := chk_range h
  unfold chk at h
  rw [if_neg (by omega)] at h
  split at h
  · omega
  · split at h
    · rename_i h1
      rw [h1]
      split at h
      · omega
      · rename_i h2; simpa using h2
    · rename_i h1
      have : (c.k == 1) = false := by rw [beq_eq_false_iff_ne]; exact h1
      rw [this]
      split at h
      · omega
      · rename_i h2; simpa using h2
theorem doP_lt {n : Nat} {c : Chg} (hn : n < 4294967296) (h : chk n c = 0) : doP n c < 4294967296 := xor_lt hn (chk_range h).1 (chk_range h).2.1
theorem chk_vals (n : Nat) (c : Chg) : chk n c = 0 ∨ chk n c = 4 ∨ chk n c = 7 ∨ chk n c = 10 ∨ chk n c = 13 ∨ chk n c = 15 := by
  unfold chk
  repeat' split
  all_goals simp
theorem runP_lt (l : List Chg) : ∀ n, n < 4294967296 → (runP n l).1 < 4294967296 := by
  induction l with
  | nil => intro n h; exact h
  | cons c l ih =>
    intro n h
    unfold runP
    split
    · rename_i h1; exact ih _ (doP_lt h h1)
    · exact h
theorem runP_take {l : List Chg} {k : Nat} (hk : k < l.length) : ∀ {n}, (runP n (l.take k)).2 = 0 → runP n (l.take (k + 1)) = if chk (runP n (l.take k)).1 l[k] = 0 then (doP (runP n (l.take k)).1 l[k], 0) else ((runP n (l.take k)).1, chk (runP n (l.take k)).1 l[k]) := by
  induction l generalizing k with
  | nil => simp at hk
  | cons c l ih =>
    intro n h
    cases k with
    | zero => simp [runP]
    | succ k =>
      simp only [List.take_succ_cons, runP, List.getElem_cons_succ] at h ⊢
      split at h
      · rename_i h1
        simp only [if_pos h1]
        exact ih (by simpa using hk) h
      · rename_i h1
        exact absurd h h1
theorem runP_stop {l : List Chg} {k : Nat} (hk : k < l.length) : ∀ {n}, (runP n (l.take k)).2 = 0 → chk (runP n (l.take k)).1 l[k] ≠ 0 → runP n l = ((runP n (l.take k)).1, chk (runP n (l.take k)).1 l[k]) := by
  induction l generalizing k with
  | nil => simp at hk
  | cons c l ih =>
    intro n h h2
    cases k with
    | zero => simp [runP] at h2 ⊢; simp [h2]
    | succ k =>
      simp only [List.take_succ_cons, runP, List.getElem_cons_succ] at h h2 ⊢
      split at h
      · rename_i h1
        simp only [if_pos h1] at h2 ⊢
        exact ih (by simpa using hk) h h2
      · rename_i h1
        exact absurd h h1

/-! ### The bits as a sum -/
theorem mod_succ2 (p k : Nat) : p % 2 ^ (k + 1) = p % 2 ^ k + (if p.testBit k then 2 ^ k else 0) := by
  rw [Nat.mod_pow_succ, Nat.testBit_eq_decide_div_mod_eq]
  have h := Nat.mod_two_eq_zero_or_one (p / 2 ^ k)
  rcases h with h | h <;> simp [h]
theorem bit_div (p k : Nat) : p.testBit k = decide (p / 2 ^ k % 2 = 1) := Nat.testBit_eq_decide_div_mod_eq
end Go.Proofs.Ytcbadcbnknmdnaa
namespace Go.Proofs.Ytcbadcbnknmdnaa

def stepC (x : Nat) : Nat := (x / 2) ^^^ (3988292384 * (x % 2))
def iterC : Nat → Nat → Nat
  | 0, x => x
  | k + 1, x => stepC (iterC k x)
def crcB (x : Nat) (b : UInt8) : Nat := iterC 8 (x ^^^ b.toNat)
def crcS (x : Nat) (l : List UInt8) : Nat := l.foldl crcB x
def crcL (x : Nat) (ss : List (List UInt8)) : Nat := ss.foldl crcS x
def fnvB (x : Nat) (b : UInt8) : Nat := ((x ^^^ b.toNat) * 1099511628211) % 18446744073709551616
def fnvS (x : Nat) (l : List UInt8) : Nat := l.foldl fnvB x
def fnvL (x : Nat) (ss : List (List UInt8)) : Nat := ss.foldl fnvS x
/-- The sum of 32 bits that is told, of bytes behind a told sum. -/
def moreS (sum : Nat) (ss : List (List UInt8)) : Nat := 4294967295 - crcL (4294967295 - sum) ss

theorem xor_lt32 {a b : Nat} (ha : a < 4294967296) (hb : b < 4294967296) : a ^^^ b < 4294967296 := by
  have := @Nat.xor_lt_two_pow a b 32 (by omega) (by omega); omega
theorem xor_lt64 {a b : Nat} (ha : a < 18446744073709551616) (hb : b < 18446744073709551616) : a ^^^ b < 18446744073709551616 := by
  have := @Nat.xor_lt_two_pow a b 64 (by omega) (by omega); omega
theorem stepC_lt {x : Nat} (h : x < 4294967296) : stepC x < 4294967296 := by
  unfold stepC; exact xor_lt32 (by omega) (by omega)
theorem iterC_lt (k : Nat) {x : Nat} (h : x < 4294967296) : iterC k x < 4294967296 := by
  induction k with
  | zero => exact h
  | succ k ih => exact stepC_lt ih
theorem byte_lt (b : UInt8) : b.toNat < 256 := b.toNat_lt
theorem crcB_lt {x : Nat} (b : UInt8) (h : x < 4294967296) : crcB x b < 4294967296 :=
  iterC_lt 8 (xor_lt32 h (by have := byte_lt b; omega))
theorem crcS_lt (l : List UInt8) {x : Nat} (h : x < 4294967296) : crcS x l < 4294967296 := by
  induction l generalizing x with
  | nil => exact h
  | cons b l ih => exact ih (crcB_lt b h)
theorem crcL_lt (ss : List (List UInt8)) {x : Nat} (h : x < 4294967296) : crcL x ss < 4294967296 := by
  induction ss generalizing x with
  | nil => exact h
  | cons b l ih => exact ih (crcS_lt b h)
theorem fnvB_lt (x : Nat) (b : UInt8) : fnvB x b < 18446744073709551616 := Nat.mod_lt _ (by decide)
theorem fnvS_lt (l : List UInt8) {x : Nat} (h : x < 18446744073709551616) : fnvS x l < 18446744073709551616 := by
  induction l generalizing x with
  | nil => exact h
  | cons b l ih => exact ih (fnvB_lt x b)
theorem fnvL_lt (ss : List (List UInt8)) {x : Nat} (h : x < 18446744073709551616) : fnvL x ss < 18446744073709551616 := by
  induction ss generalizing x with
  | nil => exact h
  | cons b l ih => exact ih (fnvS_lt b h)
theorem fold_snoc {A B : Type} (f : A → B → A) (x : A) (l : List B) (b : B) : List.foldl f x (l ++ [b]) = f (List.foldl f x l) b := by simp
theorem fold_append {A B : Type} (f : A → B → A) (x : A) (l m : List B) : List.foldl f x (l ++ m) = List.foldl f (List.foldl f x l) m := by simp
theorem crcS_snoc (x : Nat) (l : List UInt8) (b : UInt8) : crcS x (l ++ [b]) = crcB (crcS x l) b := fold_snoc crcB x l b
theorem fnvS_snoc (x : Nat) (l : List UInt8) (b : UInt8) : fnvS x (l ++ [b]) = fnvB (fnvS x l) b := fold_snoc fnvB x l b
theorem crcL_snoc (x : Nat) (l : List (List UInt8)) (b : List UInt8) : crcL x (l ++ [b]) = crcS (crcL x l) b := fold_snoc crcS x l b
theorem fnvL_snoc (x : Nat) (l : List (List UInt8)) (b : List UInt8) : fnvL x (l ++ [b]) = fnvS (fnvL x l) b := fold_snoc fnvS x l b
theorem crcS_append (x : Nat) (l m : List UInt8) : crcS x (l ++ m) = crcS (crcS x l) m := fold_append crcB x l m
theorem fnvS_append (x : Nat) (l m : List UInt8) : fnvS x (l ++ m) = fnvS (fnvS x l) m := fold_append fnvB x l m
theorem crcL_flat (x : Nat) (ss : List (List UInt8)) : crcL x ss = crcS x ss.flatten := by
  induction ss generalizing x with
  | nil => rfl
  | cons s ss ih => simp only [List.flatten_cons, crcS_append]; exact ih _
theorem fnvL_flat (x : Nat) (ss : List (List UInt8)) : fnvL x ss = fnvS x ss.flatten := by
  induction ss generalizing x with
  | nil => rfl
  | cons s ss ih => simp only [List.flatten_cons, fnvS_append]; exact ih _

/-- One step of the document's way, on the sum and the byte's bits apart. -/
theorem stepC_apart (s c : Nat) : stepC (s ^^^ c) = (if (s + c) % 2 = 1 then (s / 2) ^^^ 3988292384 else s / 2) ^^^ (c / 2) := by
  have h1 : (s ^^^ c) / 2 = (s / 2) ^^^ (c / 2) := Nat.xor_div_two
  have h2 : (s ^^^ c) % 2 = (s + c) % 2 := by
    have h := @Nat.xor_mod_two_pow s c 1
    simp only [Nat.pow_one] at h
    rw [h]
    rcases Nat.mod_two_eq_zero_or_one s with hs | hs <;> rcases Nat.mod_two_eq_zero_or_one c with hc | hc <;> rw [hs, hc]
    · show 0 = _; omega
    · show 1 = _; omega
    · show 1 = _; omega
    · show 0 = _; omega
  unfold stepC
  rw [h1, h2]
  by_cases h : (s + c) % 2 = 1
  · rw [if_pos h, h, Nat.mul_one, Nat.xor_assoc, Nat.xor_comm (c / 2), ← Nat.xor_assoc]
  · have h0 : (s + c) % 2 = 0 := by omega
    rw [if_neg h, h0, Nat.mul_zero, Nat.xor_zero]

theorem ref_odd {y d j z : Nat} (h : (y + d) % 2 = 1) (H : y ^^^ d = iterC j z) : ((y / 2) ^^^ 3988292384) ^^^ (d / 2) = iterC (j + 1) z := by
  show _ = stepC (iterC j z)
  rw [← H, stepC_apart, if_pos h]
theorem ref_even {y d j z : Nat} (h : ¬ (y + d) % 2 = 1) (H : y ^^^ d = iterC j z) : (y / 2) ^^^ (d / 2) = iterC (j + 1) z := by
  show _ = stepC (iterC j z)
  rw [← H, stepC_apart, if_neg h]
theorem half_pow {d b j : Nat} (h : d = b / 2 ^ j) : d / 2 = b / 2 ^ (j + 1) := by
  rw [h, Nat.pow_succ, Nat.div_div_eq_div_mul]
theorem ref_odd_val (y : Nat) (h : y < 4294967296) : bits .xor .u32 ((y : Int) / 2) 3988292384 = (((y / 2) ^^^ 3988292384 : Nat) : Int) := by
  have h3 : ((y : Int) / 2) = ((y / 2 : Nat) : Int) := by omega
  rw [h3]
  exact u32_xor_nat _ 3988292384 (by omega) (by decide)
theorem ref_last {y d b x0 : Nat} (hb : b < 256) (h1 : d = b / 2 ^ 8) (h2 : y ^^^ d = iterC 8 (x0 ^^^ b)) : y = iterC 8 (x0 ^^^ b) := by
  have : d = 0 := by rw [h1]; omega
  rw [← h2, this, Nat.xor_zero]

/-- The walk's own spelling of a step of crcByte. -/
theorem stepC_walk (x : Nat) (h : x < 4294967296) : bits .xor .u32 ((x : Int) / 2) (3988292384 * bits .and .u32 (x : Int) 1 % 4294967296) = ((stepC x : Nat) : Int) := by
  have h1 : bits .and .u32 (x : Int) 1 = ((x % 2 : Nat) : Int) := by
    have := u32_and_nat x 1 h (by decide)
    rw [nat_mask1] at this
    exact this
  rw [h1]
  have h2 : (3988292384 * ((x % 2 : Nat) : Int) % 4294967296) = ((3988292384 * (x % 2) : Nat) : Int) := by omega
  have h3 : ((x : Int) / 2) = ((x / 2 : Nat) : Int) := by omega
  rw [h2, h3, u32_xor_nat _ _ (by omega) (by omega)]
  rfl
theorem wrap_u64_byte (b : UInt8) : IntKind.u64.wrap (b.toNat : Int) = (b.toNat : Int) := by
  have hb := byte_lt b
  simp only [IntKind.wrap_u64]; omega
theorem wrap_u32_byte (b : UInt8) : IntKind.u32.wrap (b.toNat : Int) = (b.toNat : Int) := by
  have hb := byte_lt b
  simp only [IntKind.wrap_u32']; omega
theorem fnvB_walk (x : Nat) (b : UInt8) (h : x < 18446744073709551616) : IntKind.u64.wrap (bits .xor .u64 (x : Int) (IntKind.u64.wrap (b.toNat : Int)) * 1099511628211) = ((fnvB x b : Nat) : Int) := by
  have hb := byte_lt b
  rw [wrap_u64_byte, u64_xor_nat _ _ h (by omega), IntKind.wrap_u64]
  unfold fnvB
  omega
theorem xorC_walk (x : Nat) (b : Nat) (h : x < 4294967296) (hb : b < 256) : bits .xor .u32 (x : Int) (b : Int) = ((x ^^^ b : Nat) : Int) :=
  u32_xor_nat _ _ h (by omega)
theorem xor_ones (x : Nat) (h : x < 4294967296) : 4294967295 ^^^ x = 4294967295 - x := by
  have h1 : (BitVec.allOnes 32 ^^^ BitVec.ofNat 32 x).toNat = (~~~ (BitVec.ofNat 32 x)).toNat := by rw [BitVec.allOnes_xor]
  rw [BitVec.toNat_xor, BitVec.toNat_not, BitVec.toNat_allOnes, BitVec.toNat_ofNat] at h1
  have h2 : x % 2 ^ 32 = x := Nat.mod_eq_of_lt (by omega)
  rw [h2] at h1
  exact h1
theorem not_walk (x : Nat) (h : x < 4294967296) : bits .xor .u32 IntKind.u32.max (x : Int) = ((4294967295 - x : Nat) : Int) := by
  have e : IntKind.u32.max = ((4294967295 : Nat) : Int) := by decide
  rw [e, u32_xor_nat _ _ (by decide) h, xor_ones x h]
theorem moreS_lt (x : Nat) (ss : List (List UInt8)) : moreS x ss < 4294967296 := by unfold moreS; omega
theorem moreS_zero (ss : List (List UInt8)) : moreS 0 ss = 4294967295 - crcS 4294967295 ss.flatten := by
  unfold moreS; rw [crcL_flat]
/-! ### Unlike in one byte alone: unlike sums -/
theorem xor_cancel {a b c : Nat} (h : a ^^^ c = b ^^^ c) : a = b := by
  have : (a ^^^ c) ^^^ c = (b ^^^ c) ^^^ c := by rw [h]
  rwa [Nat.xor_assoc, Nat.xor_assoc, Nat.xor_self, Nat.xor_zero, Nat.xor_zero] at this
theorem stepC_top {x : Nat} (h : x < 4294967296) : stepC x / 2 ^ 31 = x % 2 := by
  unfold stepC
  rw [Nat.xor_div_two_pow]
  have h1 : x / 2 / 2 ^ 31 = 0 := by omega
  have h2 : 3988292384 * (x % 2) / 2 ^ 31 = x % 2 := by omega
  rw [h1, h2, Nat.zero_xor]
theorem stepC_inj {x y : Nat} (hx : x < 4294967296) (hy : y < 4294967296) (h : stepC x = stepC y) : x = y := by
  have h1 : x % 2 = y % 2 := by rw [← stepC_top hx, ← stepC_top hy, h]
  unfold stepC at h
  rw [h1] at h
  have h2 := xor_cancel h
  omega
theorem iterC_inj (k : Nat) {x y : Nat} (hx : x < 4294967296) (hy : y < 4294967296) (h : iterC k x = iterC k y) : x = y := by
  induction k with
  | zero => exact h
  | succ k ih => exact ih (stepC_inj (iterC_lt k hx) (iterC_lt k hy) h)
theorem crcB_inj {x y : Nat} (b : UInt8) (hx : x < 4294967296) (hy : y < 4294967296) (h : crcB x b = crcB y b) : x = y := by
  have hb := byte_lt b
  exact xor_cancel (iterC_inj 8 (xor_lt32 hx (by omega)) (xor_lt32 hy (by omega)) h)
theorem crcB_byte {x : Nat} {b c : UInt8} (hx : x < 4294967296) (h : crcB x b = crcB x c) : b = c := by
  have hb := byte_lt b
  have hc := byte_lt c
  have h1 := iterC_inj 8 (xor_lt32 hx (by omega)) (xor_lt32 hx (by omega)) h
  rw [Nat.xor_comm x, Nat.xor_comm x] at h1
  exact UInt8.toNat_inj.1 (xor_cancel h1)
theorem crcS_inj (l : List UInt8) {x y : Nat} (hx : x < 4294967296) (hy : y < 4294967296) (h : crcS x l = crcS y l) : x = y := by
  induction l generalizing x y with
  | nil => exact h
  | cons b l ih => exact crcB_inj b hx hy (ih (crcB_lt b hx) (crcB_lt b hy) h)
theorem crcS_tell (p q : List UInt8) (b c : UInt8) (x : Nat) (hx : x < 4294967296) (h : crcS x (p ++ b :: q) = crcS x (p ++ c :: q)) : b = c := by
  rw [crcS_append, crcS_append] at h
  have hp := crcS_lt p hx
  have h1 : crcS (crcB (crcS x p) b) q = crcS (crcB (crcS x p) c) q := h
  exact crcB_byte hp (crcS_inj q (crcB_lt b hp) (crcB_lt c hp) h1)
/-- A list in which one byte is another one. -/
theorem crcS_set (l : List UInt8) (i : Nat) (hi : i < l.length) (c : UInt8) (hc : c ≠ l[i]) (x : Nat) (hx : x < 4294967296) : crcS x (l.set i c) ≠ crcS x l := by
  intro h
  have e1 : l.set i c = l.take i ++ c :: l.drop (i + 1) := List.set_eq_take_append_cons_drop.trans (by rw [if_pos hi])
  have e2 : l = l.take i ++ l[i] :: l.drop (i + 1) := by rw [← List.drop_eq_getElem_cons hi, List.take_append_drop]
  rw [e1] at h
  generalize hL : l.take i = L at h e2
  generalize hR : l.drop (i + 1) = R at h e2
  have h2 : crcS x (L ++ c :: R) = crcS x (L ++ l[i] :: R) := by rw [h]; exact congrArg (crcS x) e2
  exact hc (crcS_tell L R c l[i] x hx h2)
theorem xor_byte_ne {b c : Nat} (h : c ≠ 0) : b ^^^ c ≠ b := by
  intro h1
  have : c ^^^ b = 0 ^^^ b := by rw [Nat.xor_comm, h1, Nat.zero_xor]
  exact h (xor_cancel this)
theorem xor_lt8 {a b : Nat} (ha : a < 256) (hb : b < 256) : a ^^^ b < 256 := by
  have := @Nat.xor_lt_two_pow a b 8 (by omega) (by omega); omega
end Go.Proofs.Ytcbadcbnknmdnaa
namespace Go.Proofs.Ytcbadcbnknmdnaa

/-- A text of these bytes. -/
def bs (l : List UInt8) : ByteArray := ⟨l.toArray⟩
theorem bs_list (l : List UInt8) : (bs l).data.toList = l := by simp [bs]
theorem bs_size (l : List UInt8) : (bs l).size = l.length := by simp [bs, ByteArray.size]
theorem bs_eta (s : ByteArray) : bs s.data.toList = s := by cases s; simp [bs]
theorem bs_append (l m : List UInt8) : bs l ++ bs m = bs (l ++ m) := by
  have : (bs l ++ bs m).data.toList = (bs (l ++ m)).data.toList := by simp [bs]
  rw [← bs_eta (bs l ++ bs m), this, bs_eta]
theorem list_inj {s t : ByteArray} (h : s.data.toList = t.data.toList) : s = t := by rw [← bs_eta s, h, bs_eta]
theorem extract_list (s : ByteArray) (a b : Nat) : s.extract a b = bs ((s.data.toList.drop a).take (b - a)) := by
  apply list_inj
  rw [bs_list, ByteArray.data_extract, Array.toList_extract, List.extract_eq_take_drop]
theorem extract_drop (s : ByteArray) (a : Nat) : s.extract a s.size = bs (s.data.toList.drop a) := by
  rw [extract_list, List.take_of_length_le (by simp)]
theorem extract_take (s : ByteArray) (b : Nat) : s.extract 0 b = bs (s.data.toList.take b) := by
  rw [extract_list]; rfl
def byteOf (x : Nat) : UInt8 := UInt8.ofNat x
theorem byteOf_toNat {x : Nat} (h : x < 256) : (byteOf x).toNat = x := UInt8.toNat_ofNat_of_lt' (by simpa using h)
/-- The four bytes of a sum, the lowest first. -/
def sum4 (x : Nat) : List UInt8 := [byteOf (x % 256), byteOf (x / 256 % 256), byteOf (x / 65536 % 256), byteOf (x / 16777216 % 256)]
def crc32 (l : List UInt8) : Nat := 4294967295 - crcS 4294967295 l
theorem crc32_lt (l : List UInt8) : crc32 l < 4294967296 := by unfold crc32; omega
def sealB (l : List UInt8) : List UInt8 := 7 :: (sum4 (crc32 (7 :: l)) ++ l)
/-- The bytes of a datagram, and the error's number. -/
def unsealB (l : List UInt8) : List UInt8 × Nat :=
  if l.length < 5 then ([], 1) else if l.getD 0 0 ≠ 7 then ([], 6) else if (l.drop 1).take 4 ≠ sum4 (crc32 (7 :: l.drop 5)) then ([], 5) else (l.drop 5, 0)
theorem sum4_length (x : Nat) : (sum4 x).length = 4 := rfl
theorem sealB_length (l : List UInt8) : (sealB l).length = l.length + 5 := by simp [sealB, sum4_length]; omega
theorem unseal_seal (l : List UInt8) : unsealB (sealB l) = (l, 0) := by
  unfold unsealB
  rw [if_neg (by rw [sealB_length]; omega), if_neg (by simp [sealB])]
  simp [sealB, sum4]
theorem seal_eq (l : List UInt8) (h5 : 5 ≤ l.length) (h7 : l.getD 0 0 = 7) : sealB (l.drop 5) = l ↔ (l.drop 1).take 4 = sum4 (crc32 (7 :: l.drop 5)) := by
  match l, h5 with
  | a :: b :: c :: d :: e :: r, _ =>
    have : a = 7 := by simpa using h7
    subst this
    simp [sealB, sum4]
    constructor
    · rintro ⟨h1, h2, h3, h4⟩; exact ⟨h1.symm, h2.symm, h3.symm, h4.symm⟩
    · rintro ⟨h1, h2, h3, h4⟩; exact ⟨h1.symm, h2.symm, h3.symm, h4.symm⟩
theorem seven_append (s : ByteArray) : ByteArray.mk #[7] ++ s = bs (7 :: s.data.toList) := by
  rw [show ByteArray.mk #[7] = bs [7] from rfl, ← bs_eta s, bs_append, bs_list]; rfl
theorem unseal_1 (s : ByteArray) (h : s.size < 5) : unsealB s.data.toList = ([], 1) := by
  unfold unsealB; rw [if_pos (by simpa using h)]
theorem unseal_6 (s : ByteArray) (h : ¬ s.size < 5) (h7 : (s[0]'(by omega)).toNat ≠ 7) : unsealB s.data.toList = ([], 6) := by
  have h0 : s.data.toList.getD 0 0 = s[0]'(by omega) := by
    rw [List.getD_eq_getElem?_getD, List.getElem?_eq_getElem (by simp; omega)]; rfl
  unfold unsealB
  rw [if_neg (by simpa using h), if_pos]
  rw [h0]
  intro hh
  exact h7 (by rw [hh]; rfl)
theorem head7 (s : ByteArray) (h : ¬ s.size < 5) (h7 : (s[0]'(by omega)).toNat = 7) : s.data.toList.getD 0 0 = 7 := by
  have h0 : s.data.toList.getD 0 0 = s[0]'(by omega) := by
    rw [List.getD_eq_getElem?_getD, List.getElem?_eq_getElem (by simp; omega)]; rfl
  rw [h0]
  exact UInt8.toNat_inj.1 h7
theorem unseal_5 (s : ByteArray) (h : ¬ s.size < 5) (h7 : (s[0]'(by omega)).toNat = 7) (hs : (s.data.toList.drop 1).take 4 ≠ sum4 (crc32 (7 :: s.data.toList.drop 5))) : unsealB s.data.toList = ([], 5) := by
  unfold unsealB
  rw [if_neg (by simpa using h), if_neg (by rw [head7 s h h7]; simp), if_pos hs]
theorem unseal_0 (s : ByteArray) (h : ¬ s.size < 5) (h7 : (s[0]'(by omega)).toNat = 7) (hs : (s.data.toList.drop 1).take 4 = sum4 (crc32 (7 :: s.data.toList.drop 5))) : unsealB s.data.toList = (s.data.toList.drop 5, 0) := by
  unfold unsealB
  rw [if_neg (by simpa using h), if_neg (by rw [head7 s h h7]; simp), if_neg (by rw [hs]; simp)]
/-! ### Numbers -/
/-- A number taken from the front, from its k-th byte on: the number, how many bytes say it, the error. -/
def takeF : Nat → Nat → List UInt8 → Nat × Nat × Nat
  | _, _, [] => (0, 0, 1)
  | k, acc, b :: r =>
    if (0 < k ∧ b.toNat = 0) ∨ (k = 9 ∧ 1 < b.toNat) then (0, 0, 2)
    else if b.toNat < 128 then (acc + b.toNat % 128 * 128 ^ k, k + 1, 0) else takeF (k + 1) (acc + b.toNat % 128 * 128 ^ k) r
def numT (l : List UInt8) : Nat × Nat × Nat := takeF 0 0 l
theorem pow_128 (k : Nat) : (128 : Nat) ^ k = 2 ^ (7 * k) := by
  rw [Nat.pow_mul]
theorem or_walk (acc k c : Nat) (hc : c < 256) (ha : acc < 128 ^ k) (hk : k ≤ 9) (hf : k = 9 → c ≤ 1) :
    bits .or .u64 (acc : Int) (IntKind.u64.wrap (IntKind.u64.wrap (bits .andNot .u8 (c : Int) 128) * 2 ^ (7 * k))) = ((acc + c % 128 * 128 ^ k : Nat) : Int) := by
  have h1 : bits .andNot .u8 (c : Int) 128 = ((c % 128 : Nat) : Int) := by
    have := u8_andNot_nat c 128 hc (by decide)
    rw [show (255 - 128 : Nat) = 127 from rfl, nat_mask7] at this
    exact this
  have hp : (128 : Nat) ^ k * 128 ≤ 128 ^ 10 := by
    rw [← Nat.pow_succ]; exact Nat.pow_le_pow_right (by decide) (by omega)
  have h10 : (128 : Nat) ^ 10 = 1180591620717411303424 := by decide
  have h9 : (128 : Nat) ^ 9 = 9223372036854775808 := by decide
  have hlt : c % 128 * 128 ^ k < 18446744073709551616 := by
    by_cases h : k = 9
    · subst h
      have := hf rfl
      have : c % 128 ≤ 1 := by omega
      have := Nat.mul_le_mul_right (128 ^ 9) this
      omega
    · have h8 : (128 : Nat) ^ k * 128 ≤ 128 ^ 9 := by
        rw [← Nat.pow_succ]; exact Nat.pow_le_pow_right (by decide) (by omega)
      have h2 : c % 128 ≤ 127 := by omega
      have := Nat.mul_le_mul_right (128 ^ k) h2
      omega
  have hal : acc < 18446744073709551616 := by
    have : (128 : Nat) ^ k ≤ 128 ^ 9 := Nat.pow_le_pow_right (by decide) hk
    omega
  rw [h1]
  have h3 : IntKind.u64.wrap ((c % 128 : Nat) : Int) = ((c % 128 : Nat) : Int) := by rw [IntKind.wrap_u64]; omega
  rw [h3]
  have h4 : ((c % 128 : Nat) : Int) * 2 ^ (7 * k) = ((c % 128 * 128 ^ k : Nat) : Int) := by
    rw [pow_128]; simp
  rw [h4]
  have h5 : IntKind.u64.wrap ((c % 128 * 128 ^ k : Nat) : Int) = ((c % 128 * 128 ^ k : Nat) : Int) := by rw [IntKind.wrap_u64]; omega
  rw [h5, u64_or_nat _ _ hal hlt]
  congr 1
  rw [Nat.or_comm, nat_join (7 * k) _ _ (by rw [pow_128]; exact Nat.mul_mod_left _ _) (by rw [← pow_128]; exact ha), Nat.add_comm]
theorem add_walk (acc k c q : Nat) (hc : c < 256) (ha : acc < 128 ^ k) (hk : k ≤ 9) (hf : k = 9 → c ≤ 1) (hq : q = 128 ^ k) :
    IntKind.u64.wrap ((acc : Int) + IntKind.u64.wrap ((c : Int) % 128 * (q : Int))) = ((acc + c % 128 * 128 ^ k : Nat) : Int) := by
  subst hq
  have h9 : (128 : Nat) ^ 9 = 9223372036854775808 := by decide
  have hsum : acc + c % 128 * 128 ^ k < 18446744073709551616 := by
    by_cases h : k = 9
    · subst h
      have := hf rfl
      have : c % 128 ≤ 1 := by omega
      have := Nat.mul_le_mul_right (128 ^ 9) this
      omega
    · have h8 : (128 : Nat) ^ k * 128 ≤ 128 ^ 9 := by
        rw [← Nat.pow_succ]; exact Nat.pow_le_pow_right (by decide) (by omega)
      have h2 : c % 128 ≤ 127 := by omega
      have := Nat.mul_le_mul_right (128 ^ k) h2
      omega
  have h4 : ((c : Int) % 128 * ((128 ^ k : Nat) : Int)) = ((c % 128 * 128 ^ k : Nat) : Int) := by
    rw [Int.natCast_mul]; rfl
  rw [h4]
  generalize c % 128 * 128 ^ k = p at hsum ⊢
  have h5 : IntKind.u64.wrap (p : Int) = (p : Int) := by rw [IntKind.wrap_u64]; omega
  rw [h5, IntKind.wrap_u64]
  omega
theorem takeF_end (k acc : Nat) : takeF k acc [] = (0, 0, 1) := by simp [takeF]
theorem takeF_bad {k acc : Nat} {b : UInt8} {r : List UInt8} (h : (0 < k ∧ b.toNat = 0) ∨ (k = 9 ∧ 1 < b.toNat)) : takeF k acc (b :: r) = (0, 0, 2) := by
  rw [takeF, if_pos h]
theorem takeF_last {k acc : Nat} {b : UInt8} {r : List UInt8} (h : ¬ ((0 < k ∧ b.toNat = 0) ∨ (k = 9 ∧ 1 < b.toNat))) (hb : b.toNat < 128) : takeF k acc (b :: r) = (acc + b.toNat % 128 * 128 ^ k, k + 1, 0) := by
  rw [takeF, if_neg h, if_pos hb]
theorem takeF_more {k acc : Nat} {b : UInt8} {r : List UInt8} (h : ¬ ((0 < k ∧ b.toNat = 0) ∨ (k = 9 ∧ 1 < b.toNat))) (hb : ¬ b.toNat < 128) : takeF k acc (b :: r) = takeF (k + 1) (acc + b.toNat % 128 * 128 ^ k) r := by
  rw [takeF, if_neg h, if_neg hb]
theorem acc_lt {acc k c : Nat} (ha : acc < 128 ^ k) : acc + c % 128 * 128 ^ k < 128 ^ (k + 1) := by
  rw [Nat.pow_succ]
  have h2 : c % 128 ≤ 127 := by omega
  have := Nat.mul_le_mul_right (128 ^ k) h2
  omega
theorem takeF_ok (l : List UInt8) : ∀ k acc, k ≤ 9 → acc < 128 ^ k → (takeF k acc l).2.2 ≤ 2 ∧ ((takeF k acc l).2.2 = 0 → (takeF k acc l).2.1 ≤ k + l.length ∧ k < (takeF k acc l).2.1) ∧ (takeF k acc l).1 < 18446744073709551616 ∧ ((takeF k acc l).2.2 ≠ 0 → (takeF k acc l).1 = 0) := by
  induction l with
  | nil => intro k acc _ _; rw [takeF_end]; simp
  | cons b r ih =>
    intro k acc hk ha
    have hb := byte_lt b
    by_cases h : (0 < k ∧ b.toNat = 0) ∨ (k = 9 ∧ 1 < b.toNat)
    · rw [takeF_bad h]; simp
    · have h9 : (128 : Nat) ^ 9 = 9223372036854775808 := by decide
      by_cases h2 : b.toNat < 128
      · rw [takeF_last h h2]
        refine ⟨by simp, fun _ => by simp, ?_, by simp⟩
        show acc + b.toNat % 128 * 128 ^ k < _
        by_cases hk9 : k = 9
        · subst hk9
          have : b.toNat % 128 ≤ 1 := by omega
          have := Nat.mul_le_mul_right (128 ^ 9) this
          omega
        · have h3 := @acc_lt acc k b.toNat ha
          have : (128 : Nat) ^ (k + 1) ≤ 128 ^ 9 := Nat.pow_le_pow_right (by decide) (by omega)
          omega
      · rw [takeF_more h h2]
        have := ih (k + 1) _ (by omega) (@acc_lt acc k b.toNat ha)
        refine ⟨this.1, fun h0 => ?_, this.2.2⟩
        have := this.2.1 h0
        simp only [List.length_cons]
        omega
theorem numT_err (l : List UInt8) : (numT l).2.2 ≤ 2 := (takeF_ok l 0 0 (by decide) (by decide)).1
theorem numT_size (l : List UInt8) (h : (numT l).2.2 = 0) : (numT l).2.1 ≤ l.length := by
  have := ((takeF_ok l 0 0 (by decide) (by decide)).2.1 h).1; unfold numT; omega
theorem numT_lt (l : List UInt8) : (numT l).1 < 18446744073709551616 := (takeF_ok l 0 0 (by decide) (by decide)).2.2.1
theorem drop_at (s : ByteArray) (k : Nat) (h : k < s.size) : s.data.toList.drop k = s[k] :: s.data.toList.drop (k + 1) := by
  rw [List.drop_eq_getElem_cons (by simpa using h)]; rfl
theorem and1_walk (n : Nat) (h : n < 18446744073709551616) : bits .and .u64 (n : Int) 1 = ((n % 2 : Nat) : Int) := by
  have := u64_and_nat n 1 h (by decide)
  rw [nat_mask1] at this
  exact this
/-! ### A number's bytes -/
def numF : Nat → Nat → List UInt8
  | 0, n => [byteOf n]
  | f + 1, n => if n < 128 then [byteOf n] else byteOf (n % 128 + 128) :: numF f (n / 128)
/-- The bytes of a number: seven bits in each, the lowest first. -/
def numB (n : Nat) : List UInt8 := numF n n
theorem numF_any (f : Nat) : ∀ g n, n ≤ f → n ≤ g → numF f n = numF g n := by
  induction f with
  | zero =>
    intro g n h1 h2
    obtain rfl : n = 0 := by omega
    cases g with
    | zero => rfl
    | succ g => rw [numF, numF, if_pos (by omega)]
  | succ f ih =>
    intro g n h1 h2
    cases g with
    | zero =>
      obtain rfl : n = 0 := by omega
      rw [numF, numF, if_pos (by omega)]
    | succ g =>
      rw [numF, numF]
      by_cases h : n < 128
      · rw [if_pos h, if_pos h]
      · rw [if_neg h, if_neg h, ih g (n / 128) (by omega) (by omega)]
theorem numB_lt {n : Nat} (h : n < 128) : numB n = [byteOf n] := by
  unfold numB
  cases n with
  | zero => rfl
  | succ n => rw [numF, if_pos h]
theorem numB_ge {n : Nat} (h : 128 ≤ n) : numB n = byteOf (n % 128 + 128) :: numB (n / 128) := by
  unfold numB
  cases n with
  | zero => omega
  | succ n => rw [numF, if_neg (by omega), numF_any n ((n + 1) / 128) _ (by omega) (by omega)]
theorem numB_len (k : Nat) : ∀ n, n < 128 ^ (k + 1) → (numB n).length ≤ k + 1 := by
  induction k with
  | zero => intro n h; rw [numB_lt (by simpa using h)]; simp
  | succ k ih =>
    intro n h
    by_cases h1 : n < 128
    · rw [numB_lt h1]; simp
    · rw [numB_ge (by omega), List.length_cons]
      have : n / 128 < 128 ^ (k + 1) := by rw [Nat.div_lt_iff_lt_mul (by decide), ← Nat.pow_succ]; exact h
      have := ih _ this
      omega
theorem numB_ten {n : Nat} (h : n < 18446744073709551616) : (numB n).length ≤ 10 :=
  numB_len 9 n (by have : (128 : Nat) ^ 10 = 1180591620717411303424 := by decide
                   omega)
theorem or128_nat (x : Nat) (h : x < 256) : x ||| 128 = x % 128 + 128 := by
  have key : ∀ y : Fin 256, y.val ||| 128 = y.val % 128 + 128 := by decide +kernel
  exact key ⟨x, h⟩
theorem or128_walk (n : Nat) : bits .or .u8 (IntKind.u8.wrap (n : Int)) 128 = (((byteOf (n % 128 + 128)).toNat : Nat) : Int) := by
  rw [byteOf_toNat (by omega)]
  have h1 : IntKind.u8.wrap (n : Int) = ((n % 256 : Nat) : Int) := by rw [IntKind.wrap_u8']; omega
  rw [h1]
  have := u8_or_nat (n % 256) 128 (by omega) (by decide)
  rw [or128_nat _ (by omega)] at this
  have e : n % 256 % 128 = n % 128 := by omega
  rw [e] at this
  exact this
def numsB (ns : List Nat) : List UInt8 := (ns.map numB).flatten
theorem numsB_snoc (ns : List Nat) (k : Nat) (h : k < ns.length) : numsB (ns.take (k + 1)) = numsB (ns.take k) ++ numB ns[k] := by
  unfold numsB; rw [List.take_succ_eq_append_getElem h, List.map_append, List.flatten_append]; simp
theorem numsB_len (ns : List Nat) (h : ∀ n ∈ ns, n < 18446744073709551616) : (numsB ns).length ≤ 10 * ns.length := by
  induction ns with
  | nil => simp [numsB]
  | cons n ns ih =>
    have h1 := numB_ten (h n (by simp))
    have h2 := ih (fun m hm => h m (by simp [hm]))
    simp only [numsB, List.map_cons, List.flatten_cons, List.length_append, List.length_cons] at h2 ⊢
    omega
theorem or128_walk' (n : Nat) : bits .or .u8 ((n : Int) % 256) 128 = (((byteOf (n % 128 + 128)).toNat : Nat) : Int) := by
  rw [← or128_walk, IntKind.wrap_u8']
theorem low_walk (n : Nat) (h : n < 128) : ((n : Int) % 256) = (((byteOf n).toNat : Nat) : Int) := by
  rw [byteOf_toNat (by omega)]; omega
/-- The number that says a whole number. -/
def zig (n : Int) : Nat := if n < 0 then (-2 * n - 1).toNat else (2 * n).toNat
theorem zig_lt {n : Int} (h1 : -9223372036854775808 ≤ n) (h2 : n ≤ 9223372036854775807) : zig n < 18446744073709551616 := by
  unfold zig; split <;> omega
theorem xor_ones64 (x : Nat) (h : x < 18446744073709551616) : 18446744073709551615 ^^^ x = 18446744073709551615 - x := by
  have h1 : (BitVec.allOnes 64 ^^^ BitVec.ofNat 64 x).toNat = (~~~ (BitVec.ofNat 64 x)).toNat := by rw [BitVec.allOnes_xor]
  rw [BitVec.toNat_xor, BitVec.toNat_not, BitVec.toNat_allOnes, BitVec.toNat_ofNat] at h1
  have h2 : x % 2 ^ 64 = x := Nat.mod_eq_of_lt (by omega)
  rw [h2] at h1
  exact h1
theorem not_walk64 (x : Nat) (h : x < 18446744073709551616) : bits .xor .u64 IntKind.u64.max (x : Int) = ((18446744073709551615 - x : Nat) : Int) := by
  have e : IntKind.u64.max = ((18446744073709551615 : Nat) : Int) := by decide
  rw [e, u64_xor_nat _ _ (by decide) h, xor_ones64 x h]
theorem zig_neg_walk (n : Int) (h : n < 0) (h1 : -9223372036854775808 ≤ n) : bits .xor .u64 IntKind.u64.max (IntKind.u64.wrap (IntKind.u64.wrap n * 2)) = (zig n : Int) := by
  have e1 : IntKind.u64.wrap (IntKind.u64.wrap n * 2) = (((2 * n + 18446744073709551616).toNat : Nat) : Int) := by
    simp only [IntKind.wrap_u64]; omega
  rw [e1, not_walk64 _ (by omega), zig, if_pos h]
  omega
end Go.Proofs.Ytcbadcbnknmdnaa
namespace Go.Proofs.Ytcbadcbnknmdnaa
open Go.RowKit

structure Touch (S : Nat → Prop) (w w' : World) : Prop where
  os : w'.os = w.os
  tape : w'.tape = w.tape
  output : w'.output = w.output
  size : w.heap.size ≤ w'.heap.size
  block : ∀ k, k < w.heap.size → ¬ S k → w'.heap[k]? = w.heap[k]?

theorem Touch.refl (S : Nat → Prop) (w : World) : Touch S w w := ⟨rfl, rfl, rfl, Nat.le_refl _, fun _ _ _ => rfl⟩
theorem Touch.trans {S : Nat → Prop} {a b c : World} (h : Touch S a b) (k : Touch S b c) : Touch S a c :=
  ⟨k.os.trans h.os, k.tape.trans h.tape, k.output.trans h.output, Nat.le_trans h.size k.size, fun j hj hs => (k.block j (Nat.lt_of_lt_of_le hj h.size) hs).trans (h.block j hj hs)⟩
/-- Behind a call, blocks that were not there when it began may be turned too. -/
theorem Touch.trans' {S T : Nat → Prop} {a b c : World} (h : Touch S a b) (k : Touch T b c) (hT : ∀ j, j < a.heap.size → T j → S j) : Touch S a c :=
  ⟨k.os.trans h.os, k.tape.trans h.tape, k.output.trans h.output, Nat.le_trans h.size k.size, fun j hj hs => (k.block j (Nat.lt_of_lt_of_le hj h.size) (fun ht => hs (hT j hj ht))).trans (h.block j hj hs)⟩
theorem Touch.mono {S T : Nat → Prop} {w w' : World} (h : Touch S w w') (hS : ∀ k, k < w.heap.size → S k → T k) : Touch T w w' :=
  ⟨h.os, h.tape, h.output, h.size, fun k hk ht => h.block k hk fun hs => ht (hS k hk hs)⟩
theorem Touch.drew {S : Nat → Prop} {a w : World} (h : Touch S a w) : Touch S a w.drew := ⟨h.os, h.tape, h.output, h.size, h.block⟩
theorem Touch.drew0 {S : Nat → Prop} {w w' : World} (h : Touch S w.drew w') : Touch S w w' := ⟨h.os, h.tape, h.output, h.size, h.block⟩
theorem Touch.alloc {S : Nat → Prop} {a w : World} (h : Touch S a w) (o : Obj) : Touch S a (w.alloc o) :=
  ⟨h.os, h.tape, h.output, by have := h.size; simp; omega, fun k hk hs => (Below.heap_alloc w o k (Nat.lt_of_lt_of_le hk h.size)).trans (h.block k hk hs)⟩
theorem Touch.setCell {S : Nat → Prop} {a w : World} (h : Touch S a w) {p : Addr} (hp : p.block < a.heap.size → S p.block) (u : Value) : Touch S a (w.setCell p u) :=
  ⟨h.os, h.tape, h.output, by have := h.size; simp; omega, fun k hk hs => (Below.heap_setCell w p u k (fun e => hs (e ▸ hp (e ▸ hk)))).trans (h.block k hk hs)⟩
theorem Touch.cell {S : Nat → Prop} {w w' : World} (h : Touch S w w') {p : Addr} (hp : p.block < w.heap.size) (hs : ¬ S p.block) : w'.cell? p = w.cell? p := World.cell?_of_block (w := w) (h.block p.block hp hs)
theorem Touch.frozen {S : Nat → Prop} {w w' : World} (h : Touch S w w') {p : Addr} (hp : p.block < w.heap.size) (hs : ¬ S p.block) : w'.frozen? p = w.frozen? p := World.frozen?_of_block (w := w) (h.block p.block hp hs)
theorem Touch.below {S : Nat → Prop} {w w' : World} {B : Nat} (h : Touch S w w') (hB : B ≤ w.heap.size) (hS : ∀ k, k < B → ¬ S k) : Below B w w' :=
  ⟨h.os, h.tape, h.output, h.size, fun k hk => h.block k (Nat.lt_of_lt_of_le hk hB) (hS k hk)⟩
theorem touch_of_below {S : Nat → Prop} {w w' : World} (h : Below w.heap.size w w') : Touch S w w' :=
  ⟨h.os, h.tape, h.output, h.size, fun k hk _ => h.block k hk⟩
theorem below_of_touch {w w' : World} (h : Touch (fun _ => False) w w') : Below w.heap.size w w' :=
  ⟨h.os, h.tape, h.output, h.size, fun k hk => h.block k hk id⟩
theorem frozen_new (w : World) (c : Array Value) (t : TypeId) (j : Nat) : (w.alloc (.cells c t)).frozen? ⟨w.heap.size, j, none⟩ = false := by
  have h : (w.alloc (.cells c t)).heap[w.heap.size]? = some (.cells c t (0, 0)) := by
    show (w.heap.push (.cells c t))[w.heap.size]? = _
    simp
  unfold World.frozen?
  rw [h]
  simp
theorem frozen_old (w : World) (o : Obj) (p : Addr) (h : p.block < w.heap.size) : (w.alloc o).frozen? p = w.frozen? p :=
  ((Below.refl _ w).alloc (Nat.le_refl _) o).frozen h
end Go.Proofs.Ytcbadcbnknmdnaa
namespace Go.Proofs.Ytcbadcbnknmdnaa
open Go.RowKit
set_option linter.unusedVariables false

theorem ret_int {k : IntKind} {a b : Int} (h : a = b) : Ending.returned (.int k a) = .returned (.int k b) := by rw [h]
theorem take_snoc (s : ByteArray) (k : Nat) (h : k < s.size) : s.data.toList.take (k + 1) = s.data.toList.take k ++ [s[k]] := by
  rw [List.take_succ_eq_append_getElem (by simpa using h)]; rfl
theorem take_all (s : ByteArray) (k : Nat) (h : ¬ k < s.size) : s.data.toList.take k = s.data.toList :=
  List.take_of_length_le (by simp; omega)

def bls (ss : List ByteArray) : List (List UInt8) := ss.map fun s => s.data.toList
theorem bls_snoc (ss : List ByteArray) (k : Nat) (h : k < ss.length) : bls (ss.take (k + 1)) = bls (ss.take k) ++ [ss[k].data.toList] := by
  unfold bls; rw [List.take_succ_eq_append_getElem h, List.map_append]; rfl
theorem bls_all (ss : List ByteArray) (k : Nat) (h : ¬ k < ss.length) : bls (ss.take k) = bls ss := by
  rw [List.take_of_length_le (by omega)]
/-- WHAT A CALL IS TOLD OF A LIST OF TEXTS: its texts lie one behind the other from a on (of none nothing is asked). -/
def StrRow (w : World) (a : Option Addr) (ss : List ByteArray) : Prop :=
  ss.length ≤ maxLen ∧ (∀ (i : Nat) (h : i < ss.length), ss[i].size ≤ maxLen) ∧
    (0 < ss.length → ∃ b off, a = some ⟨b, off, none⟩ ∧ ∀ (i : Nat) (h : i < ss.length), w.cell? ⟨b, off + i, none⟩ = some (.string ss[i]))

theorem StrRow.below {w w' : World} {a : Option Addr} {ss : List ByteArray} {B : Nat} (h : StrRow w a ss) (hb : Below B w w') (hB : ∀ x, a = some x → x.block < B) : StrRow w' a ss := by
  refine ⟨h.1, h.2.1, fun h0 => ?_⟩
  obtain ⟨b, off, e, hc⟩ := h.2.2 h0
  exact ⟨b, off, e, fun i hi => by rw [hb.cell (p := ⟨b, off + i, none⟩) (by have := hB _ e; exact this)]; exact hc i hi⟩

theorem StrRow.keep {w w' : World} {a : Option Addr} {ss : List ByteArray} (h : StrRow w a ss) (hb : Below w.heap.size w w') : StrRow w' a ss := by
  refine ⟨h.1, h.2.1, fun h0 => ?_⟩
  obtain ⟨b, off, e, hc⟩ := h.2.2 h0
  exact ⟨b, off, e, fun i hi => by rw [hb.cell (p := ⟨b, off + i, none⟩) (block_lt_of_cell (hc i hi))]; exact hc i hi⟩

theorem add_any (f : Nat) (a : Option Addr) (cap : Nat) (ss : List ByteArray) (w : World) (hf : f < 18446744073709551616) (h : StrRow w a ss) :
    Calls Try.prog 111 #[.int .u64 f, .slice a ss.length cap] w fun e w' => e = .returned (.int .u64 (fnvL f (bls ss) : Nat)) ∧ w = w' := by
  obtain ⟨hl, hs, hc⟩ := h
  unfold maxLen at hl hs
  have HS0 := Lib.hid hs
  have HC0 := Lib.hid hc
  clear hs hc
  go_enter Try.func111, Try.ntmps111
  go_wp2
  go_loop [0, 10] (fun x i => ∃ k : Nat, k ≤ ss.length ∧ i = .int .i64 k ∧ x = .int .u64 (fnvL f (bls (ss.take k)) : Nat)) (fun _ i => ss.length - (intOf i).toNat)
  case atStart => exact ⟨0, by omega, rfl, rfl⟩
  case round =>
    obtain ⟨k, hk, rfl, rfl⟩ := hrel
    have hy := fnvL_lt (bls (ss.take k)) hf
    by_cases hlt : k < ss.length
    · have HS := Lib.hid (show fnvL f (bls (ss.take (k + 1))) = fnvS (fnvL f (bls (ss.take k))) ss[k].data.toList by rw [bls_snoc ss k hlt, fnvL_snoc])
      obtain ⟨b, off, rfl, hcell⟩ := HC0.out (by omega)
      have hc := hcell k hlt
      have hsz := HS0.out k hlt
      clear hcell
      generalize fnvL f (bls (ss.take k)) = x0 at hy HS ⊢
      generalize ss[k] = s at hc hsz HS
      go_wp2
      go_loop [0, 16] (fun x i => ∃ j : Nat, j ≤ s.size ∧ i = .int .i64 j ∧ x = .int .u64 (fnvS x0 (s.data.toList.take j) : Nat)) (fun _ i => s.size - (intOf i).toNat)
      case atStart => exact ⟨0, by omega, rfl, rfl⟩
      case round =>
        obtain ⟨j, hj, rfl, rfl⟩ := hrel
        have hz := fnvS_lt (s.data.toList.take j) hy
        by_cases hjl : j < s.size
        · have HT := Lib.hid (show fnvS x0 (s.data.toList.take (j + 1)) = fnvB (fnvS x0 (s.data.toList.take j)) s[j] by rw [take_snoc s j hjl, fnvS_snoc])
          go_wp2
          go_round
          case rel => exact ⟨j + 1, by omega, by go_num, by rw [fnvB_walk _ _ hz, HT.out]⟩
          case measure => simp [intOf]; omega
        · go_wp2
          go_round
          case rel => exact ⟨k + 1, by omega, by go_num, by rw [HS.out, take_all s j hjl]⟩
          case measure => simp [intOf]; omega
    · go_wp2
      go_ret
      exact ⟨ret_int (by rw [bls_all ss k hlt]), rfl⟩

theorem of_any (a : Option Addr) (cap : Nat) (ss : List ByteArray) (w : World) (h : StrRow w a ss) :
    Calls Try.prog 84 #[.slice a ss.length cap] w fun e w' => e = .returned (.int .u64 (fnvL 14695981039346656037 (bls ss) : Nat)) ∧ w = w' := by
  have hc := add_any 14695981039346656037 a cap ss w (by decide) h
  rw [show ((14695981039346656037 : Nat) : Int) = 14695981039346656037 from rfl] at hc
  have H := Lib.hid hc
  clear hc
  go_enter Try.func84, Try.ntmps84
  go_wp2_with (go_at_call 111; refine H.out.mono ?_; rintro e w' ⟨rfl, rfl⟩)
  go_ret
  exact ⟨rfl, rfl⟩

theorem row_one (w : World) (b : Nat) (s : ByteArray) (hs : s.size ≤ maxLen) (hc : w.cell? ⟨b, 0, none⟩ = some (.string s)) : StrRow w (some ⟨b, 0, none⟩) [s] := by
  refine ⟨by simp [maxLen], fun i h => ?_, fun _ => ⟨b, 0, rfl, fun i h => ?_⟩⟩
  · obtain rfl : i = 0 := by simpa using h
    exact hs
  · obtain rfl : i = 0 := by simpa using h
    exact hc
/-- One text as a list of texts: what the sums of it are. -/
theorem of_one (b : Nat) (cap : Nat) (s : ByteArray) (w : World) (hs : s.size ≤ maxLen) (hc : w.cell? ⟨b, 0, none⟩ = some (.string s)) :
    Calls Try.prog 84 #[.slice (some ⟨b, 0, none⟩) 1 cap] w fun e w' => e = .returned (.int .u64 (fnvS 14695981039346656037 s.data.toList : Nat)) ∧ w = w' := by
  have := of_any (some ⟨b, 0, none⟩) cap [s] w (row_one w b s hs hc)
  rw [fnvL_flat] at this
  simpa [bls] using this
/-- At most n bytes. -/
def cutB (s : ByteArray) (n : Nat) : ByteArray := if n < s.size then s.extract 0 n else s
theorem cut_any (s : ByteArray) (n : Nat) (w : World) (hs : s.size ≤ maxLen) (hn : n ≤ 100000) :
    Calls Try.prog 21 #[.string s, .int .i64 n] w fun e w' => e = .returned (.string (cutB s n)) ∧ w = w' := by
  unfold maxLen at hs
  by_cases h : n < s.size
  · go_enter Try.func21, Try.ntmps21
    go_wp2
    go_ret
    exact ⟨by unfold cutB; rw [if_pos h]; rfl, rfl⟩
  · go_enter Try.func21, Try.ntmps21
    go_wp2
    go_ret
    exact ⟨by unfold cutB; rw [if_neg h]; rfl, rfl⟩
theorem cutB_le (s : ByteArray) (n : Nat) : (cutB s n).size ≤ n := by
  unfold cutB; split
  · simp; omega
  · omega
theorem cutB_le' (s : ByteArray) (n : Nat) (h : n ≤ 100000) : (cutB s n).size ≤ maxLen := by
  have := cutB_le s n; unfold maxLen; omega
theorem of_a (b : Nat) (cap : Nat) (w : World) (hc : w.cell? ⟨b, 0, none⟩ = some (.string ⟨#[97]⟩)) :
    Calls Try.prog 84 #[.slice (some ⟨b, 0, none⟩) 1 cap] w fun e w' => e = .returned (.int .u64 12638187200555641996) ∧ w = w' := by
  have h := of_one b cap ⟨#[97]⟩ w (by decide) hc
  rw [show fnvS 14695981039346656037 (ByteArray.mk #[97]).data.toList = 12638187200555641996 from by decide +kernel] at h
  exact h
end Go.Proofs.Ytcbadcbnknmdnaa
namespace Go.Proofs.Ytcbadcbnknmdnaa
open Go.RowKit
set_option linter.unusedVariables false

theorem str_ne {a b : ByteArray} (h : a.data.toList ≠ b.data.toList) : (a.toList == b.toList) = false := by
  rw [ByteArray.toList_eq, ByteArray.toList_eq]; simpa using h
theorem str_eq (a : ByteArray) : (a.toList == a.toList) = true := by simp
theorem getD_at (s : ByteArray) (j : Nat) (h : j < s.size) : s.data.toList.getD j 0 = s[j] := by
  rw [List.getD_eq_getElem?_getD, List.getElem?_eq_getElem (by simpa using h)]; rfl
theorem bytesWorld_below (w : World) (e : TypeId) (s : ByteArray) : Below w.heap.size w (Lib.bytesWorld w e s) := by
  refine ⟨?_, ?_, ?_, ?_, fun k hk => Lib.bytesWorld_at_old w e s k hk⟩
  · simp [Lib.bytesWorld, World.freeze, World.alloc, World.drew, -World.alloc_eq, -World.drew_eq]
  · simp [Lib.bytesWorld, World.freeze, World.alloc, World.drew, -World.alloc_eq, -World.drew_eq]
  · simp [Lib.bytesWorld, World.freeze, World.alloc, World.drew, -World.alloc_eq, -World.drew_eq]
  · rw [Lib.bytesWorld_size]; omega
/-- '[]byte(s)': a list of its own. -/
theorem bytes_of (w : World) (s : ByteArray) : ∃ cap w2, (convert 9 63 (.string s)).run Try.prog w = .ok (.slice (some ⟨w.heap.size, 0, none⟩) s.size cap) w2 ∧
    Below w.heap.size w w2 ∧ w.heap.size < w2.heap.size ∧ (∀ j (h : j < s.size), w2.cell? ⟨w.heap.size, j, none⟩ = some (.int .u8 (s[j].toNat : Int))) ∧ (∀ j, j < s.size → w2.frozen? ⟨w.heap.size, j, none⟩ = false) := by
  refine ⟨_, _, Lib.run_convert_string_bytes (P := Try.prog) w 9 63 5 s Try.underlying9 Try.underlying63 Try.underlying5, bytesWorld_below _ _ _, by rw [Lib.bytesWorld_size]; omega, fun j h => ?_, fun j h => ?_⟩
  · rw [Lib.bytesWorld_cell w _ s j h]
    rw [getD_at s j h]
  · unfold World.frozen?
    rw [Lib.bytesWorld_at_new]
    have : (Lib.bytesCells w 5 s).size = s.size + (grownCap w s.size 0 5 - s.size) := by
      simp [Lib.bytesCells]
    simp [this]
    omega
/-- 'string(b)' of bytes that lie one behind the other. -/
theorem bytes_back (w : World) (b cap n : Nat) (l : List UInt8) (hn : n = l.length) (hc : ∀ j (hj : j < l.length), w.cell? ⟨b, j, none⟩ = some (.int .u8 (l[j].toNat : Int))) :
    (convert 63 9 (.slice (some ⟨b, 0, none⟩) n cap)).run Try.prog w = .ok (.string ⟨l.toArray⟩) w := by
  subst hn
  exact run_convert_bytes_back (P := Try.prog) w 63 9 5 ⟨b, 0, none⟩ cap l Try.underlying63 Try.underlying5 Try.underlying9 (fun j hj => by have := hc j hj; cases j <;> simpa [Addr.add] using this)
/-- The bytes of s, the one at i turned by c. -/
def bent (s : ByteArray) (i c : Nat) : List UInt8 := s.data.toList.set i (UInt8.ofNat ((s.data.toList.getD i 0).toNat ^^^ c))
theorem bent_length (s : ByteArray) (i c : Nat) : (bent s i c).length = s.size := by
  unfold bent; simp
theorem bent_cells (s : ByteArray) (i c : Nat) (hi : i < s.size) (hcl : c < 256) (w : World) (b : Nat) (hc : ∀ j (h : j < s.size), w.cell? ⟨b, j, none⟩ = some (.int .u8 (s[j].toNat : Int))) :
    ∀ j (hj : j < (bent s i c).length), (w.setCell ⟨b, i, none⟩ (.int .u8 (bits .xor .u8 (s[i].toNat : Int) (c : Int)))).cell? ⟨b, j, none⟩ = some (.int .u8 ((bent s i c)[j].toNat : Int)) := by
  intro j hj
  rw [bent_length] at hj
  have hi' : i < s.data.toList.length := by simpa using hi
  have hj' : j < s.data.toList.length := by simpa using hj
  have e := getD_at s i hi
  by_cases h : i = j
  · subst h
    rw [World.cell?_setCell_same _ _ _ (hc i hi), u8_xor_nat _ _ (byte_lt _) hcl]
    simp only [bent, List.getElem_set_self, e]
    have hx := xor_lt8 (byte_lt s[i]) hcl
    rw [UInt8.toNat_ofNat_of_lt' (by simpa using hx)]
  · rw [World.cell?_setCell_other _ _ _ _ (by intro hh; cases hh; exact h rfl), hc j hj]
    simp only [bent, List.getElem_set_ne h]
    rfl
theorem bent_crc (s : ByteArray) (i c : Nat) (hi : i < s.size) (hcl : c < 256) (h0 : c ≠ 0) (x : Nat) (hx : x < 4294967296) : crcS x (bent s i c) ≠ crcS x s.data.toList := by
  have hi' : i < s.data.toList.length := by simpa using hi
  refine crcS_set _ i hi' _ ?_ x hx
  have e : s.data.toList.getD i 0 = s.data.toList[i] := by rw [List.getD_eq_getElem?_getD, List.getElem?_eq_getElem hi']; rfl
  rw [e]
  intro h
  have h2 := congrArg UInt8.toNat h
  rw [UInt8.toNat_ofNat_of_lt' (by simpa using xor_lt8 (byte_lt _) hcl)] at h2
  exact xor_byte_ne h0 h2
end Go.Proofs.Ytcbadcbnknmdnaa
namespace Go.Proofs.Ytcbadcbnknmdnaa
open Go.RowKit
set_option linter.unusedVariables false

section
variable {P : Program} (w : World)

theorem append_exact (t ty e : TypeId) (i : TypeInfo) (z : Value) (size bytes : Nat) (ht : P.underlying t = some (.slice e)) (hi : P.info? e = some i) (hz : i.zero = some z)
    (hsize : i.size = size) (hby : i.bytes = bytes) (hzs : z.cells.size = size) (hsz : 0 < size)
    (v : Value) (n : Nat) (xs : List Value) (hown : w.ownsRow 0 e size v n xs)
    (a : Addr) (m c : Nat) (news : List Value) (hl : news.length = m * size) (hnews : ∀ j u, news[j]? = some u → w.cell? (a.add j) = some u) (h1 : ∀ u ∈ news, u.oneCell' = true)
    (h63 : n + m ≤ maxLen) (hbytes : (n + m) * bytes ≤ 140737488355328) :
    ∃ v' w', (Builtin.append_ #[t, t] ty #[v, .slice (some a) m c]).run P w = .ok v' w' ∧ w'.ownsRow 0 e size v' (n + m) (xs ++ news) ∧ w.grownBy w' v.ownBlock ∧
      (∀ k, v'.ownBlock = some k → v.ownBlock = some k ∨ w.heap.size ≤ k) := by
  obtain ⟨v', w', hr, ho, hg, hn⟩ := run_append_own (P := P) w 0 t ty e i z size bytes ht hi hz hsize hby hzs hsz v n xs hown a m c news hl hnews h1 h63 hbytes (Nat.zero_le _)
  refine ⟨v', w', hr, ho, hg, fun k hk => ?_⟩
  rcases hown.2 with ⟨rfl, rfl⟩ | ⟨g, cap, cur, rfl, -, hgg, hnc, hcm, hcs, htake⟩
  · obtain ⟨v2, w2, hr2, ho2, -, -⟩ := run_append_own (P := P) w w.heap.size t ty e i z size bytes ht hi hz hsize hby hzs hsz (.slice none 0 0) 0 xs ⟨hown.1, .inl ⟨rfl, rfl⟩⟩ a m c news hl hnews h1 h63 hbytes (Nat.le_refl _)
    rw [hr] at hr2
    injection hr2 with e1 e2
    subst e1; subst e2
    exact .inr (ho2.lt k hk).1
  · subst hsize
    by_cases hroom : n + m ≤ cap
    · have hfit : n * i.size + news.length ≤ cur.size := by rw [hl, hcs, ← Nat.add_mul]; exact Nat.mul_le_mul_right _ hroom
      have hr2 := run_append_room (P := P) w t ty e i ht hi g n cap cur hgg a m c news hl hnews h1 hroom hfit
      rw [hr] at hr2
      injection hr2 with e1 e2
      subst e1
      exact .inl hk
    · have holds : ∀ j u, xs[j]? = some u → w.cell? ((⟨g, 0, none⟩ : Addr).add j) = some u := hown.cells (g := g) rfl
      have hr2 := run_append_grow (P := P) w t ty e i z ht hi hz ⟨g, 0, none⟩ n cap xs hown.1 holds a m c news hl hnews (by omega) (by unfold maxLen at h63; omega) (growslice_fits (by omega) (by rw [hby]; exact hbytes))
      rw [hr] at hr2
      injection hr2 with e1 e2
      subst e1
      simp [Value.ownBlock] at hk
      exact .inr (by omega)

theorem append_exact_string (t u ty e : TypeId) (i : TypeInfo) (ht : P.underlying t = some (.slice e)) (hu : P.underlying u = some .string) (hi : P.info? e = some i) (hz : i.zero = some (.int .u8 0))
    (hsize : i.size = 1) (hby : i.bytes = 1) (v : Value) (n : Nat) (xs : List Value) (hown : w.ownsRow 0 e 1 v n xs) (s : ByteArray)
    (h63 : n + s.size ≤ maxLen) (hbytes : n + s.size ≤ 140737488355328) :
    ∃ v' w', (Builtin.append_ #[t, u] ty #[v, .string s]).run P w = .ok v' w' ∧ w'.ownsRow 0 e 1 v' (n + s.size) (xs ++ Lib.strCells s) ∧ w.grownBy w' v.ownBlock ∧
      (∀ k, v'.ownBlock = some k → v.ownBlock = some k ∨ w.heap.size ≤ k) := by
  obtain ⟨v', w', hr, ho, hg, hn⟩ := Lib.run_append_own_string (P := P) w 0 t u ty e i ht hu hi hz hsize hby v n xs hown s h63 hbytes (Nat.zero_le _)
  refine ⟨v', w', hr, ho, hg, fun k hk => ?_⟩
  rcases hown.2 with ⟨rfl, rfl⟩ | ⟨g, cap, cur, rfl, -, hgg, hnc, hcm, hcs, htake⟩
  · obtain ⟨v2, w2, hr2, ho2, -, -⟩ := Lib.run_append_own_string (P := P) w w.heap.size t u ty e i ht hu hi hz hsize hby (.slice none 0 0) 0 xs ⟨hown.1, .inl ⟨rfl, rfl⟩⟩ s h63 hbytes (Nat.le_refl _)
    rw [hr] at hr2
    injection hr2 with e1 e2
    subst e1; subst e2
    exact .inr (ho2.lt k hk).1
  · by_cases hroom : n + s.size ≤ cap
    · have hr2 := Lib.run_append_room_string (P := P) w t u ty e i ht hu hi hsize g n cap cur hgg s hroom (by omega)
      rw [hr] at hr2
      injection hr2 with e1 e2
      subst e1
      exact .inl hk
    · have holds : ∀ j u, xs[j]? = some u → w.cell? ((⟨g, 0, none⟩ : Addr).add j) = some u := hown.cells (g := g) rfl
      have hr2 := Lib.run_append_grow_string (P := P) w t u ty e i (.int .u8 0) ht hu hi hz ⟨g, 0, none⟩ n cap xs (by rw [hsize]; exact hown.1) holds s (by omega) (by unfold maxLen at h63; omega) (growslice_fits (by omega) (by rw [hby]; omega))
      rw [hr] at hr2
      injection hr2 with e1 e2
      subst e1
      simp [Value.ownBlock] at hk
      exact .inr (by omega)

/-- The step over an append whose run is known. -/
theorem wpList_append_run {ops : Array Oper} {rest : List Oper} {o : Oper} {a : Act} {Q : Exit → Act → World → Prop} (hgd : o.guard = none) (s x : Operand) (t u : TypeId)
    (ho : o.op = .call { callee := .builtin .append, args := #[s, x], argTypes := #[t, u] }) (v xv : Value) (hs : a.eval s = v) (hx : a.eval x = xv) (v' : Value) (w' : World)
    (hr : (Builtin.append_ #[t, u] o.type #[v, xv]).run P w = .ok v' w') (h : wpList P ops Q rest (a.put o.dst v') w') : wpList P ops Q (o :: rest) a w := by
  refine wpList_plain hgd fun K hK => ?_
  unfold Oper.wp execOp
  simp only [ho, resolve, invoke, builtin, Sem.run_bind, Sem.run_pure, Result.andThen_ok, List.map_toArray, List.map_cons, List.map_nil, hs, hx, hr]
  exact hK _ _ h
/-- The same, as a step of a region that draws its order. -/
theorem step_append_run {ops : Array Oper} {o : Oper} {a : Act} {K : Act → World → Prop} {Q : Exit → Act → World → Prop} {E : Prop} (hgd : o.guard = none) (s x : Operand) (t u : TypeId)
    (ho : o.op = .call { callee := .builtin .append, args := #[s, x], argTypes := #[t, u] }) (v xv : Value) (hs : a.eval s = v) (hx : a.eval x = xv) (v' : Value) (w' : World)
    (hr : (Builtin.append_ #[t, u] o.type #[v, xv]).run P w = .ok v' w') (h : K (a.put o.dst v') w') : if Region.wanted o (yielded ops a.tmps) = true then Oper.wp P o a w K Q else E := by
  rw [if_pos (by simp [Region.wanted, hgd])]
  unfold Oper.wp execOp
  simp only [ho, resolve, invoke, builtin, Sem.run_bind, Sem.run_pure, Result.andThen_ok, List.map_toArray, List.map_cons, List.map_nil, hs, hx, hr]
  exact h
end
end Go.Proofs.Ytcbadcbnknmdnaa
namespace Go.Proofs.Ytcbadcbnknmdnaa
open Go.RowKit
set_option linter.unusedVariables false

theorem info5 : (Try.prog.info? 5).map (fun i => (i.zero, i.size, i.bytes)) = some (some (.int .u8 0), 1, 1) := by kernel_rfl
def byteV (c : UInt8) : Value := .int .u8 (c.toNat : Int)
/-- Bytes that grow lie at block b: v is the list that holds them, in a row of its own. -/
def OutAt (w : World) (b : Nat) (v : Value) (l : List UInt8) : Prop :=
  w.cell? ⟨b, 0, none⟩ = some v ∧ w.frozen? ⟨b, 0, none⟩ = false ∧ w.ownsRow 0 5 1 v l.length (l.map byteV) ∧ v.ownBlock ≠ some b
/-- What a call leaves that puts bytes behind: these bytes; no other block is turned but the thing itself and its row. -/
def OutTo (w : World) (b : Nat) (v : Value) (l : List UInt8) (w' : World) : Prop :=
  ∃ v', OutAt w' b v' l ∧ (∀ k, v'.ownBlock = some k → v.ownBlock = some k ∨ w.heap.size ≤ k) ∧ Touch (fun k => k = b ∨ v.ownBlock = some k) w w'
theorem OutAt.lt {w : World} {b : Nat} {v : Value} {l : List UInt8} (h : OutAt w b v l) : b < w.heap.size := block_lt_of_cell h.1
theorem OutAt.to {w : World} {b : Nat} {v : Value} {l : List UInt8} (h : OutAt w b v l) : OutTo w b v l w := ⟨v, h, fun k hk => .inl hk, Touch.refl _ _⟩
theorem OutTo.trans {w w1 w2 : World} {b : Nat} {v v1 : Value} {l1 l2 : List UInt8} (h1 : OutAt w1 b v1 l1) (hf : ∀ k, v1.ownBlock = some k → v.ownBlock = some k ∨ w.heap.size ≤ k) (ht : Touch (fun k => k = b ∨ v.ownBlock = some k) w w1) (h2 : OutTo w1 b v1 l2 w2) : OutTo w b v l2 w2 := by
  obtain ⟨v2, h3, h4, h5⟩ := h2
  refine ⟨v2, h3, fun k hk => ?_, ht.trans' h5 fun k hk hT => ?_⟩
  · rcases h4 k hk with h | h
    · exact hf k h
    · exact .inr (Nat.le_trans ht.size h)
  · rcases hT with h | h
    · exact .inl h
    · rcases hf k h with h' | h'
      · exact .inr h'
      · omega
theorem OutAt.slice {w : World} {b : Nat} {v : Value} {l : List UInt8} (h : OutAt w b v l) : ∃ a cap, v = .slice a l.length cap := by
  rcases h.2.2.1.2 with ⟨hv, h0⟩ | ⟨g, cap, cur, hv, -⟩
  · exact ⟨none, 0, by rw [hv, h0]⟩
  · exact ⟨_, cap, hv⟩
/-- WHAT A CALL IS TOLD OF A LIST OF NUMBERS (kind k). -/
def IntRow (k : IntKind) (w : World) (a : Option Addr) (ns : List Int) : Prop :=
  0 < ns.length → ∃ b off, a = some ⟨b, off, none⟩ ∧ ∀ (i : Nat) (h : i < ns.length), w.cell? ⟨b, off + i, none⟩ = some (.int k ns[i])
theorem touch_grown {w w' : World} {row : Option Nat} (h : w.grownBy w' row) : Touch (fun k => row = some k) w w' :=
  ⟨h.os, h.tape, h.output, h.size, fun k hk hs => h.block k hk (fun e => hs e.symm)⟩
theorem grown_set (w : World) (b : Nat) (v : Value) : w.grownBy (w.setCell ⟨b, 0, none⟩ v) (some b) :=
  ⟨rfl, rfl, rfl, by simp, fun k _ hk => Below.heap_setCell w ⟨b, 0, none⟩ v k (fun e => hk (by rw [e]))⟩
/-- Bytes put behind: what the append and the store come to. -/
theorem out_put {w wa w1 : World} {b : Nat} {v v' : Value} {l m : List UInt8} (h : OutAt w b v l) (ha : Touch (fun _ => False) w wa) (hown : w1.ownsRow 0 5 1 v' (l.length + m.length) (l.map byteV ++ m.map byteV)) (hg : wa.grownBy w1 v.ownBlock)
    (hf : ∀ k, v'.ownBlock = some k → v.ownBlock = some k ∨ wa.heap.size ≤ k) :
    w1.cell? ⟨b, 0, none⟩ = some v ∧ w1.frozen? ⟨b, 0, none⟩ = false ∧ OutTo w b v (l ++ m) (w1.setCell ⟨b, 0, none⟩ v') := by
  have hb := h.lt
  have ht : Touch (fun k => v.ownBlock = some k) w w1 := (ha.mono (fun _ _ hh => hh.elim)).trans (touch_grown hg)
  have hc : w1.cell? ⟨b, 0, none⟩ = some v := (ht.cell (p := ⟨b, 0, none⟩) hb h.2.2.2).trans h.1
  have hz : w1.frozen? ⟨b, 0, none⟩ = false := (ht.frozen (p := ⟨b, 0, none⟩) hb h.2.2.2).trans h.2.1
  have hvb : v'.ownBlock ≠ some b := fun e => by
    rcases hf b e with h' | h'
    · exact h.2.2.2 h'
    · have := ha.size; omega
  refine ⟨hc, hz, v', ⟨World.cell?_setCell_same _ _ _ hc, by simpa using hz, ?_, hvb⟩, fun k hk => ?_, ?_⟩
  · have := hown.kept (grown_set w1 b v') (.inr hvb)
    simpa using this
  · rcases hf k hk with h' | h'
    · exact .inl h'
    · exact .inr (Nat.le_trans ha.size h')
  · exact (ht.mono (fun k _ hh => .inr hh)).setCell (p := ⟨b, 0, none⟩) (fun _ => .inl rfl) _
/-- One byte more. -/
theorem out_byte {w : World} {b : Nat} {v : Value} {l : List UInt8} (c : UInt8) (x : Int) (hx : x = (c.toNat : Int)) (h : OutAt w b v l) (hl : l.length ≤ 1000000000) :
    ∃ a cap w1, (Builtin.append_ #[63, 63] 63 #[v, .slice (some ⟨w.heap.size, 0, none⟩) 1 1]).run Try.prog (w.alloc (.cells #[.int .u8 x] 5)) = .ok (.slice a (l.length + 1) cap) w1 ∧
      w1.cell? ⟨b, 0, none⟩ = some v ∧ w1.frozen? ⟨b, 0, none⟩ = false ∧ OutTo w b v (l ++ [c]) (w1.setCell ⟨b, 0, none⟩ (.slice a (l.length + 1) cap)) := by
  subst hx
  obtain ⟨i0, hi, hz0, hz1, hz2⟩ := info_parts info5
  obtain ⟨v', w1, hr, ho, hg, hf⟩ := append_exact (P := Try.prog) (w.alloc (.cells #[byteV c] 5)) 63 63 5 i0 (.int .u8 0) 1 1 Try.underlying63 hi hz0 hz1 hz2 rfl (by decide) v l.length (l.map byteV) (h.2.2.1.alloc _)
    ⟨w.heap.size, 0, none⟩ 1 1 [byteV c] rfl (fun j u hj => by
      match j, hj with
      | 0, hj => simp at hj; subst hj; simp [Addr.add]) (fun u hu => by simp at hu; subst hu; rfl) (by unfold maxLen; omega) (by omega)
  have h3 := out_put (m := [c]) h ((Touch.refl (fun _ => False) w).alloc _) ho hg hf
  have hsh : ∃ a cap, v' = .slice a (l.length + 1) cap := by
    rcases ho.2 with ⟨hv, h0⟩ | ⟨g, cap, cur, hv, -⟩
    · omega
    · exact ⟨_, cap, hv⟩
  obtain ⟨a, cap, rfl⟩ := hsh
  exact ⟨a, cap, w1, hr, h3⟩
/-- A text's bytes more. -/
theorem out_text {w : World} {b : Nat} {v : Value} {l : List UInt8} (s : ByteArray) (h : OutAt w b v l) (hl : l.length + s.size ≤ 1000000000) :
    ∃ a n cap w1, (Builtin.append_ #[63, 9] 63 #[v, .string s]).run Try.prog w = .ok (.slice a n cap) w1 ∧
      w1.cell? ⟨b, 0, none⟩ = some v ∧ w1.frozen? ⟨b, 0, none⟩ = false ∧ OutTo w b v (l ++ s.data.toList) (w1.setCell ⟨b, 0, none⟩ (.slice a n cap)) := by
  obtain ⟨i0, hi, hz0, hz1, hz2⟩ := info_parts info5
  obtain ⟨v', w1, hr, ho, hg, hf⟩ := append_exact_string (P := Try.prog) w 63 9 63 5 i0 Try.underlying63 Try.underlying9 hi hz0 hz1 hz2 v l.length (l.map byteV) h.2.2.1 s (by unfold maxLen; omega) (by omega)
  have hsz : s.size = s.data.toList.length := by simp
  rw [hsz] at ho
  have h3 := out_put (m := s.data.toList) h (Touch.refl (fun _ => False) w) ho hg hf
  have hsh : ∃ a n cap, v' = .slice a n cap := by
    rcases ho.2 with ⟨hv, h0⟩ | ⟨g, cap, cur, hv, -⟩
    · exact ⟨_, _, _, hv⟩
    · exact ⟨_, _, cap, hv⟩
  obtain ⟨a, n, cap, rfl⟩ := hsh
  exact ⟨a, n, cap, w1, hr, h3⟩
theorem outRaw_any (b : Nat) (v : Value) (l : List UInt8) (s : ByteArray) (w : World) (h : OutAt w b v l) (hl : l.length + s.size ≤ 1000000000) :
    Calls Try.prog 118 #[.pointer (some ⟨b, 0, none⟩), .string s] w fun r w' => r = .returned (.pointer (some ⟨b, 0, none⟩)) ∧ OutTo w b v (l ++ s.data.toList) w' := by
  obtain ⟨a, n, cap, w1, hr, hc, hz, ho⟩ := out_text s h hl
  obtain ⟨a0, cap0, rfl⟩ := h.slice
  have h0 := h.1
  have HO := Lib.hid ho
  have HR := Lib.hid hr
  clear ho h hr
  go_enter Try.func118, Try.ntmps118
  go_wp2_with (at_builtin; refine wpList_append_run _ rfl (.tmp 9) (.tmp 10) 63 9 rfl _ _ rfl rfl (.slice a n cap) w1 HR.out ?_)
  go_ret
  exact ⟨rfl, HO.out⟩
theorem out_back {w : World} {b : Nat} {v : Value} {l : List UInt8} (h : OutAt w b v l) : (convert 63 9 v).run Try.prog w = .ok (.string (bs l)) w := by
  rcases h.2.2.1.2 with ⟨hv, h0⟩ | ⟨g, cap, cur, hv, -⟩
  · obtain rfl : l = [] := List.eq_nil_of_length_eq_zero h0
    subst hv
    rw [run_convert_bytes_string w 63 9 5 none 0 0 Try.underlying63 Try.underlying5 Try.underlying9]
    simp [Conv.bytesToString]
    rfl
  · have hc := h.2.2.1.cells (g := g) (by rw [hv]; rfl)
    subst hv
    refine bytes_back w g cap l.length l rfl fun j hj => ?_
    have := hc j (byteV l[j]) (by simp [hj])
    cases j <;> simpa [Addr.add, byteV] using this
theorem outText_any (b : Nat) (v : Value) (l : List UInt8) (w : World) (h : OutAt w b v l) :
    Calls Try.prog 27 #[.pointer (some ⟨b, 0, none⟩)] w fun r w' => r = .returned (.string (bs l)) ∧ w = w' := by
  have hback := out_back h
  obtain ⟨a0, cap0, rfl⟩ := h.slice
  have h0 := h.1
  clear h
  go_enter Try.func27, Try.ntmps27
  go_wp2
  go_ret
  exact ⟨rfl, rfl⟩
theorem outNum_any (b : Nat) (v : Value) (l : List UInt8) (a : Option Addr) (cap : Nat) (ns : List Nat) (w : World) (h : OutAt w b v l) (hl : l.length + 10 * ns.length ≤ 1000000000) (hns : ∀ n ∈ ns, n < 18446744073709551616)
    (hr : IntRow .u64 w a (ns.map Int.ofNat)) (hd : ∀ x, a = some x → x.block ≠ b ∧ v.ownBlock ≠ some x.block) :
    Calls Try.prog 79 #[.pointer (some ⟨b, 0, none⟩), .slice a ns.length cap] w fun r w' => r = .returned (.pointer (some ⟨b, 0, none⟩)) ∧ OutTo w b v (l ++ numsB ns) w' := by
  have HO := Lib.hid h
  have HR := Lib.hid hr
  have HD := Lib.hid hd
  have HN := Lib.hid hns
  clear h hr hd hns
  go_enter Try.func79, Try.ntmps79
  go_wp2
  go_loopw [9] (fun i wr => ∃ k : Nat, k ≤ ns.length ∧ i = .int .i64 k ∧ Hid (OutTo w b v (l ++ numsB (ns.take k)) wr)) (fun i _ => ns.length - (intOf i).toNat)
  case atStart => exact ⟨0, by omega, rfl, Lib.hid (by simpa [numsB] using HO.out.to)⟩
  case round =>
    obtain ⟨k, hk, rfl, H⟩ := hrel
    by_cases hlt : k < ns.length
    · have hmk : k < (ns.map Int.ofNat).length := by simpa using hlt
      obtain ⟨rb, off, rfl, hcell⟩ := HR.out (by omega)
      obtain ⟨hd1, hd2⟩ := HD.out _ rfl
      have hcw : w.cell? ⟨rb, off + k, none⟩ = some (.int .u64 (ns[k] : Nat)) := by have := hcell k hmk; simpa using this
      have hrb : rb < w.heap.size := block_lt_of_cell hcw
      obtain ⟨v1, hat, hf, ht⟩ := H.out
      have hc : wr.cell? ⟨rb, off + k, none⟩ = some (.int .u64 (ns[k] : Nat)) := (ht.cell (p := ⟨rb, off + k, none⟩) hrb (by rintro (h | h); exact hd1 h; exact hd2 h)).trans hcw
      have hnk := HN.out ns[k] (List.getElem_mem hlt)
      have HS := Lib.hid (numsB_snoc ns k hlt)
      have HNK := Lib.hid hnk
      have hlen := numsB_len (ns.take (k + 1)) (fun n hn => HN.out n (List.mem_of_mem_take hn))
      have HLen : Hid ((l ++ numsB (ns.take (k + 1))).length ≤ 1000000000) := Lib.hid (by simp only [List.length_append]; have := List.length_take_le (k + 1) ns; omega)
      clear hcell hcw hd1 hd2 hat hf ht hnk hlen
      generalize ns[k] = n0 at hc HS HNK
      go_wp2_with fail
      go_loopw [6] (fun x wq => ∃ (m : Nat) (L : List UInt8), x = .int .u64 m ∧ Hid (l ++ numsB (ns.take (k + 1)) = L ++ numB m) ∧ Hid (OutTo w b v L wq)) (fun x _ => (intOf x).toNat)
      case atStart => exact ⟨n0, l ++ numsB (ns.take k), rfl, Lib.hid (by rw [HS.out, List.append_assoc]), H⟩
      case round =>
        obtain ⟨m, L, rfl, H1, H2⟩ := hrel
        have hL : L.length ≤ 1000000000 := by
          have := HLen.out
          rw [H1.out, List.length_append] at this
          omega
        obtain ⟨v1, hat, hf, ht⟩ := H2.out
        by_cases hge : 128 ≤ m
        · have hgb : decide ((128 : Int) ≤ (m : Int)) = true := by simp; omega
          obtain ⟨a2, cap2, w1, hr, hc1, hz1, ho⟩ := out_byte (byteOf (m % 128 + 128)) _ (or128_walk' m) hat hL
          obtain ⟨a1, cap1, rfl⟩ := hat.slice
          have h0 := hat.1
          have HAT := Lib.hid hat
          have HF := Lib.hid hf
          have HTT := Lib.hid ht
          have HR1 := Lib.hid hr
          have HO1 := Lib.hid ho
          have HG := Lib.hid hge
          clear hge hat hf ht hr ho hL
          go_wp2_with (at_builtin; refine wpList_append_run _ rfl (.tmp 19) (.tmp 23) 63 63 rfl _ _ rfl rfl (.slice a2 (L.length + 1) cap2) w1 HR1.out ?_)
          go_roundw
          case rel => exact ⟨m / 128, L ++ [byteOf (m % 128 + 128)], by go_num, Lib.hid (by rw [H1.out, numB_ge HG.out]; simp), Lib.hid (OutTo.trans HAT.out HF.out HTT.out HO1.out)⟩
          case measure => have := HG.out; simp [intOf]; omega
        · have hgb : decide ((128 : Int) ≤ (m : Int)) = false := by simp; omega
          obtain ⟨a2, cap2, w1, hr, hc1, hz1, ho⟩ := out_byte (byteOf m) _ (low_walk m (by omega)) hat hL
          obtain ⟨a1, cap1, rfl⟩ := hat.slice
          have h0 := hat.1
          have HAT := Lib.hid hat
          have HF := Lib.hid hf
          have HTT := Lib.hid ht
          have HR1 := Lib.hid hr
          have HO1 := Lib.hid ho
          have HG := Lib.hid hge
          clear hge hat hf ht hr ho hL
          go_wp2_with (at_builtin; refine wpList_append_run _ rfl (.tmp 33) (.tmp 36) 63 63 rfl _ _ rfl rfl (.slice a2 (L.length + 1) cap2) w1 HR1.out ?_)
          go_roundw
          case rel => exact ⟨k + 1, by omega, by go_num, Lib.hid (by rw [H1.out, numB_lt (by have := HG.out; omega)]; exact OutTo.trans HAT.out HF.out HTT.out HO1.out)⟩
          case measure => simp [intOf]; omega
    · go_wp2
      go_ret
      exact ⟨rfl, by have := H.out; rwa [List.take_of_length_le (by omega)] at this⟩
end Go.Proofs.Ytcbadcbnknmdnaa
namespace Go.Proofs.Ytcbadcbnknmdnaa
open Go.RowKit Go.WideShapes Go.ChangeShapes
set_option linter.unusedVariables false

/-- A list of numbers came in. -/
def NumArg (k : IntKind) (w : World) (a : Option Addr) (len cap : Nat) (ns : List Int) : Prop :=
  len = ns.length ∧ len ≤ maxLen ∧ len ≤ cap ∧ cap ≤ maxLen ∧ IntRow k w a ns ∧ (a = none → ns = []) ∧ ∀ n ∈ ns, (Lit.int k n).wf = true
theorem cell_addN {w : World} {b off j : Nat} {v : Value} (h : w.cell? ((⟨b, off, none⟩ : Addr).add j) = some v) : w.cell? ⟨b, off + j, none⟩ = some v := by
  by_cases hz : j = 0
  · subst hz; simpa [Addr.add] using h
  · simpa [Addr.add, hz] using h
theorem wf_i64 {n : Int} (h : (Lit.int .i64 n).wf = true) : -9223372036854775808 ≤ n ∧ n ≤ 9223372036854775807 := by
  simpa [Lit.wf, IntKind.min, IntKind.max, IntKind.signed, IntKind.bits] using h
theorem wf_u64 {n : Int} (h : (Lit.int .u64 n).wf = true) : 0 ≤ n ∧ n ≤ 18446744073709551615 := by
  simpa [Lit.wf, IntKind.min, IntKind.max, IntKind.signed, IntKind.bits] using h
theorem nums_of {H : Type} {enc : TypeId × Value → H} {P : Program} {w : World} {base : Nat} {sp : Nat → Bool} {held : Bool} {fuel : Nat} {a : Option Addr} {len cap : Nat} {t e : TypeId} {k : IntKind} {x : DataW H × List MemPlace}
    (ht : P.underlying t = some (.slice e)) (he : P.underlying e = some (.int k)) (hc : P.cellsOf e = 1)
    (h : DataW.trod enc P w base sp held fuel t [.slice a len cap] = some x) : ∃ ns, NumArg k w a len cap ns := by
  rcases open_ints ht he hc h with ⟨hcs, _⟩ | ⟨ad, l, c, zs, hcs, _, hl, hm, hz, _, hcell, hwf⟩
  · simp at hcs
    obtain ⟨rfl, rfl, rfl⟩ := hcs
    exact ⟨[], rfl, by simp [maxLen], Nat.le_refl _, by simp [maxLen], fun h => by simp at h, fun _ => rfl, by simp⟩
  · simp at hcs
    obtain ⟨rfl, rfl, rfl⟩ := hcs
    have hzl : len ≤ zs.length := by rw [hz]; split <;> omega
    refine ⟨zs.take len, by simp; omega, by omega, hl, hm, fun h0 => ?_, (fun h => by cases h), fun n hn => hwf n (List.mem_of_mem_take hn)⟩
    have h0' : 0 < len := by simp at h0; omega
    obtain ⟨b, off, spot⟩ := ad
    have h00 := hcell 0 (by omega)
    have hspot : spot = none := by simpa [Addr.add] using World.cell?_spot h00
    subst hspot
    refine ⟨b, off, rfl, fun i hi => ?_⟩
    have hi' : i < len := by simp at hi; omega
    have := cell_addN (hcell i (by omega))
    rw [List.getElem_take]
    rw [this]
    congr 2
    simp [List.getD, List.getElem?_eq_getElem (show i < zs.length by omega)]
theorem IntRow.below {k : IntKind} {w w' : World} {a : Option Addr} {ns : List Int} (h : IntRow k w a ns) (hb : Below w.heap.size w w') : IntRow k w' a ns := by
  intro h0
  obtain ⟨b, off, e, hc⟩ := h h0
  exact ⟨b, off, e, fun i hi => by rw [hb.cell (p := ⟨b, off + i, none⟩) (block_lt_of_cell (hc i hi))]; exact hc i hi⟩
theorem IntRow.touch {k : IntKind} {S : Nat → Prop} {w w' : World} {a : Option Addr} {ns : List Int} (h : IntRow k w a ns) (ht : Touch S w w') (hs : ∀ x, a = some x → ¬ S x.block) : IntRow k w' a ns := by
  intro h0
  obtain ⟨b, off, e, hc⟩ := h h0
  exact ⟨b, off, e, fun i hi => by rw [ht.cell (p := ⟨b, off + i, none⟩) (block_lt_of_cell (hc i hi)) (by have := hs _ e; exact this)]; exact hc i hi⟩
theorem IntRow.take {k : IntKind} {w : World} {a : Option Addr} {ns : List Int} (h : IntRow k w a ns) (n : Nat) : IntRow k w a (ns.take n) := by
  intro h0
  have h0' : 0 < ns.length := by simp at h0; omega
  obtain ⟨b, off, e, hc⟩ := h h0'
  refine ⟨b, off, e, fun i hi => ?_⟩
  have : i < ns.length := by simp at hi; omega
  rw [List.getElem_take]
  exact hc i this
theorem IntRow.lt {k : IntKind} {w : World} {a : Option Addr} {ns : List Int} (h : IntRow k w a ns) (h0 : 0 < ns.length) : ∃ b off, a = some ⟨b, off, none⟩ ∧ b < w.heap.size := by
  obtain ⟨b, off, e, hc⟩ := h h0
  exact ⟨b, off, e, block_lt_of_cell (hc 0 h0)⟩
end Go.Proofs.Ytcbadcbnknmdnaa
namespace Go.Proofs.Ytcbadcbnknmdnaa
open Go.RowKit Go.WideShapes Go.ChangeShapes
set_option linter.unusedVariables false

/-- A call of the law. -/
structure ActV where
  kind : Int
  n : Int
  x : Int
  l : List Int
def i64B (x : Int) : Prop := -9223372036854775808 ≤ x ∧ x ≤ 9223372036854775807
def ActOk (a : ActV) : Prop := i64B a.kind ∧ i64B a.n ∧ i64B a.x ∧ ∀ y ∈ a.l, i64B y
/-- A list lies there as a call's argument. -/
def ActL (w : World) (v : Value) (l : List Int) : Prop := ∃ a c, v = .slice a l.length c ∧ l.length ≤ c ∧ c ≤ maxLen ∧ IntRow .i64 w a l ∧ (a = none → l = [])
theorem ActL.below {w w' : World} {v : Value} {l : List Int} (h : ActL w v l) (hb : Below w.heap.size w w') : ActL w' v l := by
  obtain ⟨a, c, h1, h2, h3, h4, h5⟩ := h
  exact ⟨a, c, h1, h2, h3, h4.below hb, h5⟩
/-- Calls lie one behind the other from a on. -/
def ActRow (w : World) (a : Option Addr) (m : List ActV) : Prop :=
  0 < m.length → ∃ b off, a = some ⟨b, off, none⟩ ∧ ∀ i (h : i < m.length), w.cell? ⟨b, off + i * 4, none⟩ = some (.int .i64 m[i].kind) ∧ w.cell? ⟨b, off + i * 4 + 1, none⟩ = some (.int .i64 m[i].n) ∧ w.cell? ⟨b, off + i * 4 + 2, none⟩ = some (.int .i64 m[i].x) ∧
    ∃ v, w.cell? ⟨b, off + i * 4 + 3, none⟩ = some v ∧ ActL w v m[i].l
def ActsArg (w : World) (a : Option Addr) (len cap : Nat) (m : List ActV) : Prop := len = m.length ∧ len ≤ maxLen ∧ len ≤ cap ∧ ActRow w a m ∧ ∀ x ∈ m, ActOk x
theorem four_of {α : Type} {l : List α} (h : l.length = 4) : ∃ a b c d, l = [a, b, c, d] := by
  match l, h with
  | [a, b, c, d], _ => exact ⟨a, b, c, d, rfl⟩
theorem ActRow.below {w w' : World} {a : Option Addr} {m : List ActV} (h : ActRow w a m) (hb : Below w.heap.size w w') : ActRow w' a m := by
  intro h0
  obtain ⟨b, off, e, hc⟩ := h h0
  have hlt := block_lt_of_cell (hc 0 h0).1
  refine ⟨b, off, e, fun i hi => ?_⟩
  obtain ⟨c0, c1, c2, v, c3, hr⟩ := hc i hi
  exact ⟨(hb.cell (p := ⟨b, off + i * 4, none⟩) hlt).trans c0, (hb.cell (p := ⟨b, off + i * 4 + 1, none⟩) hlt).trans c1, (hb.cell (p := ⟨b, off + i * 4 + 2, none⟩) hlt).trans c2, v, (hb.cell (p := ⟨b, off + i * 4 + 3, none⟩) hlt).trans c3, hr.below hb⟩
end Go.Proofs.Ytcbadcbnknmdnaa
namespace Go.Proofs.Ytcbadcbnknmdnaa
open Go.RowKit
set_option linter.unusedVariables false

theorem OutAt.touch {S : Nat → Prop} {w w' : World} {b : Nat} {v : Value} {l : List UInt8} (h : OutAt w b v l) (ht : Touch S w w') (hb : ¬ S b) (hv : ∀ k, v.ownBlock = some k → ¬ S k) : OutAt w' b v l := by
  refine ⟨(ht.cell (p := ⟨b, 0, none⟩) h.lt hb).trans h.1, (ht.frozen (p := ⟨b, 0, none⟩) h.lt hb).trans h.2.1, ?_, h.2.2.2⟩
  refine ⟨h.2.2.1.1, ?_⟩
  rcases h.2.2.1.2 with h' | ⟨g, cap, cur, hv', hg, hh, hr⟩
  · exact .inl h'
  · have hlt : g < w.heap.size := (Array.getElem?_eq_some_iff.1 hh).1
    exact .inr ⟨g, cap, cur, hv', hg, (ht.block g hlt (hv g (by rw [hv']; rfl))).trans hh, hr⟩
theorem OutAt.alloc {w : World} {b : Nat} {v : Value} {l : List UInt8} (h : OutAt w b v l) (o : Obj) : OutAt (w.alloc o) b v l :=
  h.touch ((Touch.refl (fun _ => False) w).alloc o) id (fun _ _ => id)
theorem OutAt.below {w w' : World} {b : Nat} {v : Value} {l : List UInt8} (h : OutAt w b v l) (hb : Below w.heap.size w w') : OutAt w' b v l :=
  h.touch (touch_of_below (S := fun _ => False) hb) id (fun _ _ => id)
theorem OutTo.alloc0 {w w' : World} {b : Nat} {v : Value} {l : List UInt8} {o : Obj} (h : OutTo (w.alloc o) b v l w') : OutTo w b v l w' := by
  obtain ⟨v', h1, h2, h3⟩ := h
  refine ⟨v', h1, fun k hk => ?_, ?_⟩
  · rcases h2 k hk with h' | h'
    · exact .inl h'
    · exact .inr (by simp at h'; omega)
  · exact ((Touch.refl _ w).alloc o).trans h3
theorem OutAt.fresh {w : World} {b : Nat} {v : Value} {l : List UInt8} (h : OutAt w b v l) : ∀ k, v.ownBlock = some k → k < w.heap.size := fun k hk => (h.2.2.1.lt k hk).2
/-- One number, handed in as a list of one. -/
theorem outNum_one (b : Nat) (v : Value) (l : List UInt8) (n : Nat) (x : Int) (hx : x = (n : Int)) (w : World) (h : OutAt w b v l) (hl : l.length + 10 ≤ 1000000000) (hn : n < 18446744073709551616) :
    Calls Try.prog 79 #[.pointer (some ⟨b, 0, none⟩), .slice (some ⟨w.heap.size, 0, none⟩) 1 1] (w.alloc (.cells #[.int .u64 x] 77)) fun r w' => r = .returned (.pointer (some ⟨b, 0, none⟩)) ∧ OutTo w b v (l ++ numB n) w' := by
  subst hx
  refine (outNum_any b v l (some ⟨w.heap.size, 0, none⟩) 1 [n] _ (h.alloc _) (by simpa using hl) (by simpa using hn) ?_ ?_).mono ?_
  · intro _
    refine ⟨w.heap.size, 0, rfl, fun i hi => ?_⟩
    obtain rfl : i = 0 := by simpa using hi
    simp
  · intro y hy
    cases hy
    refine ⟨fun e => ?_, fun e => ?_⟩
    · have := h.lt; simp at e; omega
    · have := h.fresh _ e; simp at this
  · rintro r w' ⟨rfl, ho⟩
    refine ⟨rfl, ?_⟩
    have := ho.alloc0
    simpa [numsB] using this
def countsB (ns : List Int) : List UInt8 := numsB (ns.map Int.toNat)
theorem countsB_snoc (ns : List Int) (k : Nat) (h : k < ns.length) : countsB (ns.take (k + 1)) = countsB (ns.take k) ++ numB (Int.toNat ns[k]) := by
  unfold countsB numsB
  rw [List.take_succ_eq_append_getElem h, List.map_append, List.map_append, List.flatten_append]
  simp
set_option maxHeartbeats 400000 in
theorem outCount_any (b : Nat) (v : Value) (l : List UInt8) (a : Option Addr) (cap : Nat) (ns : List Int) (w : World) (h : OutAt w b v l) (hl : l.length + 10 * ns.length ≤ 1000000000) (hns : ∀ n ∈ ns, n ≤ 9223372036854775807)
    (hr : IntRow .i64 w a ns) (hd : ∀ x, a = some x → x.block ≠ b ∧ v.ownBlock ≠ some x.block) :
    Calls Try.prog 55 #[.pointer (some ⟨b, 0, none⟩), .slice a ns.length cap] w fun r w' => r = .returned (.pointer (some ⟨b, 0, none⟩)) ∧ OutTo w b v (l ++ countsB ns) w' := by
  have HO := Lib.hid h
  have HR := Lib.hid hr
  have HD := Lib.hid hd
  have HN := Lib.hid hns
  clear h hr hd hns
  go_enter Try.func55, Try.ntmps55
  go_wp2
  go_loopw [9] (fun i wr => ∃ (k : Nat), k ≤ ns.length ∧ i = .int .i64 k ∧ Hid ((countsB (ns.take k)).length ≤ 10 * k) ∧ Hid (OutTo w b v (l ++ countsB (ns.take k)) wr)) (fun i _ => ns.length - (intOf i).toNat)
  case atStart => exact ⟨0, by omega, rfl, Lib.hid (by simp [countsB, numsB]), Lib.hid (by simpa [countsB, numsB] using HO.out.to)⟩
  case round =>
    obtain ⟨k, hk, rfl, HL, H⟩ := hrel
    by_cases hlt : k < ns.length
    · obtain ⟨rb, off, rfl, hcell⟩ := HR.out (by omega)
      obtain ⟨hd1, hd2⟩ := HD.out _ rfl
      have hcw := hcell k hlt
      have hrb : rb < w.heap.size := block_lt_of_cell hcw
      obtain ⟨v1, hat, hf, ht⟩ := H.out
      have hc : wr.cell? ⟨rb, off + k, none⟩ = some (.int .i64 ns[k]) := (ht.cell (p := ⟨rb, off + k, none⟩) hrb (by rintro (h | h); exact hd1 h; exact hd2 h)).trans hcw
      have hnk := HN.out ns[k] (List.getElem_mem hlt)
      have HS := Lib.hid (countsB_snoc ns k hlt)
      have HLL := Lib.hid (show (l ++ countsB (ns.take k)).length + 10 ≤ 1000000000 by simp only [List.length_append]; have := HL.out; omega)
      have HAT := Lib.hid hat
      have HF := Lib.hid hf
      have HTT := Lib.hid ht
      clear hcell hcw hd1 hd2 hat hf ht
      generalize ns[k] = n0 at hc HS hnk
      have HLS := Lib.hid (show (countsB (ns.take (k + 1))).length ≤ 10 * (k + 1) by rw [HS.out, List.length_append]; have := HL.out; have := @numB_ten n0.toNat (by omega); omega)
      by_cases hneg : n0 < 0
      · have HZ := Lib.hid (show n0.toNat = 0 by omega)
        go_wp2_with fail
        refine (outNum_one b v1 _ n0.toNat _ (by rw [HZ.out]; rfl) wr HAT.out HLL.out (by omega)).mono ?_
        rintro r w2 ⟨rfl, ho⟩
        have HO2 := Lib.hid ho
        clear ho
        go_wp2
        go_roundw
        case rel => exact ⟨k + 1, by omega, by go_num, HLS, Lib.hid (by rw [HS.out, ← List.append_assoc]; exact OutTo.trans HAT.out HF.out HTT.out HO2.out)⟩
        case measure => simp [intOf]; omega
      · go_wp2_with fail
        refine (outNum_one b v1 _ n0.toNat _ (by omega) wr HAT.out HLL.out (by omega)).mono ?_
        rintro r w2 ⟨rfl, ho⟩
        have HO2 := Lib.hid ho
        clear ho
        go_wp2
        go_roundw
        case rel => exact ⟨k + 1, by omega, by go_num, HLS, Lib.hid (by rw [HS.out, ← List.append_assoc]; exact OutTo.trans HAT.out HF.out HTT.out HO2.out)⟩
        case measure => simp [intOf]; omega
    · go_wp2
      go_ret
      exact ⟨rfl, by have := H.out; rwa [List.take_of_length_le (by omega)] at this⟩
def intsB (ns : List Int) : List UInt8 := numsB (ns.map zig)
theorem intsB_snoc (ns : List Int) (k : Nat) (h : k < ns.length) : intsB (ns.take (k + 1)) = intsB (ns.take k) ++ numB (zig ns[k]) := by
  unfold intsB numsB
  rw [List.take_succ_eq_append_getElem h, List.map_append, List.map_append, List.flatten_append]
  simp
set_option maxHeartbeats 400000 in
theorem outInt_any (b : Nat) (v : Value) (l : List UInt8) (a : Option Addr) (cap : Nat) (ns : List Int) (w : World) (h : OutAt w b v l) (hl : l.length + 10 * ns.length ≤ 1000000000) (hns : ∀ n ∈ ns, -9223372036854775808 ≤ n ∧ n ≤ 9223372036854775807)
    (hr : IntRow .i64 w a ns) (hd : ∀ x, a = some x → x.block ≠ b ∧ v.ownBlock ≠ some x.block) :
    Calls Try.prog 80 #[.pointer (some ⟨b, 0, none⟩), .slice a ns.length cap] w fun r w' => r = .returned (.pointer (some ⟨b, 0, none⟩)) ∧ OutTo w b v (l ++ intsB ns) w' := by
  have HO := Lib.hid h
  have HR := Lib.hid hr
  have HD := Lib.hid hd
  have HN := Lib.hid hns
  clear h hr hd hns
  go_enter Try.func80, Try.ntmps80
  go_wp2
  go_loopw [10] (fun i wr => ∃ (k : Nat), k ≤ ns.length ∧ i = .int .i64 k ∧ Hid ((intsB (ns.take k)).length ≤ 10 * k) ∧ Hid (OutTo w b v (l ++ intsB (ns.take k)) wr)) (fun i _ => ns.length - (intOf i).toNat)
  case atStart => exact ⟨0, by omega, rfl, Lib.hid (by simp [intsB, numsB]), Lib.hid (by simpa [intsB, numsB] using HO.out.to)⟩
  case round =>
    obtain ⟨k, hk, rfl, HL, H⟩ := hrel
    by_cases hlt : k < ns.length
    · obtain ⟨rb, off, rfl, hcell⟩ := HR.out (by omega)
      obtain ⟨hd1, hd2⟩ := HD.out _ rfl
      have hcw := hcell k hlt
      have hrb : rb < w.heap.size := block_lt_of_cell hcw
      obtain ⟨v1, hat, hf, ht⟩ := H.out
      have hc : wr.cell? ⟨rb, off + k, none⟩ = some (.int .i64 ns[k]) := (ht.cell (p := ⟨rb, off + k, none⟩) hrb (by rintro (h | h); exact hd1 h; exact hd2 h)).trans hcw
      have hnk := HN.out ns[k] (List.getElem_mem hlt)
      have HS := Lib.hid (intsB_snoc ns k hlt)
      have HLL := Lib.hid (show (l ++ intsB (ns.take k)).length + 10 ≤ 1000000000 by simp only [List.length_append]; have := HL.out; omega)
      have HAT := Lib.hid hat
      have HF := Lib.hid hf
      have HTT := Lib.hid ht
      clear hcell hcw hd1 hd2 hat hf ht
      generalize ns[k] = n0 at hc HS hnk
      have hzl := zig_lt hnk.1 hnk.2
      have HLS := Lib.hid (show (intsB (ns.take (k + 1))).length ≤ 10 * (k + 1) by rw [HS.out, List.length_append]; have := HL.out; have := numB_ten hzl; omega)
      have HZL := Lib.hid hzl
      have HNK := Lib.hid hnk
      clear hzl hnk
      by_cases hneg : n0 < 0
      · have HZ := Lib.hid (show zig n0 = (-2 * n0 - 1).toNat from if_pos hneg)
        go_wp2_with fail
        refine (outNum_one b v1 _ (zig n0) _ (zig_neg_walk n0 hneg HNK.out.1) wr HAT.out HLL.out HZL.out).mono ?_
        rintro r w2 ⟨rfl, ho⟩
        have HO2 := Lib.hid ho
        clear ho
        go_wp2
        go_roundw
        case rel => exact ⟨k + 1, by omega, by go_num, HLS, Lib.hid (by rw [HS.out, ← List.append_assoc]; exact OutTo.trans HAT.out HF.out HTT.out HO2.out)⟩
        case measure => simp [intOf]; omega
      · have HZ := Lib.hid (show zig n0 = (2 * n0).toNat from if_neg hneg)
        obtain ⟨h1, h2⟩ := HNK.out
        go_wp2_with fail
        refine (outNum_one b v1 _ (zig n0) _ (by rw [HZ.out]; omega) wr HAT.out HLL.out HZL.out).mono ?_
        rintro r w2 ⟨rfl, ho⟩
        have HO2 := Lib.hid ho
        clear ho
        go_wp2
        go_roundw
        case rel => exact ⟨k + 1, by omega, by go_num, HLS, Lib.hid (by rw [HS.out, ← List.append_assoc]; exact OutTo.trans HAT.out HF.out HTT.out HO2.out)⟩
        case measure => simp [intOf]; omega
    · go_wp2
      go_ret
      exact ⟨rfl, by have := H.out; rwa [List.take_of_length_le (by omega)] at this⟩
/-- One count, handed in as a list of one. -/
theorem outCount_one (b : Nat) (v : Value) (l : List UInt8) (x : Int) (w : World) (h : OutAt w b v l) (hl : l.length + 10 ≤ 1000000000) (hn : x ≤ 9223372036854775807) :
    Calls Try.prog 55 #[.pointer (some ⟨b, 0, none⟩), .slice (some ⟨w.heap.size, 0, none⟩) 1 1] (w.alloc (.cells #[.int .i64 x] 3)) fun r w' => r = .returned (.pointer (some ⟨b, 0, none⟩)) ∧ OutTo w b v (l ++ numB x.toNat) w' := by
  refine (outCount_any b v l (some ⟨w.heap.size, 0, none⟩) 1 [x] _ (h.alloc _) (by simpa using hl) (by simpa using hn) ?_ ?_).mono ?_
  · intro _
    refine ⟨w.heap.size, 0, rfl, fun i hi => ?_⟩
    obtain rfl : i = 0 := by simpa using hi
    simp
  · intro y hy
    cases hy
    refine ⟨fun e => ?_, fun e => ?_⟩
    · have := h.lt; simp at e; omega
    · have := h.fresh _ e; simp at this
  · rintro r w' ⟨rfl, ho⟩
    refine ⟨rfl, ?_⟩
    have := ho.alloc0
    simpa [countsB, numsB] using this
/-- A text's bytes: how many, and these. -/
def strB (l : List UInt8) : List UInt8 := numB l.length ++ l
def strsB (ss : List ByteArray) : List UInt8 := (ss.map fun s => strB s.data.toList).flatten
theorem strsB_snoc (ss : List ByteArray) (k : Nat) (h : k < ss.length) : strsB (ss.take (k + 1)) = strsB (ss.take k) ++ strB ss[k].data.toList := by
  unfold strsB
  rw [List.take_succ_eq_append_getElem h, List.map_append, List.flatten_append]
  simp
set_option maxHeartbeats 400000 in
theorem outStr_any (b : Nat) (v : Value) (l : List UInt8) (a : Option Addr) (cap : Nat) (ss : List ByteArray) (w : World) (h : OutAt w b v l) (hl : l.length + (strsB ss).length ≤ 900000000)
    (hr : StrRow w a ss) (hd : ∀ x, a = some x → x.block ≠ b ∧ v.ownBlock ≠ some x.block) :
    Calls Try.prog 112 #[.pointer (some ⟨b, 0, none⟩), .slice a ss.length cap] w fun r w' => r = .returned (.pointer (some ⟨b, 0, none⟩)) ∧ OutTo w b v (l ++ strsB ss) w' := by
  have HO := Lib.hid h
  have HR := Lib.hid hr
  have HD := Lib.hid hd
  have hsl : ss.length ≤ 9223372036854775807 := hr.1
  clear h hr hd
  go_enter Try.func112, Try.ntmps112
  go_wp2
  go_loopw [9] (fun i wr => ∃ (k : Nat), k ≤ ss.length ∧ i = .int .i64 k ∧ Hid (OutTo w b v (l ++ strsB (ss.take k)) wr)) (fun i _ => ss.length - (intOf i).toNat)
  case atStart => exact ⟨0, by omega, rfl, Lib.hid (by simpa [strsB] using HO.out.to)⟩
  case round =>
    obtain ⟨k, hk, rfl, H⟩ := hrel
    by_cases hlt : k < ss.length
    · obtain ⟨rb, off, rfl, hcell⟩ := HR.out.2.2 (by omega)
      obtain ⟨hd1, hd2⟩ := HD.out _ rfl
      have hcw := hcell k hlt
      have hrb : rb < w.heap.size := block_lt_of_cell hcw
      obtain ⟨v1, hat, hf, ht⟩ := H.out
      have hc : wr.cell? ⟨rb, off + k, none⟩ = some (.string ss[k]) := (ht.cell (p := ⟨rb, off + k, none⟩) hrb (by rintro (h | h); exact hd1 h; exact hd2 h)).trans hcw
      have HS := Lib.hid (strsB_snoc ss k hlt)
      have hpre : (strsB (ss.take (k + 1))).length ≤ (strsB ss).length := by
        have e : strsB ss = strsB (ss.take (k + 1)) ++ strsB (ss.drop (k + 1)) := by
          unfold strsB; rw [← List.flatten_append, ← List.map_append, List.take_append_drop]
        rw [e, List.length_append]; omega
      rw [HS.out, List.length_append, strB, List.length_append] at hpre
      have HLL := Lib.hid (show (l ++ strsB (ss.take k)).length + 10 ≤ 1000000000 by simp only [List.length_append]; omega)
      have esz : ss[k].data.toList.length = ss[k].size := by simp
      have hlm : (l ++ strsB (ss.take k) ++ numB ss[k].data.toList.length).length + ss[k].size ≤ 1000000000 := by
        simp only [List.length_append]
        omega
      have HLM := Lib.hid hlm
      have hsz : ss[k].size ≤ 900000000 := by omega
      clear esz hlm
      have HAT := Lib.hid hat
      have HF := Lib.hid hf
      have HTT := Lib.hid ht
      clear hcell hcw hd1 hd2 hat hf ht hpre
      generalize ss[k] = s at hc HS HLM hsz
      have HE := Lib.hid (show ((s.size : Int)).toNat = s.data.toList.length by simp)
      go_wp2_with fail
      refine (outCount_one b v1 _ (s.size : Int) wr HAT.out HLL.out (by omega)).mono ?_
      rintro r w2 ⟨rfl, ho⟩
      rw [HE.out] at ho
      have HO1 := Lib.hid (OutTo.trans HAT.out HF.out HTT.out ho)
      clear ho
      obtain ⟨v2, hat2, hf2, ht2⟩ := HO1.out
      have HAT2 := Lib.hid hat2
      have HF2 := Lib.hid hf2
      have HTT2 := Lib.hid ht2
      clear hat2 hf2 ht2
      go_wp2_with fail
      refine (outRaw_any b v2 _ s w2 HAT2.out HLM.out).mono ?_
      rintro r w3 ⟨rfl, ho⟩
      have HO2 := Lib.hid (OutTo.trans HAT2.out HF2.out HTT2.out ho)
      clear ho
      go_wp2
      go_roundw
      case rel => exact ⟨k + 1, by omega, by go_num, Lib.hid (by rw [HS.out, strB]; simpa [List.append_assoc] using HO2.out)⟩
      case measure => simp [intOf]; omega
    · go_wp2
      go_ret
      exact ⟨rfl, by have := H.out; rwa [List.take_of_length_le (by omega)] at this⟩
end Go.Proofs.Ytcbadcbnknmdnaa
namespace Go.Proofs.Ytcbadcbnknmdnaa
open Go.RowKit
set_option linter.unusedVariables false

/-- At block b lie the bytes l, as a thing that this call (which began in w0) made; nothing that was there in w0 has turned. -/
def OutIn (w0 : World) (b : Nat) (l : List UInt8) (w : World) : Prop :=
  ∃ v, OutAt w b v l ∧ w0.heap.size ≤ b ∧ (∀ k, v.ownBlock = some k → w0.heap.size ≤ k) ∧ Below w0.heap.size w0 w
theorem OutIn.lt {w0 w : World} {b : Nat} {l : List UInt8} (h : OutIn w0 b l w) : b < w.heap.size := by obtain ⟨v, h1, -⟩ := h; exact h1.lt
theorem OutIn.bel {w0 w : World} {b : Nat} {l : List UInt8} (h : OutIn w0 b l w) : Below w0.heap.size w0 w := by obtain ⟨v, -, -, -, h4⟩ := h; exact h4
theorem OutIn.start {w0 w : World} (h : Below w0.heap.size w0 w) (t : TypeId) : OutIn w0 w.heap.size [] (w.alloc (.cells #[.slice none 0 0] t)) :=
  ⟨.slice none 0 0, ⟨by simp, by simp [World.frozen?, World.alloc, -World.alloc_eq], World.ownsRow_nil _ _ _ _, by simp [Value.ownBlock]⟩, h.size, fun k hk => by simp [Value.ownBlock] at hk, h.alloc h.size _⟩
theorem OutIn.step {w0 w w' : World} {b : Nat} {l l' : List UInt8} {v : Value} (h2 : w0.heap.size ≤ b) (h3 : ∀ k, v.ownBlock = some k → w0.heap.size ≤ k) (h4 : Below w0.heap.size w0 w) (ho : OutTo w b v l' w') : OutIn w0 b l' w' := by
  obtain ⟨v', g1, g2, g3⟩ := ho
  refine ⟨v', g1, h2, fun k hk => ?_, h4.trans (g3.below h4.size ?_)⟩
  · rcases g2 k hk with h | h
    · exact h3 k h
    · exact Nat.le_trans h4.size h
  · rintro k hk (h | h)
    · omega
    · have := h3 k h; omega
theorem OutIn.below {w0 w w' : World} {b : Nat} {l : List UInt8} (h : OutIn w0 b l w) (hb : Below w.heap.size w w') : OutIn w0 b l w' := by
  obtain ⟨v, h1, h2, h3, h4⟩ := h
  exact ⟨v, h1.below hb, h2, h3, h4.trans (hb.mono h4.size)⟩
theorem fresh_row {w : World} {b : Nat} {v : Value} {l : List UInt8} (h : OutAt w b v l) (y : Addr) (hy : some (⟨w.heap.size, 0, none⟩ : Addr) = some y) : y.block ≠ b ∧ v.ownBlock ≠ some y.block := by
  cases hy
  refine ⟨fun e => ?_, fun e => ?_⟩
  · have := h.lt; simp at e; omega
  · have := h.fresh _ e; simp at this
theorem fresh_ints (k : IntKind) (w : World) (ns : List Int) (cells : Array Value) (t : TypeId) (hc : cells = (ns.map (Value.int k)).toArray) : IntRow k (w.alloc (.cells cells t)) (some ⟨w.heap.size, 0, none⟩) ns := by
  subst hc
  intro _
  refine ⟨w.heap.size, 0, rfl, fun i hi => ?_⟩
  simp [hi]
/-- Numbers put behind, handed in as a list of their own. -/
theorem outNum_in (w0 : World) (b : Nat) (l : List UInt8) (ns : List Nat) (cells : Array Value) (n cap : Nat) (w : World) (h : OutIn w0 b l w) (hc : cells = (ns.map fun (x : Nat) => Value.int .u64 (x : Int)).toArray) (hn : n = ns.length)
    (hl : l.length + 10 * ns.length ≤ 1000000000) (hns : ∀ x ∈ ns, x < 18446744073709551616) :
    Calls Try.prog 79 #[.pointer (some ⟨b, 0, none⟩), .slice (some ⟨w.heap.size, 0, none⟩) n cap] (w.alloc (.cells cells 77)) fun r w' => r = .returned (.pointer (some ⟨b, 0, none⟩)) ∧ OutIn w0 b (l ++ numsB ns) w' := by
  subst hn
  obtain ⟨v, h1, h2, h3, h4⟩ := h
  refine (outNum_any b v l (some ⟨w.heap.size, 0, none⟩) cap ns _ (h1.alloc _) hl hns (fresh_ints .u64 w _ _ _ (by rw [hc]; simp)) (fresh_row h1)).mono ?_
  rintro r w' ⟨rfl, ho⟩
  exact ⟨rfl, OutIn.step (l := l) h2 h3 h4 ho.alloc0⟩
theorem outInt_in (w0 : World) (b : Nat) (l : List UInt8) (ns : List Int) (cells : Array Value) (n cap : Nat) (w : World) (h : OutIn w0 b l w) (hc : cells = (ns.map (Value.int .i64)).toArray) (hn : n = ns.length)
    (hl : l.length + 10 * ns.length ≤ 1000000000) (hns : ∀ x ∈ ns, -9223372036854775808 ≤ x ∧ x ≤ 9223372036854775807) :
    Calls Try.prog 80 #[.pointer (some ⟨b, 0, none⟩), .slice (some ⟨w.heap.size, 0, none⟩) n cap] (w.alloc (.cells cells 2)) fun r w' => r = .returned (.pointer (some ⟨b, 0, none⟩)) ∧ OutIn w0 b (l ++ intsB ns) w' := by
  subst hn
  obtain ⟨v, h1, h2, h3, h4⟩ := h
  refine (outInt_any b v l (some ⟨w.heap.size, 0, none⟩) cap ns _ (h1.alloc _) hl hns (fresh_ints .i64 w _ _ _ hc) (fresh_row h1)).mono ?_
  rintro r w' ⟨rfl, ho⟩
  exact ⟨rfl, OutIn.step (l := l) h2 h3 h4 ho.alloc0⟩
theorem outCount_in (w0 : World) (b : Nat) (l : List UInt8) (ns : List Int) (cells : Array Value) (n cap : Nat) (w : World) (h : OutIn w0 b l w) (hc : cells = (ns.map (Value.int .i64)).toArray) (hn : n = ns.length)
    (hl : l.length + 10 * ns.length ≤ 1000000000) (hns : ∀ x ∈ ns, x ≤ 9223372036854775807) :
    Calls Try.prog 55 #[.pointer (some ⟨b, 0, none⟩), .slice (some ⟨w.heap.size, 0, none⟩) n cap] (w.alloc (.cells cells 3)) fun r w' => r = .returned (.pointer (some ⟨b, 0, none⟩)) ∧ OutIn w0 b (l ++ countsB ns) w' := by
  subst hn
  obtain ⟨v, h1, h2, h3, h4⟩ := h
  refine (outCount_any b v l (some ⟨w.heap.size, 0, none⟩) cap ns _ (h1.alloc _) hl hns (fresh_ints .i64 w _ _ _ hc) (fresh_row h1)).mono ?_
  rintro r w' ⟨rfl, ho⟩
  exact ⟨rfl, OutIn.step (l := l) h2 h3 h4 ho.alloc0⟩
theorem fresh_strs (w : World) (ss : List ByteArray) (cells : Array Value) (t : TypeId) (hc : cells = (ss.map Value.string).toArray) (hl : ss.length ≤ maxLen) (hs : ∀ s ∈ ss, s.size ≤ maxLen) : StrRow (w.alloc (.cells cells t)) (some ⟨w.heap.size, 0, none⟩) ss := by
  subst hc
  refine ⟨hl, fun i hi => hs _ (List.getElem_mem hi), fun _ => ⟨w.heap.size, 0, rfl, fun i hi => ?_⟩⟩
  simp [hi]
theorem strsB_size (ss : List ByteArray) : ∀ s ∈ ss, s.size ≤ (strsB ss).length := by
  intro s hs
  induction ss with
  | nil => simp at hs
  | cons t ss ih =>
    simp only [strsB, List.map_cons, List.flatten_cons, List.length_append, strB] at ih ⊢
    rcases List.mem_cons.1 hs with rfl | h
    · have : s.data.toList.length = s.size := by simp
      omega
    · have := ih h; omega
theorem strsB_count (ss : List ByteArray) : ss.length ≤ (strsB ss).length := by
  induction ss with
  | nil => simp
  | cons t ss ih =>
    simp only [strsB, List.map_cons, List.flatten_cons, List.length_append, strB, List.length_cons] at ih ⊢
    have : 0 < (numB t.data.toList.length).length := by
      by_cases h : t.data.toList.length < 128
      · rw [numB_lt h]; simp
      · rw [numB_ge (by omega)]; simp
    omega
theorem outStr_in (w0 : World) (b : Nat) (l : List UInt8) (ss : List ByteArray) (cells : Array Value) (n cap : Nat) (w : World) (h : OutIn w0 b l w) (hc : cells = (ss.map Value.string).toArray) (hn : n = ss.length)
    (hl : l.length + (strsB ss).length ≤ 900000000) :
    Calls Try.prog 112 #[.pointer (some ⟨b, 0, none⟩), .slice (some ⟨w.heap.size, 0, none⟩) n cap] (w.alloc (.cells cells 9)) fun r w' => r = .returned (.pointer (some ⟨b, 0, none⟩)) ∧ OutIn w0 b (l ++ strsB ss) w' := by
  subst hn
  obtain ⟨v, h1, h2, h3, h4⟩ := h
  refine (outStr_any b v l (some ⟨w.heap.size, 0, none⟩) cap ss _ (h1.alloc _) hl (fresh_strs w ss _ _ hc (by have := strsB_count ss; unfold maxLen; omega) (fun s hs => by have := strsB_size ss s hs; unfold maxLen; omega)) (fresh_row h1)).mono ?_
  rintro r w' ⟨rfl, ho⟩
  exact ⟨rfl, OutIn.step (l := l) h2 h3 h4 ho.alloc0⟩
theorem outRaw_in (w0 : World) (b : Nat) (l : List UInt8) (s : ByteArray) (w : World) (h : OutIn w0 b l w) (hl : l.length + s.size ≤ 1000000000) :
    Calls Try.prog 118 #[.pointer (some ⟨b, 0, none⟩), .string s] w fun r w' => r = .returned (.pointer (some ⟨b, 0, none⟩)) ∧ OutIn w0 b (l ++ s.data.toList) w' := by
  obtain ⟨v, h1, h2, h3, h4⟩ := h
  refine (outRaw_any b v l s w h1 hl).mono ?_
  rintro r w' ⟨rfl, ho⟩
  exact ⟨rfl, OutIn.step (l := l) h2 h3 h4 ho⟩
theorem outText_in (w0 : World) (b : Nat) (l : List UInt8) (w : World) (h : OutIn w0 b l w) :
    Calls Try.prog 27 #[.pointer (some ⟨b, 0, none⟩)] w fun r w' => r = .returned (.string (bs l)) ∧ w = w' := by
  obtain ⟨v, h1, -⟩ := h
  exact outText_any b v l w h1
end Go.Proofs.Ytcbadcbnknmdnaa
namespace Go.Proofs.Ytcbadcbnknmdnaa
open Go.RowKit
set_option linter.unusedVariables false

def B64 (x : Int) : Prop := -9223372036854775808 ≤ x ∧ x ≤ 9223372036854775807
/-- All have k numbers. -/
def Wide (k : Nat) (ls : List (List Int)) : Prop := ∀ x ∈ ls, x.length = k
def recCells (ls : List (List Int)) : List Value := ls.flatten.map (Value.int .i64)
theorem recCells_append (l m : List (List Int)) : recCells (l ++ m) = recCells l ++ recCells m := by simp [recCells]
theorem flatten_len {k : Nat} {ls : List (List Int)} (hw : Wide k ls) : ls.flatten.length = ls.length * k := by
  induction ls with
  | nil => simp
  | cons x l ih =>
    rw [List.flatten_cons, List.length_append, ih (fun y hy => hw y (by simp [hy])), hw x (by simp), List.length_cons, Nat.add_mul]
    omega
theorem recCells_len {k : Nat} {ls : List (List Int)} (hw : Wide k ls) : (recCells ls).length = ls.length * k := by
  rw [recCells, List.length_map, flatten_len hw]
theorem flatten_at {k : Nat} {ls : List (List Int)} (hw : Wide k ls) : ∀ i (h : i < ls.length) j, j < k → ls.flatten[i * k + j]? = some (ls[i].getD j 0) := by
  induction ls with
  | nil => intro i h; simp at h
  | cons x l ih =>
    intro i h j hj
    have hx := hw x (by simp)
    cases i with
    | zero =>
      rw [List.flatten_cons, Nat.zero_mul, Nat.zero_add, List.getElem?_append_left (by omega)]
      simp [List.getElem?_eq_getElem (show j < x.length by omega)]
    | succ i =>
      have e : (i + 1) * k + j = x.length + (i * k + j) := by rw [hx, Nat.add_mul]; omega
      rw [List.flatten_cons, e, List.getElem?_append_right (by omega), Nat.add_sub_cancel_left]
      exact ih (fun y hy => hw y (by simp [hy])) i (by simpa using h) j hj
theorem recCells_one (ls : List (List Int)) : ∀ u ∈ recCells ls, u.oneCell' = true := by
  intro u hu
  simp only [recCells, List.mem_map] at hu
  obtain ⟨x, -, rfl⟩ := hu
  rfl
/-- Records of k numbers lie one behind the other from a on. -/
def RecRow (k : Nat) (w : World) (a : Option Addr) (ls : List (List Int)) : Prop :=
  0 < ls.length → ∃ b off, a = some ⟨b, off, none⟩ ∧ ∀ i (h : i < ls.length) j, j < k → w.cell? ⟨b, off + i * k + j, none⟩ = some (.int .i64 (ls[i].getD j 0))
theorem RecRow.touch {S : Nat → Prop} {k : Nat} (hk : 0 < k) {w w' : World} {a : Option Addr} {ls : List (List Int)} (h : RecRow k w a ls) (ht : Touch S w w') (hs : ∀ x, a = some x → ¬ S x.block) : RecRow k w' a ls := by
  intro h0
  obtain ⟨b, off, e, hc⟩ := h h0
  have hlt := block_lt_of_cell (hc 0 h0 0 hk)
  have hsb : ¬ S b := hs _ e
  exact ⟨b, off, e, fun i hi j hj => (ht.cell (p := ⟨b, off + i * k + j, none⟩) hlt hsb).trans (hc i hi j hj)⟩
theorem RecRow.below {k : Nat} (hk : 0 < k) {w w' : World} {a : Option Addr} {ls : List (List Int)} (h : RecRow k w a ls) (hb : Below w.heap.size w w') : RecRow k w' a ls :=
  h.touch hk (touch_of_below (S := fun _ => False) hb) (fun _ _ => id)
theorem RecRow.take {k : Nat} {w : World} {a : Option Addr} {ls : List (List Int)} (h : RecRow k w a ls) (n : Nat) : RecRow k w a (ls.take n) := by
  intro h0
  obtain ⟨b, off, e, hc⟩ := h (by simp at h0; omega)
  refine ⟨b, off, e, fun i hi j hj => ?_⟩
  rw [List.getElem_take]
  exact hc i (by simp at hi; omega) j hj
theorem RecRow.lt {k : Nat} (hk : 0 < k) {w : World} {a : Option Addr} {ls : List (List Int)} (h : RecRow k w a ls) (h0 : 0 < ls.length) : ∃ b off, a = some ⟨b, off, none⟩ ∧ b < w.heap.size := by
  obtain ⟨b, off, e, hc⟩ := h h0
  exact ⟨b, off, e, block_lt_of_cell (hc 0 h0 0 hk)⟩
theorem cell_addR {w : World} {b off j : Nat} {v : Value} (h : w.cell? ((⟨b, off, none⟩ : Addr).add j) = some v) : w.cell? ⟨b, off + j, none⟩ = some v := by
  by_cases hz : j = 0
  · subst hz; simpa [Addr.add] using h
  · simpa [Addr.add, hz] using h
theorem add_cellR {w : World} {b off j : Nat} {v : Value} (h : w.cell? ⟨b, off + j, none⟩ = some v) : w.cell? ((⟨b, off, none⟩ : Addr).add j) = some v := by
  by_cases hz : j = 0
  · subst hz; simpa [Addr.add] using h
  · simpa [Addr.add, hz] using h
theorem RecRow.of_own {w : World} {base k n c : Nat} {e : TypeId} {a : Option Addr} {ls : List (List Int)} (hw : Wide k ls) (hk : 0 < k) (h : w.ownsRow base e k (.slice a n c) ls.length (recCells ls)) : RecRow k w a ls := by
  intro h0
  rcases h.2 with ⟨hv, h00⟩ | ⟨g, cap, cur, hv, -⟩
  · omega
  · simp only [Value.slice.injEq] at hv
    obtain ⟨rfl, -, rfl⟩ := hv
    refine ⟨g, 0, rfl, fun i hi j hj => ?_⟩
    have := h.cells (g := g) rfl (i * k + j) (.int .i64 (ls[i].getD j 0)) (by rw [recCells, List.getElem?_map, flatten_at hw i hi j hj]; rfl)
    have := cell_addR this
    rwa [Nat.add_assoc]
theorem RecRow.cells {k : Nat} (hk : 0 < k) {w : World} {b off : Nat} {ls : List (List Int)} (hw : Wide k ls) (h : ∀ i (h : i < ls.length) j, j < k → w.cell? ⟨b, off + i * k + j, none⟩ = some (.int .i64 (ls[i].getD j 0))) :
    ∀ j u, (recCells ls)[j]? = some u → w.cell? ((⟨b, off, none⟩ : Addr).add j) = some u := by
  intro j u hu
  have hj : j < (recCells ls).length := (List.getElem?_eq_some_iff.1 hu).1
  rw [recCells_len hw] at hj
  have hi : j / k < ls.length := Nat.div_lt_of_lt_mul (by rwa [Nat.mul_comm])
  have hm : j % k < k := Nat.mod_lt _ hk
  have e : j / k * k + j % k = j := by rw [Nat.mul_comm]; exact Nat.div_add_mod j k
  have h1 := h (j / k) hi (j % k) hm
  have h2 := flatten_at hw (j / k) hi (j % k) hm
  rw [e] at h2
  rw [Nat.add_assoc, e] at h1
  rw [recCells, List.getElem?_map, h2] at hu
  simp only [Option.map_some, Option.some.injEq] at hu
  rw [← hu]
  exact add_cellR h1
theorem RecRow.lit (w : World) {k : Nat} (ls : List (List Int)) (hw : Wide k ls) (cells : Array Value) (t : TypeId) (hc : cells = (recCells ls).toArray) : RecRow k (w.alloc (.cells cells t)) (some ⟨w.heap.size, 0, none⟩) ls := by
  subst hc
  intro h0
  refine ⟨w.heap.size, 0, rfl, fun i hi j hj => ?_⟩
  have := flatten_at hw i hi j hj
  simp only [Nat.zero_add, World.cell?_alloc_new]
  simp only [List.getElem?_toArray, recCells, List.getElem?_map, this, Option.map_some]
theorem info_is {P : Program} {t : TypeId} {z : Value} {a b : Nat} (h : (P.info? t).map (fun i => (i.zero, i.size, i.bytes)) = some (some z, a, b)) : ∃ i, P.info? t = some i ∧ i.zero = some z ∧ i.size = a ∧ i.bytes = b := by
  cases hi : P.info? t with
  | none => rw [hi] at h; simp at h
  | some i => rw [hi] at h; simp at h; exact ⟨i, rfl, h.1, h.2.1, h.2.2⟩
/-- What a type of records is to the program. -/
structure RecTy (e : TypeId) (k : Nat) (z : Value) : Prop where
  info : (Try.prog.info? e).map (fun i => (i.zero, i.size, i.bytes)) = some (some z, k, 8 * k)
  cells : z.cells.size = k
  pos : 0 < k
  few : k ≤ 100
theorem append_types (w : World) {t u e : TypeId} {k : Nat} {z : Value} (H : RecTy e k z) (ht : Try.prog.underlying t = some (.slice e)) (hu : Try.prog.underlying u = some (.slice e)) (ty ty' : TypeId) (v x : Value) :
    (Builtin.append_ #[t, u] ty #[v, x]).run Try.prog w = (Builtin.append_ #[t, t] ty' #[v, x]).run Try.prog w := by
  obtain ⟨i0, hi, -⟩ := info_is H.info
  cases v <;> simp [Builtin.append_, run_underlying ht, run_underlying hu, sizeOf, typeInfo, hi]
theorem own_sliceR {w : World} {base : Nat} {e : TypeId} {size : Nat} {v : Value} {n : Nat} {xs : List Value} (h : w.ownsRow base e size v n xs) : ∃ a c, v = .slice a n c := by
  rcases h.2 with ⟨hv, h0⟩ | ⟨g, cap, cur, hv, -⟩
  · exact ⟨none, 0, by rw [hv, h0]⟩
  · exact ⟨_, cap, hv⟩
theorem own_touchR {S : Nat → Prop} {w w' : World} {base : Nat} {e : TypeId} {size : Nat} {v : Value} {n : Nat} {xs : List Value} (h : w.ownsRow base e size v n xs) (ht : Touch S w w') (hs : ∀ k, v.ownBlock = some k → ¬ S k) : w'.ownsRow base e size v n xs := by
  refine ⟨h.1, ?_⟩
  rcases h.2 with h' | ⟨g, cap, cur, hv', hg, hh, hr⟩
  · exact .inl h'
  · have hlt : g < w.heap.size := (Array.getElem?_eq_some_iff.1 hh).1
    exact .inr ⟨g, cap, cur, hv', hg, (ht.block g hlt (hs g (by rw [hv']; rfl))).trans hh, hr⟩
/-- Records put behind a row of the call's own, from wherever they lie. -/
theorem rec_append {w : World} {t u ty e : TypeId} {k : Nat} {z : Value} (H : RecTy e k z) (ht : Try.prog.underlying t = some (.slice e)) (hu : Try.prog.underlying u = some (.slice e)) {v : Value} {l m : List (List Int)} (hwm : Wide k m) (hown : w.ownsRow 0 e k v l.length (recCells l)) (a : Option Addr) (c : Nat) (hr : RecRow k w a m) (hn : a = none → m = []) (hl : l.length + m.length ≤ 1000000) :
    ∃ a' c' w', (Builtin.append_ #[t, u] ty #[v, .slice a m.length c]).run Try.prog w = .ok (.slice a' (l.length + m.length) c') w' ∧ w'.ownsRow 0 e k (.slice a' (l.length + m.length) c') (l ++ m).length (recCells (l ++ m)) ∧ w.grownBy w' v.ownBlock ∧
      (∀ k, (Value.slice a' (l.length + m.length) c').ownBlock = some k → v.ownBlock = some k ∨ w.heap.size ≤ k) := by
  obtain ⟨i0, hi, hz0, hz1, hz2⟩ := info_is H.info
  cases a with
  | none =>
    have := hn rfl
    subst this
    have hrun : (Builtin.append_ #[t, u] ty #[v, .slice none 0 c]).run Try.prog w = .ok v w := by
      rcases hown.2 with ⟨rfl, h0⟩ | ⟨g, cap, cur, rfl, _, _, hnc, _⟩
      · simp [Builtin.append_, run_underlying ht, run_underlying hu, sizeOf, typeInfo, hi, Builtin.lenOf, Builtin.firstCells]
      · simp [Builtin.append_, run_underlying ht, run_underlying hu, sizeOf, typeInfo, hi, Builtin.lenOf, Builtin.firstCells, hnc, storeCells]
    obtain ⟨a', c', rfl⟩ := own_sliceR hown
    exact ⟨a', c', w, by simpa using hrun, by simpa using hown, ⟨rfl, rfl, rfl, Nat.le_refl _, fun _ _ _ => rfl⟩, fun k hk => .inl hk⟩
  | some x =>
    have hcells : ∀ j u, (recCells m)[j]? = some u → w.cell? (x.add j) = some u := by
      intro j u hu
      have hj : j < (recCells m).length := (List.getElem?_eq_some_iff.1 hu).1
      rw [recCells_len hwm] at hj
      have hm0 : 0 < m.length := by
        rcases Nat.eq_zero_or_pos m.length with h | h
        · rw [h] at hj; simp at hj
        · exact h
      obtain ⟨b, off, e, hc⟩ := hr hm0
      cases e
      exact RecRow.cells H.pos hwm hc j u hu
    have hk := H.few
    obtain ⟨v', w', hrun, ho, hg, hf⟩ := append_exact (P := Try.prog) w t t e i0 _ k (8 * k) ht hi hz0 hz1 hz2 H.cells H.pos v l.length (recCells l) hown x m.length c (recCells m) (recCells_len hwm) hcells (recCells_one m) (by unfold maxLen; omega)
      (by have : (l.length + m.length) * (8 * k) ≤ 1000000 * 800 := Nat.mul_le_mul hl (by omega); omega)
    obtain ⟨a', c', rfl⟩ := own_sliceR ho
    rw [← recCells_append] at ho
    exact ⟨a', c', w', by rw [append_types w H ht hu ty t]; exact hrun, by rw [List.length_append]; exact ho, hg, hf⟩
/-- A row of records of the call's own, that none had before. -/
def NewRec (e : TypeId) (k : Nat) (w : World) (a : Option Addr) (c : Nat) (ls : List (List Int)) (w' : World) : Prop :=
  w'.ownsRow 0 e k (.slice a ls.length c) ls.length (recCells ls) ∧ (∀ x, a = some x → w.heap.size ≤ x.block) ∧ Below w.heap.size w w'
theorem NewRec.row {e : TypeId} {k : Nat} {w w' : World} {a : Option Addr} {c : Nat} {ls : List (List Int)} (h : NewRec e k w a c ls w') (hw : Wide k ls) (hk : 0 < k) : RecRow k w' a ls := RecRow.of_own hw hk h.1
theorem newRec_nil (e : TypeId) (k : Nat) (w w1 : World) (h : Below w.heap.size w w1) : NewRec e k w none 0 [] w1 := ⟨World.ownsRow_nil _ _ _ _, fun x hx => (by cases hx), h⟩
theorem newRec_made (e : TypeId) (k : Nat) (w w1 : World) (h : Below w.heap.size w w1) : NewRec e k w (some ⟨w1.heap.size, 0, none⟩) 0 [] (w1.alloc (.cells #[] e)) :=
  ⟨World.ownsRow_made w1 #[] 0 (Nat.zero_le _) (by simp [maxLen]) (by simp), fun x hx => by cases hx; exact h.size, h.alloc h.size _⟩
theorem newRec_keep {e : TypeId} {k : Nat} {w w1 w2 : World} {a : Option Addr} {c : Nat} {ls : List (List Int)} (h : NewRec e k w a c ls w1) (hb : Below w1.heap.size w1 w2) : NewRec e k w a c ls w2 :=
  ⟨own_touchR h.1 (touch_of_below (S := fun _ => False) hb) (fun _ _ => id), h.2.1, h.2.2.trans (hb.mono h.2.2.size)⟩
theorem newRec_touch {S : Nat → Prop} {e : TypeId} {k : Nat} {w w1 w2 : World} {a : Option Addr} {c : Nat} {ls : List (List Int)} (h : NewRec e k w a c ls w1) (ht : Touch S w1 w2) (hs : ∀ x, a = some x → ¬ S x.block) (hS : ∀ j, j < w.heap.size → ¬ S j) : NewRec e k w a c ls w2 :=
  ⟨own_touchR h.1 ht (fun k hk => by
    cases a with
    | none => simp [Value.ownBlock] at hk
    | some x => simp [Value.ownBlock] at hk; subst hk; exact hs x rfl), h.2.1, h.2.2.trans (ht.below h.2.2.size hS)⟩
theorem newRec_from {e : TypeId} {k : Nat} {w w0 w' : World} {a : Option Addr} {c : Nat} {ls : List (List Int)} (h : NewRec e k w0 a c ls w') (hb : Below w.heap.size w w0) : NewRec e k w a c ls w' :=
  ⟨h.1, fun x hx => Nat.le_trans hb.size (h.2.1 x hx), hb.trans (h.2.2.mono hb.size)⟩
theorem newRec_more {w w1 : World} {t u ty e : TypeId} {k : Nat} {z : Value} (H : RecTy e k z) (ht : Try.prog.underlying t = some (.slice e)) (hu : Try.prog.underlying u = some (.slice e)) {a1 : Option Addr} {c1 : Nat} {l m : List (List Int)} (h : NewRec e k w a1 c1 l w1) (hwm : Wide k m) (a : Option Addr) (c : Nat) (hr : RecRow k w1 a m) (hn : a = none → m = []) (hl : l.length + m.length ≤ 1000000) :
    ∃ a' c' w', (Builtin.append_ #[t, u] ty #[.slice a1 l.length c1, .slice a m.length c]).run Try.prog w1 = .ok (.slice a' (l.length + m.length) c') w' ∧ NewRec e k w a' c' (l ++ m) w' ∧ Touch (fun b => a1.map (·.block) = some b) w1 w' := by
  obtain ⟨a', c', w', hrun, ho, hg, hf⟩ := rec_append (ty := ty) H ht hu hwm h.1 a c hr hn hl
  have htg := touch_grown hg
  have e1 : (fun b => (Value.slice a1 l.length c1).ownBlock = some b) = fun b => a1.map (·.block) = some b := by
    funext b; cases a1 <;> simp [Value.ownBlock]
  rw [e1] at htg
  refine ⟨a', c', w', hrun, ⟨by rw [List.length_append] at ho ⊢; exact ho, fun x hx => ?_, ?_⟩, htg⟩
  · subst hx
    rcases hf x.block (by simp [Value.ownBlock]) with h' | h'
    · cases a1 with
      | none => simp [Value.ownBlock] at h'
      | some y => simp [Value.ownBlock] at h'; have := h.2.1 y rfl; omega
    · have := h.2.2.size; omega
  · refine h.2.2.trans (htg.below h.2.2.size fun b hb h' => ?_)
    cases a1 with
    | none => simp at h'
    | some y => simp at h'; have := h.2.1 y rfl; omega
/-- One record more, which lies in a block of its own. -/
theorem newRec_one {w w1 : World} {t u ty e : TypeId} {k : Nat} {z : Value} (H : RecTy e k z) (ht : Try.prog.underlying t = some (.slice e)) (hu : Try.prog.underlying u = some (.slice e)) {a1 : Option Addr} {c1 : Nat} {l : List (List Int)} (h : NewRec e k w a1 c1 l w1) (x : List Int) (hx : x.length = k) (hl : l.length + 1 ≤ 1000000) :
    ∃ a' c' w', (Builtin.append_ #[t, u] ty #[.slice a1 l.length c1, .slice (some ⟨w1.heap.size, 0, none⟩) 1 1]).run Try.prog (w1.alloc (.cells ((x.map (Value.int .i64)).toArray) e)) = .ok (.slice a' (l.length + 1) c') w' ∧ NewRec e k w a' c' (l ++ [x]) w' ∧ Touch (fun b => a1.map (·.block) = some b) w1 w' := by
  have hb : Below w1.heap.size w1 (w1.alloc (.cells ((x.map (Value.int .i64)).toArray) e)) := (Below.refl _ _).alloc (Nat.le_refl _) _
  have hw : Wide k [x] := by intro y hy; simp at hy; rw [hy]; exact hx
  obtain ⟨a', c', w', h1, h2, h3⟩ := newRec_more (ty := ty) H ht hu (newRec_keep h hb) hw (some ⟨w1.heap.size, 0, none⟩) 1 (RecRow.lit w1 [x] hw _ _ (by simp [recCells])) (fun h => by cases h) (by simpa using hl)
  exact ⟨a', c', w', h1, h2, ((Touch.refl _ w1).alloc _).trans h3⟩
end Go.Proofs.Ytcbadcbnknmdnaa
namespace Go.Proofs.Ytcbadcbnknmdnaa
open Go.RowKit
set_option linter.unusedVariables false

/-- An order. -/
structure Ord where
  kind : Int
  unit : Int
  a : Int
  b : Int
def Ord.ints (o : Ord) : List Int := [o.kind, o.unit, o.a, o.b]
def OrdOk (o : Ord) : Prop := B64 o.kind ∧ B64 o.unit ∧ B64 o.a ∧ B64 o.b
def numQ (n : Int) : Bool := decide (1 ≤ n) && decide (n < 1099511627776)
def placeQ (n : Int) : Bool := decide (-1000 ≤ n) && decide (n ≤ 1000)
def kindQ (n : Int) : Bool := decide (0 ≤ n) && decide (n ≤ 255)
def okN (q : Bool) : Nat := if q then 0 else 4
/-- The number of the error that tells why an order may not be. -/
def checkN (o : Ord) : Nat :=
  if o.kind = 1 then okN (numQ o.unit && (placeQ o.a && placeQ o.b))
  else if o.kind = 2 then okN (numQ o.unit && (numQ o.a && decide (o.b = 0)))
  else if o.kind = 3 then okN (decide (o.unit = 0) && (kindQ o.a && placeQ o.b))
  else if o.kind = 4 then okN (numQ o.unit && (decide (o.a = 0) && decide (o.b = 0)))
  else 7
theorem checkN_le (o : Ord) : checkN o ≤ 7 := by
  unfold checkN okN
  repeat' split
  all_goals omega
def ordV (o : Ord) : Value := .agg #[.int .i64 o.kind, .int .i64 o.unit, .int .i64 o.a, .int .i64 o.b]
theorem isNumber_any (n : Int) (w : World) : Calls Try.prog 109 #[.int .i64 n] w fun r w' => r = .returned (.bool (numQ n)) ∧ w = w' := by
  by_cases h1 : 1 ≤ n
  · by_cases h2 : n < 1099511627776
    · have HQ := Lib.hid (show numQ n = true by simp [numQ, h1, h2])
      have d1 : decide (1 ≤ n) = true := by simpa using h1
      have d2 : decide (n < 1099511627776) = true := by simpa using h2
      clear h1 h2
      go_enter Try.func109, Try.ntmps109
      go_wp2
      go_ret
      exact ⟨by rw [HQ.out]; rfl, rfl⟩
    · have HQ := Lib.hid (show numQ n = false by simp [numQ, h1, h2])
      have d1 : decide (1 ≤ n) = true := by simpa using h1
      have d2 : decide (n < 1099511627776) = false := by simpa using h2
      clear h1 h2
      go_enter Try.func109, Try.ntmps109
      go_wp2
      go_ret
      exact ⟨by rw [HQ.out]; rfl, rfl⟩
  · have HQ := Lib.hid (show numQ n = false by simp [numQ, h1])
    have d1 : decide (1 ≤ n) = false := by simpa using h1
    clear h1
    go_enter Try.func109, Try.ntmps109
    go_wp2
    go_ret
    exact ⟨by rw [HQ.out]; rfl, rfl⟩
theorem isPlace_any (n : Int) (w : World) : Calls Try.prog 110 #[.int .i64 n] w fun r w' => r = .returned (.bool (placeQ n)) ∧ w = w' := by
  by_cases h1 : -1000 ≤ n
  · by_cases h2 : n ≤ 1000
    · have HQ := Lib.hid (show placeQ n = true by simp [placeQ, h1, h2])
      have d1 : decide (-1000 ≤ n) = true := by simpa using h1
      have d2 : decide (n ≤ 1000) = true := by simpa using h2
      clear h1 h2
      go_enter Try.func110, Try.ntmps110
      go_wp2
      go_ret
      exact ⟨by rw [HQ.out]; rfl, rfl⟩
    · have HQ := Lib.hid (show placeQ n = false by simp [placeQ, h1, h2])
      have d1 : decide (-1000 ≤ n) = true := by simpa using h1
      have d2 : decide (n ≤ 1000) = false := by simpa using h2
      clear h1 h2
      go_enter Try.func110, Try.ntmps110
      go_wp2
      go_ret
      exact ⟨by rw [HQ.out]; rfl, rfl⟩
  · have HQ := Lib.hid (show placeQ n = false by simp [placeQ, h1])
    have d1 : decide (-1000 ≤ n) = false := by simpa using h1
    clear h1
    go_enter Try.func110, Try.ntmps110
    go_wp2
    go_ret
    exact ⟨by rw [HQ.out]; rfl, rfl⟩
theorem refId_any (n : Int) (w : World) : Calls Try.prog 106 #[.int .i64 n] w fun r w' => r = .returned (.bool (numQ n)) ∧ w = w' := by
  by_cases h1 : 1 ≤ n
  · by_cases h2 : n < 1099511627776
    · have HQ := Lib.hid (show numQ n = true by simp [numQ, h1, h2])
      have d1 : decide (1 ≤ n) = true := by simpa using h1
      have d2 : decide (n < 1099511627776) = true := by simpa using h2
      clear h1 h2
      go_enter Try.func106, Try.ntmps106
      go_wp2
      go_ret
      exact ⟨by rw [HQ.out]; rfl, rfl⟩
    · have HQ := Lib.hid (show numQ n = false by simp [numQ, h1, h2])
      have d1 : decide (1 ≤ n) = true := by simpa using h1
      have d2 : decide (n < 1099511627776) = false := by simpa using h2
      clear h1 h2
      go_enter Try.func106, Try.ntmps106
      go_wp2
      go_ret
      exact ⟨by rw [HQ.out]; rfl, rfl⟩
  · have HQ := Lib.hid (show numQ n = false by simp [numQ, h1])
    have d1 : decide (1 ≤ n) = false := by simpa using h1
    clear h1
    go_enter Try.func106, Try.ntmps106
    go_wp2
    go_ret
    exact ⟨by rw [HQ.out]; rfl, rfl⟩
theorem refPlace_any (n : Int) (w : World) : Calls Try.prog 107 #[.int .i64 n] w fun r w' => r = .returned (.bool (placeQ n)) ∧ w = w' := by
  by_cases h1 : -1000 ≤ n
  · by_cases h2 : n ≤ 1000
    · have HQ := Lib.hid (show placeQ n = true by simp [placeQ, h1, h2])
      have d1 : decide (-1000 ≤ n) = true := by simpa using h1
      have d2 : decide (n ≤ 1000) = true := by simpa using h2
      clear h1 h2
      go_enter Try.func107, Try.ntmps107
      go_wp2
      go_ret
      exact ⟨by rw [HQ.out]; rfl, rfl⟩
    · have HQ := Lib.hid (show placeQ n = false by simp [placeQ, h1, h2])
      have d1 : decide (-1000 ≤ n) = true := by simpa using h1
      have d2 : decide (n ≤ 1000) = false := by simpa using h2
      clear h1 h2
      go_enter Try.func107, Try.ntmps107
      go_wp2
      go_ret
      exact ⟨by rw [HQ.out]; rfl, rfl⟩
  · have HQ := Lib.hid (show placeQ n = false by simp [placeQ, h1])
    have d1 : decide (-1000 ≤ n) = false := by simpa using h1
    clear h1
    go_enter Try.func107, Try.ntmps107
    go_wp2
    go_ret
    exact ⟨by rw [HQ.out]; rfl, rfl⟩
set_option maxRecDepth 100000 in
set_option maxHeartbeats 2000000 in
theorem ordCheck_any (o : Ord) (w : World) : Calls Try.prog 83 #[ordV o] w fun r w' => r = .returned (.int .i64 (checkN o : Nat)) ∧ Below w.heap.size w w' := by
  obtain ⟨k, u, a, b⟩ := o
  unfold ordV
  simp only
  by_cases h1 : k = 1
  · subst h1
    have HN := Lib.hid (fun w => isNumber_any u w)
    have HA := Lib.hid (fun w => isPlace_any a w)
    have HB := Lib.hid (fun w => isPlace_any b w)
    have HC := Lib.hid (show checkN ⟨1, u, a, b⟩ = okN (numQ u && (placeQ a && placeQ b)) from rfl)
    generalize numQ u = q0 at HN HC
    generalize placeQ a = q1 at HA HC
    generalize placeQ b = q2 at HB HC
    cases q0 <;> cases q1 <;> cases q2
    all_goals
      go_enter Try.func83, Try.ntmps83
      go_wp2_with (first | (go_at_call 109; (with_reducible refine (HN.out _).mono ?_); rintro e w' ⟨rfl, rfl⟩) | (go_at_call 110; (with_reducible refine (HA.out _).mono ?_); rintro e w' ⟨rfl, rfl⟩) | (go_at_call 110; (with_reducible refine (HB.out _).mono ?_); rintro e w' ⟨rfl, rfl⟩))
      go_ret
      exact ⟨by rw [HC.out]; rfl, (Below.refl _ _).alloc (Nat.le_refl _) _⟩
  by_cases h2 : k = 2
  · subst h2
    have HN := Lib.hid (fun w => isNumber_any u w)
    have HA := Lib.hid (fun w => isNumber_any a w)
    have HC := Lib.hid (show checkN ⟨2, u, a, b⟩ = okN (numQ u && (numQ a && decide (b = 0))) from rfl)
    generalize numQ u = q0 at HN HC
    generalize numQ a = q1 at HA HC
    by_cases hb : b = 0
    · subst hb
      cases q0 <;> cases q1
      all_goals
        go_enter Try.func83, Try.ntmps83
        go_wp2_with (first | (go_at_call 109; (with_reducible refine (HN.out _).mono ?_); rintro e w' ⟨rfl, rfl⟩) | (go_at_call 109; (with_reducible refine (HA.out _).mono ?_); rintro e w' ⟨rfl, rfl⟩))
        go_ret
        exact ⟨by rw [HC.out]; rfl, (Below.refl _ _).alloc (Nat.le_refl _) _⟩
    · rw [decide_eq_false hb] at HC
      have hbb : (b == 0) = false := by simpa using hb
      clear hb
      cases q0 <;> cases q1
      all_goals
        go_enter Try.func83, Try.ntmps83
        go_wp2_with (first | (go_at_call 109; (with_reducible refine (HN.out _).mono ?_); rintro e w' ⟨rfl, rfl⟩) | (go_at_call 109; (with_reducible refine (HA.out _).mono ?_); rintro e w' ⟨rfl, rfl⟩))
        go_ret
        exact ⟨by rw [HC.out]; rfl, (Below.refl _ _).alloc (Nat.le_refl _) _⟩
  by_cases h3 : k = 3
  · subst h3
    have HB := Lib.hid (fun w => isPlace_any b w)
    have HC := Lib.hid (show checkN ⟨3, u, a, b⟩ = okN (decide (u = 0) && (kindQ a && placeQ b)) from rfl)
    generalize placeQ b = q2 at HB HC
    by_cases hu : u = 0
    · subst hu
      by_cases ha1 : 0 ≤ a
      · by_cases ha2 : a ≤ 255
        · rw [show kindQ a = true by simp [kindQ, ha1, ha2]] at HC
          have d1 : decide (0 ≤ a) = true := by simpa using ha1
          have d2 : decide (a ≤ 255) = true := by simpa using ha2
          clear ha1 ha2
          cases q2
          all_goals
            go_enter Try.func83, Try.ntmps83
            go_wp2_with (first | (go_at_call 110; (with_reducible refine (HB.out _).mono ?_); rintro e w' ⟨rfl, rfl⟩))
            go_ret
            exact ⟨by rw [HC.out]; rfl, (Below.refl _ _).alloc (Nat.le_refl _) _⟩
        · rw [show kindQ a = false by simp [kindQ, ha1, ha2]] at HC
          have d1 : decide (0 ≤ a) = true := by simpa using ha1
          have d2 : decide (a ≤ 255) = false := by simpa using ha2
          clear ha1 ha2
          cases q2
          all_goals
            go_enter Try.func83, Try.ntmps83
            go_wp2_with (first | (go_at_call 110; (with_reducible refine (HB.out _).mono ?_); rintro e w' ⟨rfl, rfl⟩))
            go_ret
            exact ⟨by rw [HC.out]; rfl, (Below.refl _ _).alloc (Nat.le_refl _) _⟩
      · rw [show kindQ a = false by simp [kindQ, ha1]] at HC
        have d1 : decide (0 ≤ a) = false := by simpa using ha1
        clear ha1
        cases q2
        all_goals
          go_enter Try.func83, Try.ntmps83
          go_wp2_with (first | (go_at_call 110; (with_reducible refine (HB.out _).mono ?_); rintro e w' ⟨rfl, rfl⟩))
          go_ret
          exact ⟨by rw [HC.out]; rfl, (Below.refl _ _).alloc (Nat.le_refl _) _⟩
    · rw [decide_eq_false hu] at HC
      have hub : (u == 0) = false := by simpa using hu
      clear hu
      go_enter Try.func83, Try.ntmps83
      go_wp2
      go_ret
      exact ⟨by rw [HC.out]; rfl, (Below.refl _ _).alloc (Nat.le_refl _) _⟩
  by_cases h4 : k = 4
  · subst h4
    have HN := Lib.hid (fun w => isNumber_any u w)
    have HC := Lib.hid (show checkN ⟨4, u, a, b⟩ = okN (numQ u && (decide (a = 0) && decide (b = 0))) from rfl)
    generalize numQ u = q0 at HN HC
    by_cases ha : a = 0
    · subst ha
      by_cases hb : b = 0
      · subst hb
        cases q0
        all_goals
          go_enter Try.func83, Try.ntmps83
          go_wp2_with (first | (go_at_call 109; (with_reducible refine (HN.out _).mono ?_); rintro e w' ⟨rfl, rfl⟩))
          go_ret
          exact ⟨by rw [HC.out]; rfl, (Below.refl _ _).alloc (Nat.le_refl _) _⟩
      · rw [decide_eq_false hb] at HC
        have hbb : (b == 0) = false := by simpa using hb
        clear hb
        cases q0
        all_goals
          go_enter Try.func83, Try.ntmps83
          go_wp2_with (first | (go_at_call 109; (with_reducible refine (HN.out _).mono ?_); rintro e w' ⟨rfl, rfl⟩))
          go_ret
          exact ⟨by rw [HC.out]; rfl, (Below.refl _ _).alloc (Nat.le_refl _) _⟩
    · rw [decide_eq_false ha] at HC
      have hab : (a == 0) = false := by simpa using ha
      clear ha
      cases q0
      all_goals
        go_enter Try.func83, Try.ntmps83
        go_wp2_with (first | (go_at_call 109; (with_reducible refine (HN.out _).mono ?_); rintro e w' ⟨rfl, rfl⟩))
        go_ret
        exact ⟨by rw [HC.out]; rfl, (Below.refl _ _).alloc (Nat.le_refl _) _⟩
  have HC := Lib.hid (show checkN ⟨k, u, a, b⟩ = 7 by simp [checkN, h1, h2, h3, h4])
  have g1 : (k == 1) = false := by simpa using h1
  have g2 : (k == 2) = false := by simpa using h2
  have g3 : (k == 3) = false := by simpa using h3
  have g4 : (k == 4) = false := by simpa using h4
  clear h1 h2 h3 h4
  go_enter Try.func83, Try.ntmps83
  go_wp2
  go_ret
  exact ⟨by rw [HC.out]; rfl, (Below.refl _ _).alloc (Nat.le_refl _) _⟩
set_option maxRecDepth 100000 in
set_option maxHeartbeats 2000000 in
theorem refOrdCheck_any (o : Ord) (w : World) : Calls Try.prog 78 #[ordV o] w fun r w' => r = .returned (.int .i64 (checkN o : Nat)) ∧ Below w.heap.size w w' := by
  obtain ⟨k, u, a, b⟩ := o
  unfold ordV
  simp only
  by_cases h1 : k = 1
  · subst h1
    have HN := Lib.hid (fun w => refId_any u w)
    have HA := Lib.hid (fun w => refPlace_any a w)
    have HB := Lib.hid (fun w => refPlace_any b w)
    have HC := Lib.hid (show checkN ⟨1, u, a, b⟩ = okN (numQ u && (placeQ a && placeQ b)) from rfl)
    generalize numQ u = q0 at HN HC
    generalize placeQ a = q1 at HA HC
    generalize placeQ b = q2 at HB HC
    cases q0 <;> cases q1 <;> cases q2
    all_goals
      go_enter Try.func78, Try.ntmps78
      go_wp2_with (first | (go_at_call 106; (with_reducible refine (HN.out _).mono ?_); rintro e w' ⟨rfl, rfl⟩) | (go_at_call 107; (with_reducible refine (HA.out _).mono ?_); rintro e w' ⟨rfl, rfl⟩) | (go_at_call 107; (with_reducible refine (HB.out _).mono ?_); rintro e w' ⟨rfl, rfl⟩))
      go_ret
      exact ⟨by rw [HC.out]; rfl, (Below.refl _ _).alloc (Nat.le_refl _) _⟩
  by_cases h2 : k = 2
  · subst h2
    have HN := Lib.hid (fun w => refId_any u w)
    have HA := Lib.hid (fun w => refId_any a w)
    have HC := Lib.hid (show checkN ⟨2, u, a, b⟩ = okN (numQ u && (numQ a && decide (b = 0))) from rfl)
    generalize numQ u = q0 at HN HC
    generalize numQ a = q1 at HA HC
    by_cases hb : b = 0
    · subst hb
      cases q0 <;> cases q1
      all_goals
        go_enter Try.func78, Try.ntmps78
        go_wp2_with (first | (go_at_call 106; (with_reducible refine (HN.out _).mono ?_); rintro e w' ⟨rfl, rfl⟩) | (go_at_call 106; (with_reducible refine (HA.out _).mono ?_); rintro e w' ⟨rfl, rfl⟩))
        go_ret
        exact ⟨by rw [HC.out]; rfl, (Below.refl _ _).alloc (Nat.le_refl _) _⟩
    · rw [decide_eq_false hb] at HC
      have hbb : (b == 0) = false := by simpa using hb
      clear hb
      cases q0 <;> cases q1
      all_goals
        go_enter Try.func78, Try.ntmps78
        go_wp2_with (first | (go_at_call 106; (with_reducible refine (HN.out _).mono ?_); rintro e w' ⟨rfl, rfl⟩) | (go_at_call 106; (with_reducible refine (HA.out _).mono ?_); rintro e w' ⟨rfl, rfl⟩))
        go_ret
        exact ⟨by rw [HC.out]; rfl, (Below.refl _ _).alloc (Nat.le_refl _) _⟩
  by_cases h3 : k = 3
  · subst h3
    have HB := Lib.hid (fun w => refPlace_any b w)
    have HC := Lib.hid (show checkN ⟨3, u, a, b⟩ = okN (decide (u = 0) && (kindQ a && placeQ b)) from rfl)
    generalize placeQ b = q2 at HB HC
    by_cases hu : u = 0
    · subst hu
      by_cases ha1 : 0 ≤ a
      · by_cases ha2 : a ≤ 255
        · rw [show kindQ a = true by simp [kindQ, ha1, ha2]] at HC
          have d1 : decide (0 ≤ a) = true := by simpa using ha1
          have d2 : decide (a ≤ 255) = true := by simpa using ha2
          clear ha1 ha2
          cases q2
          all_goals
            go_enter Try.func78, Try.ntmps78
            go_wp2_with (first | (go_at_call 107; (with_reducible refine (HB.out _).mono ?_); rintro e w' ⟨rfl, rfl⟩))
            go_ret
            exact ⟨by rw [HC.out]; rfl, (Below.refl _ _).alloc (Nat.le_refl _) _⟩
        · rw [show kindQ a = false by simp [kindQ, ha1, ha2]] at HC
          have d1 : decide (0 ≤ a) = true := by simpa using ha1
          have d2 : decide (a ≤ 255) = false := by simpa using ha2
          clear ha1 ha2
          cases q2
          all_goals
            go_enter Try.func78, Try.ntmps78
            go_wp2_with (first | (go_at_call 107; (with_reducible refine (HB.out _).mono ?_); rintro e w' ⟨rfl, rfl⟩))
            go_ret
            exact ⟨by rw [HC.out]; rfl, (Below.refl _ _).alloc (Nat.le_refl _) _⟩
      · rw [show kindQ a = false by simp [kindQ, ha1]] at HC
        have d1 : decide (0 ≤ a) = false := by simpa using ha1
        clear ha1
        cases q2
        all_goals
          go_enter Try.func78, Try.ntmps78
          go_wp2_with (first | (go_at_call 107; (with_reducible refine (HB.out _).mono ?_); rintro e w' ⟨rfl, rfl⟩))
          go_ret
          exact ⟨by rw [HC.out]; rfl, (Below.refl _ _).alloc (Nat.le_refl _) _⟩
    · rw [decide_eq_false hu] at HC
      have hub : (u == 0) = false := by simpa using hu
      clear hu
      go_enter Try.func78, Try.ntmps78
      go_wp2
      go_ret
      exact ⟨by rw [HC.out]; rfl, (Below.refl _ _).alloc (Nat.le_refl _) _⟩
  by_cases h4 : k = 4
  · subst h4
    have HN := Lib.hid (fun w => refId_any u w)
    have HC := Lib.hid (show checkN ⟨4, u, a, b⟩ = okN (numQ u && (decide (a = 0) && decide (b = 0))) from rfl)
    generalize numQ u = q0 at HN HC
    by_cases ha : a = 0
    · subst ha
      by_cases hb : b = 0
      · subst hb
        cases q0
        all_goals
          go_enter Try.func78, Try.ntmps78
          go_wp2_with (first | (go_at_call 106; (with_reducible refine (HN.out _).mono ?_); rintro e w' ⟨rfl, rfl⟩))
          go_ret
          exact ⟨by rw [HC.out]; rfl, (Below.refl _ _).alloc (Nat.le_refl _) _⟩
      · rw [decide_eq_false hb] at HC
        have hbb : (b == 0) = false := by simpa using hb
        clear hb
        cases q0
        all_goals
          go_enter Try.func78, Try.ntmps78
          go_wp2_with (first | (go_at_call 106; (with_reducible refine (HN.out _).mono ?_); rintro e w' ⟨rfl, rfl⟩))
          go_ret
          exact ⟨by rw [HC.out]; rfl, (Below.refl _ _).alloc (Nat.le_refl _) _⟩
    · rw [decide_eq_false ha] at HC
      have hab : (a == 0) = false := by simpa using ha
      clear ha
      cases q0
      all_goals
        go_enter Try.func78, Try.ntmps78
        go_wp2_with (first | (go_at_call 106; (with_reducible refine (HN.out _).mono ?_); rintro e w' ⟨rfl, rfl⟩))
        go_ret
        exact ⟨by rw [HC.out]; rfl, (Below.refl _ _).alloc (Nat.le_refl _) _⟩
  have HC := Lib.hid (show checkN ⟨k, u, a, b⟩ = 7 by simp [checkN, h1, h2, h3, h4])
  have g1 : (k == 1) = false := by simpa using h1
  have g2 : (k == 2) = false := by simpa using h2
  have g3 : (k == 3) = false := by simpa using h3
  have g4 : (k == 4) = false := by simpa using h4
  clear h1 h2 h3 h4
  go_enter Try.func78, Try.ntmps78
  go_wp2
  go_ret
  exact ⟨by rw [HC.out]; rfl, (Below.refl _ _).alloc (Nat.le_refl _) _⟩
end Go.Proofs.Ytcbadcbnknmdnaa
namespace Go.Proofs.Ytcbadcbnknmdnaa
open Go.RowKit
set_option linter.unusedVariables false

def ordsI (l : List Ord) : List (List Int) := l.map Ord.ints
theorem ordsI_wide (l : List Ord) : Wide 4 (ordsI l) := by
  intro x hx
  simp only [ordsI, List.mem_map] at hx
  obtain ⟨o, -, rfl⟩ := hx
  rfl
theorem ordsI_len (l : List Ord) : (ordsI l).length = l.length := by simp [ordsI]
theorem ordsI_append (l m : List Ord) : ordsI (l ++ m) = ordsI l ++ ordsI m := by simp [ordsI]
theorem ordsI_take (l : List Ord) (k : Nat) : ordsI (l.take k) = (ordsI l).take k := by simp [ordsI, List.map_take]
def OrdRow (w : World) (a : Option Addr) (l : List Ord) : Prop := RecRow 4 w a (ordsI l)
theorem OrdRow.below {w w' : World} {a : Option Addr} {l : List Ord} (h : OrdRow w a l) (hb : Below w.heap.size w w') : OrdRow w' a l := RecRow.below (by decide) h hb
theorem OrdRow.take {w : World} {a : Option Addr} {l : List Ord} (h : OrdRow w a l) (k : Nat) : OrdRow w a (l.take k) := by
  have := RecRow.take h k
  unfold OrdRow
  rw [ordsI_take]
  exact this
theorem OrdRow.at {w : World} {a : Option Addr} {l : List Ord} (h : OrdRow w a l) {i : Nat} (hi : i < l.length) : ∃ b off, a = some ⟨b, off, none⟩ ∧ b < w.heap.size ∧ w.cell? ⟨b, off + i * 4, none⟩ = some (.int .i64 l[i].kind) ∧ w.cell? ⟨b, off + i * 4 + 1, none⟩ = some (.int .i64 l[i].unit) ∧ w.cell? ⟨b, off + i * 4 + 2, none⟩ = some (.int .i64 l[i].a) ∧ w.cell? ⟨b, off + i * 4 + 3, none⟩ = some (.int .i64 l[i].b) := by
  obtain ⟨b, off, e, hc⟩ := h (by rw [ordsI_len]; omega)
  have hi' : i < (ordsI l).length := by rw [ordsI_len]; exact hi
  have he : (ordsI l)[i] = l[i].ints := by simp [ordsI]
  have c0 := hc i hi' 0 (by decide)
  have c1 := hc i hi' 1 (by decide)
  have c2 := hc i hi' 2 (by decide)
  have c3 := hc i hi' 3 (by decide)
  rw [he] at c0 c1 c2 c3
  exact ⟨b, off, e, block_lt_of_cell c0, c0, c1, c2, c3⟩
/-- The number of the first error. -/
def firstN : List Ord → Nat
  | [] => 0
  | o :: l => if checkN o ≠ 0 then checkN o else firstN l
def batchN (l : List Ord) : Nat := if 8 < l.length then 8 else firstN l
theorem firstN_drop (l : List Ord) (k : Nat) (h : k < l.length) : firstN (l.drop k) = if checkN l[k] ≠ 0 then checkN l[k] else firstN (l.drop (k + 1)) := by
  rw [List.drop_eq_getElem_cons h]; rfl
set_option maxRecDepth 100000 in
set_option maxHeartbeats 1000000 in
theorem batchCheck_any (a : Option Addr) (c : Nat) (l : List Ord) (w : World) (hl : l.length ≤ 1000000) (hr : OrdRow w a l) :
    Calls Try.prog 72 #[.slice a l.length c] w fun r w' => r = .returned (.int .i64 (batchN l : Nat)) ∧ Below w.heap.size w w' := by
  have HR := Lib.hid hr
  clear hr
  by_cases h8 : 8 < l.length
  · have HB := Lib.hid (show batchN l = 8 from if_pos h8)
    go_enter Try.func72, Try.ntmps72
    go_wp2
    go_ret
    exact ⟨by rw [HB.out]; rfl, Below.refl _ _⟩
  · have HB := Lib.hid (show batchN l = firstN l from if_neg h8)
    go_enter Try.func72, Try.ntmps72
    go_wp2
    go_loopw [11] (fun i wr => ∃ k : Nat, k ≤ l.length ∧ i = .int .i64 k ∧ Hid (firstN l = firstN (l.drop k)) ∧ Hid (Below w.heap.size w wr)) (fun i _ => l.length - (intOf i).toNat)
    case atStart => exact ⟨0, by omega, rfl, Lib.hid rfl, Lib.hid (Below.refl _ _)⟩
    case round =>
      obtain ⟨k, hk, rfl, HF, HW⟩ := hrel
      by_cases hlt : k < l.length
      · obtain ⟨b, off, rfl, hb, c0, c1, c2, c3⟩ := (HR.out.below HW.out).at hlt
        have HD := Lib.hid (firstN_drop l k hlt)
        generalize l[k] = o at c0 c1 c2 c3 HD
        obtain ⟨ok, ou, oa, ob⟩ := o
        simp only at c0 c1 c2 c3
        have HC := Lib.hid (fun w => ordCheck_any ⟨ok, ou, oa, ob⟩ w)
        generalize checkN ⟨ok, ou, oa, ob⟩ = n at HC HD
        unfold ordV at HC
        simp only at HC
        go_wp2_with fail
        refine (HC.out _).mono ?_
        rintro r w1 ⟨rfl, hb1⟩
        have HW1 := Lib.hid (HW.out.trans ((((Below.refl _ wr).alloc (Nat.le_refl _) (.cells #[.int .i64 ok, .int .i64 ou, .int .i64 oa, .int .i64 ob] 158)).trans (hb1.mono (by simp))).mono HW.out.size))
        clear hb1
        by_cases hn : n = 0
        · subst hn
          go_wp2
          go_roundw
          case rel => exact ⟨k + 1, by omega, by go_num, Lib.hid (HF.out.trans (HD.out.trans (by simp))), HW1⟩
          case measure => simp [intOf]; omega
        · have hnb : ((n : Int) != 0) = true := by simp; omega
          have HE := Lib.hid (show batchN l = n by rw [HB.out, HF.out, HD.out, if_pos hn])
          clear hn
          go_wp2
          go_ret
          exact ⟨by rw [HE.out]; rfl, HW1.out⟩
      · have HE := Lib.hid (show batchN l = 0 by rw [HB.out, HF.out, List.drop_of_length_le (by omega)]; rfl)
        go_wp2
        go_ret
        exact ⟨by rw [HE.out]; rfl, HW.out⟩
theorem ordTy : RecTy 158 4 (.agg #[.int .i64 0, .int .i64 0, .int .i64 0, .int .i64 0]) := ⟨by kernel_rfl, rfl, by decide, by decide⟩
theorem rordTy : RecTy 159 4 (.agg #[.int .i64 0, .int .i64 0, .int .i64 0, .int .i64 0]) := ⟨by kernel_rfl, rfl, by decide, by decide⟩
/-- A batch that none had before. -/
def NewOrd (e : TypeId) (w : World) (a : Option Addr) (c : Nat) (l : List Ord) (w' : World) : Prop := NewRec e 4 w a c (ordsI l) w'
theorem NewOrd.row {e : TypeId} {w w' : World} {a : Option Addr} {c : Nat} {l : List Ord} (h : NewOrd e w a c l w') : OrdRow w' a l := NewRec.row h (ordsI_wide l) (by decide)
theorem NewOrd.bel {e : TypeId} {w w' : World} {a : Option Addr} {c : Nat} {l : List Ord} (h : NewOrd e w a c l w') : Below w.heap.size w w' := h.2.2
theorem NewOrd.keep {e : TypeId} {w w1 w2 : World} {a : Option Addr} {c : Nat} {l : List Ord} (h : NewOrd e w a c l w1) (hb : Below w1.heap.size w1 w2) : NewOrd e w a c l w2 := newRec_keep h hb
theorem newOrd_one {w w1 : World} {t u ty e : TypeId} {z : Value} (H : RecTy e 4 z) (ht : Try.prog.underlying t = some (.slice e)) (hu : Try.prog.underlying u = some (.slice e)) {a1 : Option Addr} {c1 : Nat} {l : List Ord} (h : NewOrd e w a1 c1 l w1) (o : Ord) (hl : l.length + 1 ≤ 1000000) :
    ∃ a' c' w', (Builtin.append_ #[t, u] ty #[.slice a1 l.length c1, .slice (some ⟨w1.heap.size, 0, none⟩) 1 1]).run Try.prog (w1.alloc (.cells #[.int .i64 o.kind, .int .i64 o.unit, .int .i64 o.a, .int .i64 o.b] e)) = .ok (.slice a' (l.length + 1) c') w' ∧ NewOrd e w a' c' (l ++ [o]) w' ∧ Touch (fun b => a1.map (·.block) = some b) w1 w' := by
  obtain ⟨a', c', w', h1, h2, h3⟩ := newRec_one (ty := ty) H ht hu h o.ints rfl (by rw [ordsI_len]; exact hl)
  rw [ordsI_len] at h1
  refine ⟨a', c', w', h1, ?_, h3⟩
  unfold NewOrd
  rw [ordsI_append]
  exact h2
end Go.Proofs.Ytcbadcbnknmdnaa
namespace Go.Proofs.Ytcbadcbnknmdnaa
open Go.RowKit
set_option linter.unusedVariables false

set_option maxRecDepth 100000 in
set_option maxHeartbeats 1000000 in
theorem ordTold_any (a : Option Addr) (c : Nat) (l : List Ord) (w : World) (hl : l.length ≤ 100000) (hr : OrdRow w a l) :
    Calls Try.prog 49 #[.slice a l.length c] w fun r w' => ∃ a' c', r = .returned (.slice a' l.length c') ∧ NewOrd 159 w a' c' l w' := by
  have HR := Lib.hid hr
  have H0 := Lib.hid (newRec_made 159 4 w w (Below.refl _ _))
  clear hr
  go_enter Try.func49, Try.ntmps49
  go_wp2
  go_loopw [3, 9] (fun o i wr => ∃ (k : Nat) (a' : Option Addr) (c' : Nat), k ≤ l.length ∧ o = .slice a' k c' ∧ i = .int .i64 k ∧ Hid (NewOrd 159 w a' c' (l.take k) wr)) (fun _ i _ => l.length - (intOf i).toNat)
  case atStart => exact ⟨0, _, _, by omega, rfl, rfl, H0⟩
  case round =>
    obtain ⟨k, a', c', hk, rfl, rfl, HN⟩ := hrel
    by_cases hlt : k < l.length
    · obtain ⟨b, off, rfl, hb, c0, c1, c2, c3⟩ := (HR.out.below HN.out.bel).at hlt
      have HT := Lib.hid (List.take_succ_eq_append_getElem hlt)
      have hlk : (l.take k).length = k := by simp; omega
      generalize l[k] = o at c0 c1 c2 c3 HT
      obtain ⟨a2, c2', w2, hrun, hnew, -⟩ := newOrd_one (t := 107) (u := 107) (ty := 107) rordTy Try.underlying107 Try.underlying107 (HN.out.keep ((Below.refl _ wr).alloc (Nat.le_refl _) (.cells #[.int .i64 o.kind, .int .i64 o.unit, .int .i64 o.a, .int .i64 o.b] 158))) o (by omega)
      rw [hlk, show (wr.alloc (.cells #[.int .i64 o.kind, .int .i64 o.unit, .int .i64 o.a, .int .i64 o.b] 158)).heap.size = wr.heap.size + 1 by simp] at hrun
      rw [← HT.out] at hnew
      have HRUN := Lib.hid hrun
      have HNEW := Lib.hid hnew
      clear hrun hnew hlk
      obtain ⟨ok, ou, oa, ob⟩ := o
      simp only at c0 c1 c2 c3 HRUN
      go_wp2_with (at_builtin; refine wpList_append_run _ rfl (.tmp 13) (.tmp 15) 107 107 rfl _ _ rfl rfl (.slice a2 (k + 1) c2') w2 HRUN.out ?_)
      go_roundw
      case rel => exact ⟨k + 1, a2, c2', by omega, rfl, by go_num, HNEW⟩
      case measure => simp [intOf]; omega
    · obtain rfl : k = l.length := by omega
      rw [List.take_length] at HN
      go_wp2
      go_ret
      exact ⟨a', c', rfl, HN.out⟩
end Go.Proofs.Ytcbadcbnknmdnaa
namespace Go.Proofs.Ytcbadcbnknmdnaa
open Go.RowKit
set_option linter.unusedVariables false

def ordQ (x y : Ord) : Bool := x.kind == y.kind && (x.unit == y.unit && (x.a == y.a && x.b == y.b))
theorem ordQ_iff (x y : Ord) : ordQ x y = true ↔ x = y := by
  obtain ⟨a, b, c, d⟩ := x
  obtain ⟨e, f, g, h⟩ := y
  simp [ordQ]
theorem ord_neq (x y : Ord) (w : World) : (binOp .neq 159 (ordV x) (ordV y)).run Try.prog w = .ok (.bool (!ordQ x y)) w := by
  obtain ⟨a, b, c, d⟩ := x
  obtain ⟨e, f, g, h⟩ := y
  unfold ordV ordQ
  simp only
  by_cases h0 : a = e <;> by_cases h1 : b = f <;> by_cases h2 : c = g <;> by_cases h3 : d = h <;> go_simp
/-- What the law's Same tells. -/
def SamePost (w : World) (l m : List Ord) (r : Ending) (w' : World) : Prop := ∃ n : Int, r = .returned (.int .i64 n) ∧ (n = 0 ∨ n = -1) ∧ (n = 0 ↔ l = m) ∧ Below w.heap.size w w'
theorem take_all_eq {α : Type} {l m : List α} {k : Nat} (h : l.length = m.length) (hk : l.length ≤ k) (e : l.take k = m.take k) : l = m := by
  rwa [List.take_of_length_le hk, List.take_of_length_le (by omega)] at e
set_option maxRecDepth 100000 in
set_option maxHeartbeats 1000000 in
theorem ordSame_any (a : Option Addr) (c : Nat) (l : List Ord) (b : Option Addr) (d : Nat) (m : List Ord) (w : World) (hl : l.length ≤ 100000) (hm : m.length ≤ 100000) (hr : OrdRow w a l) (hs : OrdRow w b m) :
    Calls Try.prog 51 #[.slice a l.length c, .slice b m.length d] w (SamePost w l m) := by
  have HR := Lib.hid hr
  have HS := Lib.hid hs
  clear hr hs
  by_cases hn : l.length = m.length
  · have HN := Lib.hid hn
    rw [hn]
    have hnn : ((m.length : Int) != (m.length : Int)) = false := by simp
    clear hn
    go_enter Try.func51, Try.ntmps51
    go_wp2
    go_loopw [13] (fun i wr => ∃ k : Nat, k ≤ m.length ∧ i = .int .i64 k ∧ Hid (l.take k = m.take k) ∧ Hid (Below w.heap.size w wr)) (fun i _ => m.length - (intOf i).toNat)
    case atStart => exact ⟨0, by omega, rfl, Lib.hid rfl, Lib.hid (Below.refl _ _)⟩
    case round =>
      obtain ⟨k, hk, rfl, HE, HW⟩ := hrel
      by_cases hlt : k < m.length
      · have hlt2 : k < l.length := by have := HN.out; omega
        obtain ⟨b1, o1, rfl, hb1, c0, c1, c2, c3⟩ := (HR.out.below HW.out).at hlt2
        obtain ⟨b2, o2, rfl, hb2, d0, d1, d2, d3⟩ := (HS.out.below HW.out).at hlt
        have HT1 := Lib.hid (List.take_succ_eq_append_getElem hlt2)
        have HT2 := Lib.hid (List.take_succ_eq_append_getElem hlt)
        have HK1 := Lib.hid (show l[k]? = some l[k] by simp [hlt2])
        have HK2 := Lib.hid (show m[k]? = some m[k] by simp [hlt])
        generalize l[k] = x at c0 c1 c2 c3 HT1 HK1
        generalize m[k] = y at d0 d1 d2 d3 HT2 HK2
        have hq := ord_neq x y
        have HQ := Lib.hid (ordQ_iff x y)
        obtain ⟨x0, x1, x2, x3⟩ := x
        obtain ⟨y0, y1, y2, y3⟩ := y
        generalize ordQ ⟨x0, x1, x2, x3⟩ ⟨y0, y1, y2, y3⟩ = q at hq HQ
        unfold ordV at hq
        simp only at c0 c1 c2 c3 d0 d1 d2 d3 hq
        have hk1 : (k : Int) < (m.length : Int) := by omega
        have hk0 : (0 : Int) ≤ (k : Int) := by omega
        cases q
        · have HX := Lib.hid (show l ≠ m from fun e => by
            subst e
            have := HK1.out.symm.trans HK2.out
            exact absurd (HQ.out.2 (Option.some.inj this)) (by simp))
          simp only [Bool.not_false] at hq
          go_upto_region 6 with (fail)
          go_quiet (fail)
          go_wp2
          go_ret
          exact ⟨-1, rfl, .inr rfl, ⟨fun h => (by cases h), fun h => absurd h HX.out⟩, ⟨HW.out.os, HW.out.tape, HW.out.output, HW.out.size, HW.out.block⟩⟩
        · have HX := Lib.hid (show l.take (k + 1) = m.take (k + 1) by rw [HT1.out, HT2.out, HE.out, HQ.out.1 rfl])
          simp only [Bool.not_true] at hq
          go_upto_region 6 with (fail)
          go_quiet (fail)
          go_wp2
          go_roundw
          case rel => exact ⟨k + 1, by omega, by go_num, HX, Lib.hid ⟨HW.out.os, HW.out.tape, HW.out.output, HW.out.size, HW.out.block⟩⟩
          case measure => simp [intOf]; omega
      · have HX := Lib.hid (show l = m from take_all_eq HN.out (by have := HN.out; omega) HE.out)
        go_wp2
        go_ret
        exact ⟨0, rfl, .inl rfl, ⟨fun _ => HX.out, fun _ => rfl⟩, HW.out⟩
  · have hnn : ((l.length : Int) != (m.length : Int)) = true := by simp; omega
    have HX := Lib.hid (show l ≠ m from fun e => hn (by rw [e]))
    clear hn
    go_enter Try.func51, Try.ntmps51
    go_wp2
    go_ret
    exact ⟨-1, rfl, .inr rfl, ⟨fun h => (by cases h), fun h => absurd h HX.out⟩, Below.refl _ _⟩
/-- What is put behind nothing. -/
theorem newOrd_all {w w1 : World} {t u ty e : TypeId} {z : Value} (H : RecTy e 4 z) (ht : Try.prog.underlying t = some (.slice e)) (hu : Try.prog.underlying u = some (.slice e)) {a1 : Option Addr} {c1 : Nat} {l m : List Ord} (h : NewOrd e w a1 c1 l w1) (a : Option Addr) (c : Nat) (hr : OrdRow w1 a m) (hn : a = none → m = []) (hl : l.length + m.length ≤ 1000000) :
    ∃ a' c' w', (Builtin.append_ #[t, u] ty #[.slice a1 l.length c1, .slice a m.length c]).run Try.prog w1 = .ok (.slice a' (l.length + m.length) c') w' ∧ NewOrd e w a' c' (l ++ m) w' := by
  obtain ⟨a', c', w', h1, h2, h3⟩ := newRec_more (ty := ty) H ht hu h (ordsI_wide m) a c hr (fun e => by rw [hn e]; rfl) (by rw [ordsI_len, ordsI_len]; exact hl)
  rw [ordsI_len, ordsI_len] at h1
  refine ⟨a', c', w', h1, ?_⟩
  unfold NewOrd
  rw [ordsI_append]
  exact h2
def OfPost (w : World) (l : List Ord) (r : Ending) (w' : World) : Prop := ∃ a c, r = .returned (.slice a (l.take 8).length c) ∧ NewOrd 158 w a c (l.take 8) w'
end Go.Proofs.Ytcbadcbnknmdnaa
namespace Go.Proofs.Ytcbadcbnknmdnaa
open Go.RowKit
set_option linter.unusedVariables false

/-- Has an op an argument? -/
def hasA (o : Nat) : Bool := o == 1 || o == 13 || o == 14 || o == 15 || o == 17 || o == 18 || o == 22
theorem hasA_yes {o : Nat} (h : hasA o = true) : o = 1 ∨ o = 13 ∨ o = 14 ∨ o = 15 ∨ o = 17 ∨ o = 18 ∨ o = 22 := by
  simp [hasA] at h; omega
theorem hasA_no {o : Nat} (h : hasA o = false) : o ≠ 1 ∧ o ≠ 13 ∧ o ≠ 14 ∧ o ≠ 15 ∧ o ≠ 17 ∧ o ≠ 18 ∧ o ≠ 22 := by
  simp [hasA] at h; omega
/-- The words, by their ops' numbers. -/
def opWords : List (List UInt8) := [[], [112, 117, 115, 104], [112, 111, 112], [100, 117, 112], [115, 119, 97, 112], [97, 100, 100], [115, 117, 98], [109, 117, 108], [100, 105, 118], [109, 111, 100], [101, 113], [108, 101, 115, 115], [110, 111, 116], [106, 117, 109, 112], [98, 114, 97, 110, 99, 104], [99, 97, 108, 108], [114, 101, 116], [108, 111, 97, 100], [115, 116, 111, 114, 101], [103, 101, 116], [112, 117, 116], [114, 97, 110, 100], [104, 111, 115, 116]]
def opWord (o : Nat) : List UInt8 := if 1 ≤ o ∧ o ≤ 22 then opWords.getD o [] else [63]
/-- What Of makes of an op and a list. -/
def ofArg (o : Nat) (ns : List Int) : Int := if hasA o then ns.headD 0 else 0
end Go.Proofs.Ytcbadcbnknmdnaa
namespace Go.Proofs.Ytcbadcbnknmdnaa
open Go.RowKit
set_option linter.unusedVariables false

/-- An instruction's two cells. -/
def insCells (x : Nat × Int) : List Value := [.int .u8 (x.1 : Int), .int .i64 x.2]
def codeCells (l : List (Nat × Int)) : List Value := (l.map insCells).flatten
theorem codeCells_len (l : List (Nat × Int)) : (codeCells l).length = l.length * 2 := by
  induction l with
  | nil => rfl
  | cons x l ih => simp only [codeCells, List.map_cons, List.flatten_cons, List.length_append, List.length_cons, insCells, List.length_nil] at ih ⊢; omega
theorem codeCells_at (l : List (Nat × Int)) : ∀ i (h : i < l.length), (codeCells l)[i * 2]? = some (.int .u8 (l[i].1 : Int)) ∧ (codeCells l)[i * 2 + 1]? = some (.int .i64 l[i].2) := by
  induction l with
  | nil => intro i h; simp at h
  | cons x l ih =>
    intro i h
    cases i with
    | zero => exact ⟨rfl, rfl⟩
    | succ i =>
      have := ih i (by simpa using h)
      have e : (i + 1) * 2 = i * 2 + 1 + 1 := by omega
      rw [e]
      exact this
theorem codeCells_append (l m : List (Nat × Int)) : codeCells (l ++ m) = codeCells l ++ codeCells m := by simp [codeCells]
theorem codeCells_one (l : List (Nat × Int)) : ∀ u ∈ codeCells l, u.oneCell' = true := by
  intro u hu
  simp only [codeCells, List.mem_flatten, List.mem_map] at hu
  obtain ⟨_, ⟨x, _, rfl⟩, h⟩ := hu
  simp only [insCells, List.mem_cons, List.not_mem_nil, or_false] at h
  rcases h with rfl | rfl <;> rfl
/-- Instructions lie one behind the other from a on. -/
def InsRow (w : World) (a : Option Addr) (l : List (Nat × Int)) : Prop :=
  0 < l.length → ∃ b off, a = some ⟨b, off, none⟩ ∧ ∀ i (h : i < l.length), w.cell? ⟨b, off + i * 2, none⟩ = some (.int .u8 (l[i].1 : Int)) ∧ w.cell? ⟨b, off + i * 2 + 1, none⟩ = some (.int .i64 l[i].2)
theorem InsRow.touch {S : Nat → Prop} {w w' : World} {a : Option Addr} {l : List (Nat × Int)} (h : InsRow w a l) (ht : Touch S w w') (hs : ∀ x, a = some x → ¬ S x.block) : InsRow w' a l := by
  intro h0
  obtain ⟨b, off, e, hc⟩ := h h0
  have hlt := block_lt_of_cell (hc 0 h0).1
  have hsb : ¬ S b := hs _ e
  refine ⟨b, off, e, fun i hi => ?_⟩
  obtain ⟨c1, c2⟩ := hc i hi
  exact ⟨(ht.cell (p := ⟨b, off + i * 2, none⟩) hlt hsb).trans c1, (ht.cell (p := ⟨b, off + i * 2 + 1, none⟩) hlt hsb).trans c2⟩
theorem InsRow.below {w w' : World} {a : Option Addr} {l : List (Nat × Int)} (h : InsRow w a l) (hb : Below w.heap.size w w') : InsRow w' a l :=
  h.touch (touch_of_below (S := fun _ => False) hb) (fun _ _ => id)
theorem InsRow.lt {w : World} {a : Option Addr} {l : List (Nat × Int)} (h : InsRow w a l) (h0 : 0 < l.length) : ∃ b off, a = some ⟨b, off, none⟩ ∧ b < w.heap.size := by
  obtain ⟨b, off, e, hc⟩ := h h0
  exact ⟨b, off, e, block_lt_of_cell (hc 0 h0).1⟩
theorem InsRow.cells {w : World} {b off : Nat} {l : List (Nat × Int)} (h : ∀ i (h : i < l.length), w.cell? ⟨b, off + i * 2, none⟩ = some (.int .u8 (l[i].1 : Int)) ∧ w.cell? ⟨b, off + i * 2 + 1, none⟩ = some (.int .i64 l[i].2)) :
    ∀ j u, (codeCells l)[j]? = some u → w.cell? ((⟨b, off, none⟩ : Addr).add j) = some u := by
  intro j u hu
  have hj : j < (codeCells l).length := (List.getElem?_eq_some_iff.1 hu).1
  rw [codeCells_len] at hj
  have hi : j / 2 < l.length := by omega
  obtain ⟨c1, c2⟩ := codeCells_at l (j / 2) hi
  obtain ⟨d1, d2⟩ := h (j / 2) hi
  rcases Nat.mod_two_eq_zero_or_one j with hm | hm
  · have e : j / 2 * 2 = j := by omega
    rw [e] at c1 d1
    rw [c1] at hu
    cases hu
    by_cases hz : j = 0
    · subst hz; simpa [Addr.add] using d1
    · simpa [Addr.add, hz] using d1
  · have e : j / 2 * 2 + 1 = j := by omega
    rw [e] at c2
    rw [Nat.add_assoc, e] at d2
    rw [c2] at hu
    cases hu
    have hz : j ≠ 0 := by omega
    simpa [Addr.add, hz] using d2
theorem InsRow.lit (w : World) (l : List (Nat × Int)) (cells : Array Value) (t : TypeId) (hc : cells = (codeCells l).toArray) : InsRow (w.alloc (.cells cells t)) (some ⟨w.heap.size, 0, none⟩) l := by
  subst hc
  intro h0
  refine ⟨w.heap.size, 0, rfl, fun i hi => ?_⟩
  obtain ⟨c1, c2⟩ := codeCells_at l i hi
  simp only [Nat.zero_add, World.cell?_alloc_new]
  simp [c1, c2]
/-- A function: arguments, locals, instructions. -/
structure Fn where
  args : Int
  locals : Int
  code : List (Nat × Int)
/-- Functions lie one behind the other from a on. -/
def FnRow (w : World) (a : Option Addr) (m : List Fn) : Prop :=
  0 < m.length → ∃ b off, a = some ⟨b, off, none⟩ ∧ ∀ i (h : i < m.length), w.cell? ⟨b, off + i * 3, none⟩ = some (.int .i64 m[i].args) ∧ w.cell? ⟨b, off + i * 3 + 1, none⟩ = some (.int .i64 m[i].locals) ∧
    ∃ x c, w.cell? ⟨b, off + i * 3 + 2, none⟩ = some (.slice x m[i].code.length c) ∧ InsRow w x m[i].code
theorem FnRow.below {w w' : World} {a : Option Addr} {m : List Fn} (h : FnRow w a m) (hb : Below w.heap.size w w') : FnRow w' a m := by
  intro h0
  obtain ⟨b, off, e, hc⟩ := h h0
  have hlt := block_lt_of_cell (hc 0 h0).1
  refine ⟨b, off, e, fun i hi => ?_⟩
  obtain ⟨c1, c2, x, c, c3, hr⟩ := hc i hi
  exact ⟨(hb.cell (p := ⟨b, off + i * 3, none⟩) hlt).trans c1, (hb.cell (p := ⟨b, off + i * 3 + 1, none⟩) hlt).trans c2, x, c, (hb.cell (p := ⟨b, off + i * 3 + 2, none⟩) hlt).trans c3, hr.below hb⟩
end Go.Proofs.Ytcbadcbnknmdnaa
namespace Go.Proofs.Ytcbadcbnknmdnaa
open Go.RowKit
set_option linter.unusedVariables false

theorem own_slice {w : World} {base : Nat} {e : TypeId} {size : Nat} {v : Value} {n : Nat} {xs : List Value} (h : w.ownsRow base e size v n xs) : ∃ a c, v = .slice a n c := by
  rcases h.2 with ⟨hv, h0⟩ | ⟨g, cap, cur, hv, -⟩
  · exact ⟨none, 0, by rw [hv, h0]⟩
  · exact ⟨_, cap, hv⟩
theorem own_touch {S : Nat → Prop} {w w' : World} {base : Nat} {e : TypeId} {size : Nat} {v : Value} {n : Nat} {xs : List Value} (h : w.ownsRow base e size v n xs) (ht : Touch S w w') (hs : ∀ k, v.ownBlock = some k → ¬ S k) : w'.ownsRow base e size v n xs := by
  refine ⟨h.1, ?_⟩
  rcases h.2 with h' | ⟨g, cap, cur, hv', hg, hh, hr⟩
  · exact .inl h'
  · have hlt : g < w.heap.size := (Array.getElem?_eq_some_iff.1 hh).1
    exact .inr ⟨g, cap, cur, hv', hg, (ht.block g hlt (hs g (by rw [hv']; rfl))).trans hh, hr⟩
end Go.Proofs.Ytcbadcbnknmdnaa
namespace Go.Proofs.Ytcbadcbnknmdnaa
open Go.RowKit
set_option linter.unusedVariables false

/-- At block b bytes grow; the blocks of K are none of theirs. -/
def OutK (K : Nat → Prop) (b : Nat) (l : List UInt8) (w : World) : Prop := ∃ v, OutAt w b v l ∧ ¬ K b ∧ ∀ k, v.ownBlock = some k → ¬ K k
theorem OutK.lt {K : Nat → Prop} {w : World} {b : Nat} {l : List UInt8} (h : OutK K b l w) : b < w.heap.size := by obtain ⟨v, h1, -⟩ := h; exact h1.lt
theorem OutK.below {K : Nat → Prop} {w w' : World} {b : Nat} {l : List UInt8} (h : OutK K b l w) (hb : Below w.heap.size w w') : OutK K b l w' := by
  obtain ⟨v, h1, h2, h3⟩ := h
  exact ⟨v, h1.below hb, h2, h3⟩
theorem OutK.alloc {K : Nat → Prop} {w : World} {b : Nat} {l : List UInt8} (h : OutK K b l w) (o : Obj) : OutK K b l (w.alloc o) := h.below ((Below.refl _ _).alloc (Nat.le_refl _) _)
theorem OutK.sub {K K' : Nat → Prop} {w : World} {b : Nat} {l : List UInt8} (h : OutK K' b l w) (hs : ∀ k, K k → K' k) : OutK K b l w := by
  obtain ⟨v, h1, h2, h3⟩ := h
  exact ⟨v, h1, fun h => h2 (hs _ h), fun k hk h => h3 k hk (hs _ h)⟩
/-- A block that is new is none of theirs. -/
theorem OutK.add {K : Nat → Prop} {w : World} {b : Nat} {l : List UInt8} (h : OutK K b l w) (o : Obj) : OutK (fun k => K k ∨ k = w.heap.size) b l (w.alloc o) := by
  have hl := h.lt
  obtain ⟨v, h1, h2, h3⟩ := h
  refine ⟨v, h1.alloc o, ?_, fun k hk => ?_⟩
  · rintro (h | h)
    · exact h2 h
    · omega
  · have := h1.fresh k hk
    rintro (h | h)
    · exact h3 k hk h
    · omega
theorem OutK.start {K : Nat → Prop} (w : World) (t : TypeId) (hK : ∀ k, K k → k < w.heap.size) : OutK K w.heap.size [] (w.alloc (.cells #[.slice none 0 0] t)) :=
  ⟨.slice none 0 0, ⟨by simp, frozen_new _ _ _ _, World.ownsRow_nil _ _ _ _, by simp [Value.ownBlock]⟩, fun h => by have := hK _ h; omega, fun k hk => by simp [Value.ownBlock] at hk⟩
def OutKTo (K : Nat → Prop) (b : Nat) (l : List UInt8) (w w' : World) : Prop := OutK K b l w' ∧ Touch (fun k => ¬ K k) w w'
theorem OutK.step {K : Nat → Prop} {w wa w' : World} {b : Nat} {l' : List UInt8} {v : Value} (h2 : ¬ K b) (h3 : ∀ k, v.ownBlock = some k → ¬ K k) (hK : ∀ k, K k → k < w.heap.size) (ha : Below w.heap.size w wa) (ho : OutTo wa b v l' w') : OutKTo K b l' w w' := by
  obtain ⟨v', g1, g2, g3⟩ := ho
  have hz := ha.size
  refine ⟨⟨v', g1, h2, fun k hk => ?_⟩, (touch_of_below ha).trans (g3.mono fun k hk h => ?_)⟩
  · rcases g2 k hk with h | h
    · exact h3 k h
    · exact fun hh => by have := hK k hh; omega
  · rcases h with rfl | h
    · exact h2
    · exact h3 k h
theorem outNum_k (K : Nat → Prop) (b : Nat) (l : List UInt8) (n : Nat) (x : Int) (hx : x = (n : Int)) (w : World) (h : OutK K b l w) (hK : ∀ k, K k → k < w.heap.size) (hl : l.length + 10 ≤ 1000000000) (hn : n < 18446744073709551616) :
    Calls Try.prog 79 #[.pointer (some ⟨b, 0, none⟩), .slice (some ⟨w.heap.size, 0, none⟩) 1 1] (w.alloc (.cells #[.int .u64 x] 77)) fun r w' => r = .returned (.pointer (some ⟨b, 0, none⟩)) ∧ OutKTo K b (l ++ numB n) w w' := by
  subst hx
  obtain ⟨v, h1, h2, h3⟩ := h
  have := outNum_any b v l (some ⟨w.heap.size, 0, none⟩) 1 [n] _ (h1.alloc (.cells #[.int .u64 n] 77)) (by simpa using hl) (by simpa using hn) (fresh_ints .u64 w _ _ _ (by simp)) (fresh_row h1)
  refine this.mono ?_
  rintro r w' ⟨rfl, ho⟩
  rw [show numsB [n] = numB n by simp [numsB]] at ho
  exact ⟨rfl, OutK.step h2 h3 hK ((Below.refl _ _).alloc (Nat.le_refl _) _) ho⟩
theorem outInt_k (K : Nat → Prop) (b : Nat) (l : List UInt8) (x : Int) (w : World) (h : OutK K b l w) (hK : ∀ k, K k → k < w.heap.size) (hl : l.length + 10 ≤ 1000000000) (hn : -9223372036854775808 ≤ x ∧ x ≤ 9223372036854775807) :
    Calls Try.prog 80 #[.pointer (some ⟨b, 0, none⟩), .slice (some ⟨w.heap.size, 0, none⟩) 1 1] (w.alloc (.cells #[.int .i64 x] 2)) fun r w' => r = .returned (.pointer (some ⟨b, 0, none⟩)) ∧ OutKTo K b (l ++ numB (zig x)) w w' := by
  obtain ⟨v, h1, h2, h3⟩ := h
  have := outInt_any b v l (some ⟨w.heap.size, 0, none⟩) 1 [x] _ (h1.alloc (.cells #[.int .i64 x] 2)) (by simpa using hl) (by simpa using hn) (fresh_ints .i64 w _ _ _ (by simp)) (fresh_row h1)
  refine this.mono ?_
  rintro r w' ⟨rfl, ho⟩
  rw [show intsB [x] = numB (zig x) by simp [intsB, numsB]] at ho
  exact ⟨rfl, OutK.step h2 h3 hK ((Below.refl _ _).alloc (Nat.le_refl _) _) ho⟩
theorem outCount_k (K : Nat → Prop) (b : Nat) (l : List UInt8) (ns : List Int) (cells : Array Value) (hc : cells = (ns.map (Value.int .i64)).toArray) (n : Nat) (hn : n = ns.length) (w : World) (h : OutK K b l w) (hK : ∀ k, K k → k < w.heap.size) (hl : l.length + 10 * ns.length ≤ 1000000000) (hns : ∀ x ∈ ns, x ≤ 9223372036854775807) :
    Calls Try.prog 55 #[.pointer (some ⟨b, 0, none⟩), .slice (some ⟨w.heap.size, 0, none⟩) n n] (w.alloc (.cells cells 3)) fun r w' => r = .returned (.pointer (some ⟨b, 0, none⟩)) ∧ OutKTo K b (l ++ countsB ns) w w' := by
  subst hc hn
  obtain ⟨v, h1, h2, h3⟩ := h
  have := outCount_any b v l (some ⟨w.heap.size, 0, none⟩) ns.length ns _ (h1.alloc (.cells (ns.map (Value.int .i64)).toArray 3)) hl hns (fresh_ints .i64 w _ _ _ rfl) (fresh_row h1)
  refine this.mono ?_
  rintro r w' ⟨rfl, ho⟩
  exact ⟨rfl, OutK.step h2 h3 hK ((Below.refl _ _).alloc (Nat.le_refl _) _) ho⟩
theorem outText_k (K : Nat → Prop) (b : Nat) (l : List UInt8) (w : World) (h : OutK K b l w) :
    Calls Try.prog 27 #[.pointer (some ⟨b, 0, none⟩)] w fun r w' => r = .returned (.string (bs l)) ∧ w = w' := by
  obtain ⟨v, h1, -⟩ := h
  exact outText_any b v l w h1

/-- The bytes of an instruction, of instructions, of a function, of an image. -/
def insB (x : Nat × Int) : List UInt8 := numB x.1 ++ if hasA x.1 then numB (zig x.2) else []
def codeB (l : List (Nat × Int)) : List UInt8 := (l.map insB).flatten
def fnB (f : Fn) : List UInt8 := countsB [f.args, f.locals, f.code.length] ++ codeB f.code
def fnsB (m : List Fn) : List UInt8 := (m.map fnB).flatten
def textB (m : List Fn) : List UInt8 := countsB [(m.length : Int)] ++ fnsB m
/-- What an image is asked for: numbers that fit. -/
def InsOk (x : Nat × Int) : Prop := x.1 < 256 ∧ -9223372036854775808 ≤ x.2 ∧ x.2 ≤ 9223372036854775807
def FnOk (f : Fn) : Prop := -9223372036854775808 ≤ f.args ∧ f.args ≤ 9223372036854775807 ∧ -9223372036854775808 ≤ f.locals ∧ f.locals ≤ 9223372036854775807 ∧ f.code.length ≤ 1000 ∧ ∀ x ∈ f.code, InsOk x
def ImgOk (m : List Fn) : Prop := m.length ≤ 1000 ∧ ∀ f ∈ m, FnOk f
theorem insB_len {x : Nat × Int} (h : InsOk x) : (insB x).length ≤ 20 := by
  have h1 := numB_ten (n := x.1) (by have := h.1; omega)
  unfold insB
  rw [List.length_append]
  split
  · have h2 := numB_ten (zig_lt h.2.1 h.2.2); omega
  · simp; omega
theorem codeB_len {l : List (Nat × Int)} (h : ∀ x ∈ l, InsOk x) : (codeB l).length ≤ 20 * l.length := by
  induction l with
  | nil => simp [codeB]
  | cons x l ih =>
    have h1 := insB_len (h x (by simp))
    have h2 := ih (fun y hy => h y (by simp [hy]))
    simp only [codeB, List.map_cons, List.flatten_cons, List.length_append, List.length_cons] at h2 ⊢
    omega
theorem countsB_len {ns : List Int} (h : ∀ x ∈ ns, x ≤ 9223372036854775807) : (countsB ns).length ≤ 10 * ns.length := by
  have := numsB_len (ns.map Int.toNat) (fun n hn => by
    obtain ⟨x, hx, rfl⟩ := List.mem_map.1 hn
    have := h x hx
    omega)
  simpa [countsB] using this
theorem fnB_len {f : Fn} (h : FnOk f) : (fnB f).length ≤ 20030 := by
  obtain ⟨_, h1, _, h2, h3, h4⟩ := h
  have := codeB_len h4
  have := countsB_len (ns := [f.args, f.locals, (f.code.length : Int)]) (by intro x hx; simp at hx; omega)
  unfold fnB
  rw [List.length_append]
  simp at this
  omega
theorem fnsB_len {m : List Fn} (h : ∀ f ∈ m, FnOk f) : (fnsB m).length ≤ 20030 * m.length := by
  induction m with
  | nil => simp [fnsB]
  | cons x l ih =>
    have h1 := fnB_len (h x (by simp))
    have h2 := ih (fun y hy => h y (by simp [hy]))
    simp only [fnsB, List.map_cons, List.flatten_cons, List.length_append, List.length_cons] at h2 ⊢
    omega
theorem codeB_snoc (l : List (Nat × Int)) (k : Nat) (h : k < l.length) : codeB (l.take (k + 1)) = codeB (l.take k) ++ insB l[k] := by
  unfold codeB; rw [List.take_succ_eq_append_getElem h, List.map_append, List.flatten_append]; simp
theorem fnsB_snoc (m : List Fn) (k : Nat) (h : k < m.length) : fnsB (m.take (k + 1)) = fnsB (m.take k) ++ fnB m[k] := by
  unfold fnsB; rw [List.take_succ_eq_append_getElem h, List.map_append, List.flatten_append]; simp
/-- The instructions of an image, all of them. -/
def sizeN (m : List Fn) : Nat := (m.map fun f => f.code.length).sum
theorem sizeN_snoc (m : List Fn) (k : Nat) (h : k < m.length) : sizeN (m.take (k + 1)) = sizeN (m.take k) + m[k].code.length := by
  unfold sizeN; rw [List.take_succ_eq_append_getElem h, List.map_append, List.sum_append]; simp
theorem sizeN_le {m : List Fn} (h : ∀ f ∈ m, FnOk f) : sizeN m ≤ 1000 * m.length := by
  induction m with
  | nil => simp [sizeN]
  | cons x l ih =>
    have h1 := (h x (by simp)).2.2.2.2.1
    have h2 := ih (fun y hy => h y (by simp [hy]))
    simp only [sizeN, List.map_cons, List.sum_cons, List.length_cons] at h2 ⊢
    omega
end Go.Proofs.Ytcbadcbnknmdnaa
namespace Go.Proofs.Ytcbadcbnknmdnaa
open Go.RowKit
set_option linter.unusedVariables false

theorem number_any (s : ByteArray) (w : World) (hs : s.size ≤ maxLen) :
    Calls Try.prog 108 #[.string s] w fun e w' => e = .returned (.tuple #[.int .u64 ((numT s.data.toList).1 : Nat), .int .i64 ((numT s.data.toList).2.1 : Nat), .int .i64 ((numT s.data.toList).2.2 : Nat)]) ∧ w = w' := by
  unfold maxLen at hs
  go_enter Try.func108, Try.ntmps108
  go_wp2
  go_loop [5, 10] (fun n i => ∃ k acc : Nat, k ≤ s.size ∧ k ≤ 9 ∧ i = .int .i64 k ∧ n = .int .u64 acc ∧ Hid (acc < 128 ^ k) ∧ Hid (numT s.data.toList = takeF k acc (s.data.toList.drop k))) (fun _ i => 10 - (intOf i).toNat)
  case atStart => exact ⟨0, 0, by omega, by omega, rfl, rfl, Lib.hid (by decide), Lib.hid rfl⟩
  case round =>
    obtain ⟨k, acc, hk, hk9, rfl, rfl, H1, H2⟩ := hrel
    by_cases hlt : k < s.size
    · have hb := byte_lt s[k]
      have HD := Lib.hid (drop_at s k hlt)
      by_cases hA : 0 < k ∧ s[k].toNat = 0
      · have HU := Lib.hid (show numT s.data.toList = (0, 0, 2) by rw [H2.out, HD.out, takeF_bad (.inl hA)])
        obtain ⟨hA1, hA2⟩ := hA
        have hc0 : ((s[k].toNat : Int) == 0) = true := by simp; omega
        have HA2 := Lib.hid hA2
        clear hA2
        go_wp2
        go_ret3
        exact ⟨by rw [HU.out]; rfl, rfl⟩
      by_cases hB : k = 9 ∧ 1 < s[k].toNat
      · have HU := Lib.hid (show numT s.data.toList = (0, 0, 2) by rw [H2.out, HD.out, takeF_bad (.inr hB)])
        obtain ⟨hB1, hB2⟩ := hB
        have hc0 : ((s[k].toNat : Int) == 0) = false := by simp; omega
        have hkk : ((k : Int) == 9) = true := by simp; omega
        have hk1 : 0 < k := by omega
        clear hB1 hA
        go_wp2
        go_ret3
        exact ⟨by rw [HU.out]; rfl, rfl⟩
      have hN : ¬ ((0 < k ∧ s[k].toNat = 0) ∨ (k = 9 ∧ 1 < s[k].toNat)) := by omega
      have HW := Lib.hid (or_walk acc k s[k].toNat hb H1.out hk9 (by omega))
      have HL := Lib.hid (@acc_lt acc k s[k].toNat H1.out)
      have HT1 := Lib.hid (fun (hb : s[k].toNat < 128) => (H2.out.trans (by rw [HD.out, takeF_last hN hb]) : numT s.data.toList = (acc + s[k].toNat % 128 * 128 ^ k, k + 1, 0)))
      have HT2 := Lib.hid (fun (hb : ¬ s[k].toNat < 128) => (H2.out.trans (by rw [HD.out, takeF_more hN hb]) : numT s.data.toList = takeF (k + 1) (acc + s[k].toNat % 128 * 128 ^ k) (s.data.toList.drop (k + 1))))
      generalize acc + s[k].toNat % 128 * 128 ^ k = acc' at HW HL HT1 HT2
      clear H2 HD
      by_cases hk0 : k = 0
      · have hG : decide (0 < k) = false := by simp; omega
        have HK0 := Lib.hid hk0
        have hkk : ((k : Int) == 9) = false := by simp; omega
        clear hA hB hN hk0
        by_cases hD : s[k].toNat < 128
        · have hDb : decide ((s[k].toNat : Int) < 128) = true := by simp; omega
          have HD := Lib.hid hD
          clear hD
          go_upto_region 9 with (fail)
          rw [HW.out]
          generalize IntKind.u64.wrap (IntKind.u64.wrap (bits .andNot .u8 (s[k].toNat : Int) 128) * 2 ^ (7 * k)) = junk
          go_wp2
          go_ret3
          exact ⟨by rw [HT1.out HD.out]; rfl, rfl⟩
        · have hDb : decide ((s[k].toNat : Int) < 128) = false := by simp; omega
          have HD := Lib.hid hD
          clear hD
          go_upto_region 9 with (fail)
          rw [HW.out]
          generalize IntKind.u64.wrap (IntKind.u64.wrap (bits .andNot .u8 (s[k].toNat : Int) 128) * 2 ^ (7 * k)) = junk
          go_wp2
          go_round
          case rel => exact ⟨k + 1, acc', by omega, by have := HK0.out; omega, by go_num, rfl, HL, Lib.hid (HT2.out HD.out)⟩
          case measure => simp [intOf]; omega
      by_cases hk9' : k = 9
      · have hk1 : 0 < k := by omega
        have hc0 : ((s[k].toNat : Int) == 0) = false := by simp; omega
        have hkk : ((k : Int) == 9) = true := by simp; omega
        have hc1 : decide (1 < (s[k].toNat : Int)) = false := by simp; omega
        have HD := Lib.hid (show s[k].toNat < 128 by omega)
        have hDb : decide ((s[k].toNat : Int) < 128) = true := by simp; omega
        clear hA hB hN hk0 hk9'
        go_upto_region 9 with (fail)
        rw [HW.out]
        generalize IntKind.u64.wrap (IntKind.u64.wrap (bits .andNot .u8 (s[k].toNat : Int) 128) * 2 ^ (7 * k)) = junk
        go_wp2
        go_ret3
        exact ⟨by rw [HT1.out HD.out]; rfl, rfl⟩
      have hk1 : 0 < k := by omega
      have hk2 : k < 9 := by omega
      have hc0 : ((s[k].toNat : Int) == 0) = false := by simp; omega
      have hkk : ((k : Int) == 9) = false := by simp; omega
      clear hA hB hk0 hk9' hN
      by_cases hD : s[k].toNat < 128
      · have hDb : decide ((s[k].toNat : Int) < 128) = true := by simp; omega
        have HD := Lib.hid hD
        clear hD
        go_upto_region 9 with (fail)
        rw [HW.out]
        generalize IntKind.u64.wrap (IntKind.u64.wrap (bits .andNot .u8 (s[k].toNat : Int) 128) * 2 ^ (7 * k)) = junk
        go_wp2
        go_ret3
        exact ⟨by rw [HT1.out HD.out]; rfl, rfl⟩
      · have hDb : decide ((s[k].toNat : Int) < 128) = false := by simp; omega
        have HD := Lib.hid hD
        clear hD
        go_upto_region 9 with (fail)
        rw [HW.out]
        generalize IntKind.u64.wrap (IntKind.u64.wrap (bits .andNot .u8 (s[k].toNat : Int) 128) * 2 ^ (7 * k)) = junk
        go_wp2
        go_round
        case rel => exact ⟨k + 1, acc', by omega, by omega, by go_num, rfl, HL, Lib.hid (HT2.out HD.out)⟩
        case measure => simp [intOf]; omega
    · have HU := Lib.hid (show numT s.data.toList = (0, 0, 1) by rw [H2.out, List.drop_of_length_le (by simp; omega), takeF_end])
      go_wp2
      go_ret3
      exact ⟨by rw [HU.out]; rfl, rfl⟩
end Go.Proofs.Ytcbadcbnknmdnaa
namespace Go.Proofs.Ytcbadcbnknmdnaa
open Go.RowKit
set_option linter.unusedVariables false

/-- A reader lies at block b: these bytes are left, this is the error; behind an error nothing is left. -/
def InSt (w : World) (b : Nat) (st : List UInt8 × Nat) : Prop :=
  w.cell? ⟨b, 0, none⟩ = some (.string (bs st.1)) ∧ w.cell? ⟨b, 1, none⟩ = some (.int .i64 (st.2 : Nat)) ∧ w.frozen? ⟨b, 0, none⟩ = false ∧ w.frozen? ⟨b, 1, none⟩ = false ∧
    st.1.length ≤ 1000000000 ∧ (st.2 ≠ 0 → st.1 = []) ∧ st.2 ≤ 1000
theorem InSt.lt {w : World} {b : Nat} {st : List UInt8 × Nat} (h : InSt w b st) : b < w.heap.size := block_lt_of_cell h.1
theorem InSt.touch {S : Nat → Prop} {w w' : World} {b : Nat} {st : List UInt8 × Nat} (h : InSt w b st) (ht : Touch S w w') (hs : ¬ S b) : InSt w' b st :=
  ⟨(ht.cell (p := ⟨b, 0, none⟩) h.lt hs).trans h.1, (ht.cell (p := ⟨b, 1, none⟩) h.lt hs).trans h.2.1, (ht.frozen (p := ⟨b, 0, none⟩) h.lt hs).trans h.2.2.1, (ht.frozen (p := ⟨b, 1, none⟩) h.lt hs).trans h.2.2.2.1, h.2.2.2.2⟩
theorem InSt.below {w w' : World} {b : Nat} {st : List UInt8 × Nat} (h : InSt w b st) (ht : Below w.heap.size w w') : InSt w' b st :=
  h.touch (touch_of_below (S := fun _ => False) ht) id
/-- What a call of a reader leaves. -/
def InTo (w : World) (b : Nat) (st : List UInt8 × Nat) (w' : World) : Prop := InSt w' b st ∧ Touch (fun k => k = b) w w'
theorem inSt_left {w : World} {b : Nat} {l : List UInt8} {e : Nat} (h : InSt w b (l, e)) (l' : List UInt8) (hl : l'.length ≤ 1000000000) (he : e ≠ 0 → l' = []) : InSt (w.setCell ⟨b, 0, none⟩ (.string (bs l'))) b (l', e) := by
  obtain ⟨h0, h1, h2, h3, h4, h5, h6⟩ := h
  exact ⟨World.cell?_setCell_same _ _ _ h0, (World.cell?_setCell_other _ _ _ _ (by simp)).trans h1, by simpa using h2, by simpa using h3, hl, he, h6⟩
theorem inSt_fail {w : World} {b : Nat} {l : List UInt8} {e : Nat} (h : InSt w b (l, e)) (x : Nat) (hx : x ≤ 1000) : InSt ((w.setCell ⟨b, 1, none⟩ (.int .i64 (x : Nat))).setCell ⟨b, 0, none⟩ (.string (bs []))) b ([], x) := by
  obtain ⟨h0, h1, h2, h3, h4, h5, h6⟩ := h
  refine ⟨World.cell?_setCell_same _ _ _ ((World.cell?_setCell_other _ _ _ _ (by simp)).trans h0), (World.cell?_setCell_other _ _ _ _ (by simp)).trans (World.cell?_setCell_same _ _ _ h1), by simpa using h2, by simpa using h3, by simp, fun _ => rfl, hx⟩

def failS (st : List UInt8 × Nat) (x : Nat) : List UInt8 × Nat := if st.2 = 0 ∧ x ≠ 0 then ([], x) else st
theorem failS_ok (st : List UInt8 × Nat) (x : Nat) (h : st.2 ≠ 0 → st.1 = []) : (failS st x).2 ≠ 0 → (failS st x).1 = [] := by
  unfold failS; split
  · intro _; rfl
  · exact h
theorem fail_any (b : Nat) (l : List UInt8) (e x : Nat) (w : World) (hx : x ≤ 1000) (h : InSt w b (l, e)) :
    Calls Try.prog 62 #[.pointer (some ⟨b, 0, none⟩), .int .i64 x] w fun r w' => r = .returned (.tuple #[]) ∧ InTo w b (failS (l, e) x) w' := by
  have HI := Lib.hid h
  obtain ⟨h0, h1, h2, h3, -⟩ := h
  by_cases he : e = 0
  · subst he
    by_cases hx0 : x = 0
    · subst hx0
      go_enter Try.func62, Try.ntmps62
      go_wp2
      go_end0
      exact ⟨rfl, HI.out, Touch.refl _ _⟩
    · have hxb : ((x : Int) != 0) = true := by simp; omega
      have HX := Lib.hid hx0
      clear hx0
      go_enter Try.func62, Try.ntmps62
      go_wp2
      go_end0
      exact ⟨rfl, by rw [failS, if_pos ⟨rfl, HX.out⟩]; exact inSt_fail HI.out x hx, ((Touch.refl (fun k => k = b) w).setCell (p := ⟨b, 1, none⟩) (fun _ => rfl) _).setCell (p := ⟨b, 0, none⟩) (fun _ => rfl) _⟩
  · have heb : ((e : Int) == 0) = false := by simp; omega
    have HE := Lib.hid he
    clear he
    go_enter Try.func62, Try.ntmps62
    go_wp2
    go_end0
    exact ⟨rfl, by rw [failS, if_neg (fun h => HE.out h.1)]; exact HI.out, Touch.refl _ _⟩
theorem err_any (b : Nat) (l : List UInt8) (e : Nat) (w : World) (h : InSt w b (l, e)) :
    Calls Try.prog 61 #[.pointer (some ⟨b, 0, none⟩)] w fun r w' => r = .returned (.int .i64 (e : Nat)) ∧ w = w' := by
  obtain ⟨h0, h1, h2, h3, -⟩ := h
  go_enter Try.func61, Try.ntmps61
  go_wp2
  go_ret
  exact ⟨rfl, rfl⟩
theorem open_any (s : ByteArray) (w : World) (hs : s.size ≤ 1000000000) :
    Calls Try.prog 26 #[.string s] w fun r w' => r = .returned (.pointer (some ⟨w.heap.size, 0, none⟩)) ∧ InSt w' w.heap.size (s.data.toList, 0) ∧ Below w.heap.size w w' := by
  go_enter Try.func26, Try.ntmps26
  go_wp2
  go_ret
  refine ⟨rfl, ⟨?_, ?_, ?_, ?_, by simpa using hs, by simp, by simp⟩, (Below.refl _ _).alloc (Nat.le_refl _) _⟩
  · rw [bs_eta]; simp
  · simp
  · simp [World.frozen?, World.alloc, -World.alloc_eq]
  · simp [World.frozen?, World.alloc, -World.alloc_eq]
def endS (st : List UInt8 × Nat) : List UInt8 × Nat := if 0 < st.1.length then failS st 2 else st
theorem end_any (b : Nat) (l : List UInt8) (e : Nat) (w : World) (h : InSt w b (l, e)) :
    Calls Try.prog 29 #[.pointer (some ⟨b, 0, none⟩)] w fun r w' => r = .returned (.int .i64 ((endS (l, e)).2 : Nat)) ∧ InTo w b (endS (l, e)) w' := by
  have HI := Lib.hid h
  obtain ⟨h0, h1, h2, h3, -⟩ := h
  have hz := bs_size l
  by_cases hl : 0 < l.length
  · have HL := Lib.hid hl
    go_enter Try.func29, Try.ntmps29
    go_wp2_with fail
    refine (fail_any b l e 2 _ (by decide) HI.out).mono ?_
    rintro r w1 ⟨rfl, hi, ht⟩
    have HI1 := Lib.hid hi
    have hc := hi.2.1
    have HT := Lib.hid ht
    clear hi ht
    go_wp2
    go_ret
    exact ⟨by rw [endS, if_pos HL.out]; rfl, by rw [endS, if_pos HL.out]; exact ⟨HI1.out, HT.out⟩⟩
  · have HL := Lib.hid hl
    go_enter Try.func29, Try.ntmps29
    go_wp2
    go_ret
    exact ⟨by rw [endS, if_neg HL.out]; rfl, by rw [endS, if_neg HL.out]; exact ⟨HI.out, Touch.refl _ _⟩⟩
def rawS (st : List UInt8 × Nat) (n : Int) : (List UInt8 × Nat) × List UInt8 :=
  if st.1.length < n.toNat then (failS st 1, []) else ((st.1.drop n.toNat, st.2), st.1.take n.toNat)
theorem raw_any (b : Nat) (l : List UInt8) (e : Nat) (n : Int) (w : World) (hn : n ≤ 9223372036854775807) (hn' : -9223372036854775808 ≤ n) (h : InSt w b (l, e)) :
    Calls Try.prog 119 #[.pointer (some ⟨b, 0, none⟩), .int .i64 n] w fun r w' => r = .returned (.string (bs (rawS (l, e) n).2)) ∧ InTo w b (rawS (l, e) n).1 w' := by
  have HI := Lib.hid h
  obtain ⟨h0, h1, h2, h3, h4, h5, -⟩ := h
  have hz := bs_size l
  by_cases hl : l.length < n.toNat
  · have HR := Lib.hid (show rawS (l, e) n = (failS (l, e) 1, []) from if_pos hl)
    have hl' : (l.length : Int) < n := by omega
    have hm : max n 0 = n := by omega
    clear hl
    go_enter Try.func119, Try.ntmps119
    go_wp2_with fail
    refine (fail_any b l e 1 _ (by decide) HI.out).mono ?_
    rintro r w1 ⟨rfl, hi⟩
    have HI1 := Lib.hid hi
    clear hi
    go_wp2
    go_ret
    exact ⟨by rw [HR.out]; rfl, by rw [HR.out]; exact HI1.out⟩
  · have HR := Lib.hid (show rawS (l, e) n = ((l.drop n.toNat, e), l.take n.toNat) from if_neg hl)
    by_cases hneg : n < 0
    · have hm2 : n.toNat = 0 := by omega
      rw [hm2] at HR
      have HY := Lib.hid (extract_drop (bs l) 0)
      rw [bs_list, hz] at HY
      clear hl hm2
      go_enter Try.func119, Try.ntmps119
      go_wp2
      go_ret
      refine ⟨?_, ?_⟩
      · rw [HR.out]; rfl
      · rw [HR.out]
        refine ⟨?_, (Touch.refl (fun k => k = b) w).setCell (p := ⟨b, 0, none⟩) (fun _ => rfl) _⟩
        rw [HY.out]
        exact inSt_left HI.out _ (by simp; omega) (fun he => by rw [h5 he]; simp)
    · obtain ⟨m, rfl⟩ := Int.eq_ofNat_of_zero_le (show 0 ≤ n by omega)
      rw [Int.toNat_natCast] at hl HR
      have hml : m ≤ l.length := by omega
      have HX := Lib.hid (extract_take (bs l) m)
      have HY := Lib.hid (extract_drop (bs l) m)
      rw [bs_list] at HX HY
      rw [hz] at HY
      clear hl
      go_enter Try.func119, Try.ntmps119
      go_wp2
      go_ret
      refine ⟨?_, ?_⟩
      · rw [HR.out, ← HX.out]; rfl
      · rw [HR.out]
        refine ⟨?_, (Touch.refl (fun k => k = b) w).setCell (p := ⟨b, 0, none⟩) (fun _ => rfl) _⟩
        rw [HY.out]
        exact inSt_left HI.out _ (by simp; omega) (fun he => by rw [h5 he]; simp)
theorem number_bs (l : List UInt8) (w : World) (hs : l.length ≤ 1000000000) :
    Calls Try.prog 108 #[.string (bs l)] w fun e w' => e = .returned (.tuple #[.int .u64 ((numT l).1 : Nat), .int .i64 ((numT l).2.1 : Nat), .int .i64 ((numT l).2.2 : Nat)]) ∧ w = w' := by
  have h := number_any (bs l) w (by rw [bs_size]; unfold maxLen; omega)
  rwa [bs_list] at h
def numS (st : List UInt8 × Nat) : (List UInt8 × Nat) × Nat :=
  if (numT st.1).2.2 ≠ 0 then (failS st (numT st.1).2.2, 0) else ((st.1.drop (numT st.1).2.1, st.2), (numT st.1).1)
theorem inNum_any (b : Nat) (l : List UInt8) (e : Nat) (w : World) (h : InSt w b (l, e)) :
    Calls Try.prog 81 #[.pointer (some ⟨b, 0, none⟩)] w fun r w' => r = .returned (.int .u64 ((numS (l, e)).2 : Nat)) ∧ InTo w b (numS (l, e)).1 w' := by
  have HI := Lib.hid h
  obtain ⟨h0, h1, h2, h3, h4, h5, -⟩ := h
  have hz := bs_size l
  have hN := number_bs l w h4
  have hS : numS (l, e) = if (numT l).2.2 ≠ 0 then (failS (l, e) (numT l).2.2, 0) else ((l.drop (numT l).2.1, e), (numT l).1) := rfl
  have herr := numT_err l
  have hsz := numT_size l
  generalize numT l = t at hN hS herr hsz
  obtain ⟨n, sz, er⟩ := t
  have HS := Lib.hid hS
  simp only at hN herr hsz
  have HN := Lib.hid hN
  clear hN hS
  by_cases he : er = 0
  · subst he
    have hsz' := hsz rfl
    have HR := Lib.hid (show numS (l, e) = ((l.drop sz, e), n) by rw [HS.out]; simp)
    have HY := Lib.hid (extract_drop (bs l) sz)
    rw [bs_list, hz] at HY
    clear hsz herr
    go_enter Try.func81, Try.ntmps81
    go_wp2_with fail
    refine HN.out.mono ?_
    rintro r w1 ⟨rfl, rfl⟩
    go_wp2
    go_ret
    refine ⟨by rw [HR.out]; rfl, ?_⟩
    rw [HR.out]
    refine ⟨?_, (Touch.refl (fun k => k = b) w).setCell (p := ⟨b, 0, none⟩) (fun _ => rfl) _⟩
    rw [HY.out]
    exact inSt_left HI.out _ (by simp; omega) (fun he => by rw [h5 he]; simp)
  · have heb : ((er : Int) != 0) = true := by simp; omega
    have HR := Lib.hid (show numS (l, e) = (failS (l, e) er, 0) by rw [HS.out, if_pos he])
    clear hsz he
    go_enter Try.func81, Try.ntmps81
    go_wp2_with fail
    refine HN.out.mono ?_
    rintro r w1 ⟨rfl, rfl⟩
    go_wp2_with fail
    refine (fail_any b l e er _ (by omega) HI.out).mono ?_
    rintro r w1 ⟨rfl, hi⟩
    have HI1 := Lib.hid hi
    clear hi
    go_wp2
    go_ret
    exact ⟨by rw [HR.out]; rfl, by rw [HR.out]; exact HI1.out⟩
theorem numS_lt (st : List UInt8 × Nat) : (numS st).2 < 18446744073709551616 := by
  unfold numS; split
  · exact Nat.zero_lt_succ _
  · exact numT_lt _
def countS (st : List UInt8 × Nat) (most : Int) : (List UInt8 × Nat) × Nat :=
  if max most 0 < ((numS st).2 : Int) then (failS (numS st).1 3, 0) else numS st
theorem count_any (b : Nat) (l : List UInt8) (e : Nat) (most : Int) (w : World) (hn : most ≤ 9223372036854775807) (hn' : -9223372036854775808 ≤ most) (h : InSt w b (l, e)) :
    Calls Try.prog 58 #[.pointer (some ⟨b, 0, none⟩), .int .i64 most] w fun r w' => r = .returned (.int .i64 ((countS (l, e) most).2 : Nat)) ∧ InTo w b (countS (l, e) most).1 w' := by
  have hN := inNum_any b l e w h
  have hS : countS (l, e) most = if max most 0 < ((numS (l, e)).2 : Int) then (failS (numS (l, e)).1 3, 0) else numS (l, e) := rfl
  have hlt := numS_lt (l, e)
  generalize numS (l, e) = t at hN hS hlt
  obtain ⟨⟨l1, e1⟩, n⟩ := t
  have HS := Lib.hid hS
  have HN := Lib.hid hN
  simp only at hlt
  clear hN hS h
  go_enter Try.func58, Try.ntmps58
  go_wp2_with fail
  refine HN.out.mono ?_
  rintro r w1 ⟨rfl, hi⟩
  have HI1 := Lib.hid hi
  clear hi HN
  simp only
  by_cases hneg : most < 0
  · by_cases hbig : 0 < n
    · have HR := Lib.hid (show countS (l, e) most = (failS (l1, e1) 3, 0) by rw [HS.out, if_pos (by omega)])
      go_wp2_with fail
      refine (fail_any b l1 e1 3 _ (by decide) HI1.out.1).mono ?_
      rintro r w2 ⟨rfl, hi⟩
      have HI2 := Lib.hid hi
      clear hi
      go_wp2
      go_ret
      exact ⟨by rw [HR.out]; rfl, by rw [HR.out]; exact ⟨HI2.out.1, HI1.out.2.trans HI2.out.2⟩⟩
    · have HR := Lib.hid (show countS (l, e) most = ((l1, e1), n) by rw [HS.out, if_neg (by omega)])
      go_wp2
      go_ret
      exact ⟨by rw [HR.out]; rfl, by rw [HR.out]; exact HI1.out⟩
  · obtain ⟨m, rfl⟩ := Int.eq_ofNat_of_zero_le (show 0 ≤ most by omega)
    have hm : m ≤ 9223372036854775807 := by omega
    by_cases hbig : m < n
    · have HR := Lib.hid (show countS (l, e) m = (failS (l1, e1) 3, 0) by rw [HS.out, if_pos (by omega)])
      go_wp2_with fail
      refine (fail_any b l1 e1 3 _ (by decide) HI1.out.1).mono ?_
      rintro r w2 ⟨rfl, hi⟩
      have HI2 := Lib.hid hi
      clear hi
      go_wp2
      go_ret
      exact ⟨by rw [HR.out]; rfl, by rw [HR.out]; exact ⟨HI2.out.1, HI1.out.2.trans HI2.out.2⟩⟩
    · have HR := Lib.hid (show countS (l, e) m = ((l1, e1), n) by rw [HS.out, if_neg (by omega)])
      go_wp2
      go_ret
      exact ⟨by rw [HR.out]; rfl, by rw [HR.out]; exact HI1.out⟩
def unzig (n : Nat) : Int := if n % 2 = 1 then -1 - ((n / 2 : Nat) : Int) else ((n / 2 : Nat) : Int)
theorem inInt_any (b : Nat) (l : List UInt8) (e : Nat) (w : World) (h : InSt w b (l, e)) :
    Calls Try.prog 82 #[.pointer (some ⟨b, 0, none⟩)] w fun r w' => r = .returned (.int .i64 (unzig (numS (l, e)).2)) ∧ InTo w b (numS (l, e)).1 w' := by
  have hN := inNum_any b l e w h
  have hlt := numS_lt (l, e)
  generalize numS (l, e) = t at hN hlt ⊢
  obtain ⟨⟨l1, e1⟩, n⟩ := t
  have HN := Lib.hid hN
  simp only at hlt ⊢
  clear hN h
  go_enter Try.func82, Try.ntmps82
  go_wp2_with fail
  refine HN.out.mono ?_
  rintro r w1 ⟨rfl, hi⟩
  have HI1 := Lib.hid hi
  clear hi HN
  simp only
  by_cases hp : n % 2 = 1
  · have hb : (bits .and .u64 (n : Int) 1 == 1) = true := by rw [and1_walk n hlt, hp]; rfl
    have HP := Lib.hid (show unzig n = -1 - ((n / 2 : Nat) : Int) from if_pos hp)
    clear hp
    go_wp2
    go_ret
    refine ⟨ret_int ?_, HI1.out⟩
    rw [HP.out, show ((n : Int) / 2) = ((n / 2 : Nat) : Int) by omega]
    exact i64_not _ (by omega)
  · have hb : (bits .and .u64 (n : Int) 1 == 1) = false := by rw [and1_walk n hlt]; simp; omega
    have HP := Lib.hid (show unzig n = ((n / 2 : Nat) : Int) from if_neg hp)
    clear hp
    go_wp2
    go_ret
    exact ⟨ret_int (by rw [HP.out]; omega), HI1.out⟩
def strS (st : List UInt8 × Nat) (most : Int) : (List UInt8 × Nat) × List UInt8 := rawS (countS st most).1 ((countS st most).2 : Int)
theorem countS_lt (st : List UInt8 × Nat) (most : Int) (h : most ≤ 9223372036854775807) : (countS st most).2 ≤ 9223372036854775807 := by
  unfold countS; split
  · exact Nat.zero_le _
  · omega
theorem inStr_any (b : Nat) (l : List UInt8) (e : Nat) (most : Int) (w : World) (hn : most ≤ 9223372036854775807) (hn' : -9223372036854775808 ≤ most) (h : InSt w b (l, e)) :
    Calls Try.prog 113 #[.pointer (some ⟨b, 0, none⟩), .int .i64 most] w fun r w' => r = .returned (.string (bs (strS (l, e) most).2)) ∧ InTo w b (strS (l, e) most).1 w' := by
  have hN := count_any b l e most w hn hn' h
  have hS : strS (l, e) most = rawS (countS (l, e) most).1 ((countS (l, e) most).2 : Int) := rfl
  have hlt := countS_lt (l, e) most hn
  generalize countS (l, e) most = t at hN hS hlt
  obtain ⟨⟨l1, e1⟩, n⟩ := t
  have HS := Lib.hid hS
  have HN := Lib.hid hN
  simp only at hlt
  clear hN hS h
  go_enter Try.func113, Try.ntmps113
  go_wp2_with fail
  refine HN.out.mono ?_
  rintro r w1 ⟨rfl, hi⟩
  have HI1 := Lib.hid hi
  clear hi HN
  simp only
  go_wp2_with fail
  refine (raw_any b l1 e1 n _ (by omega) (by omega) HI1.out.1).mono ?_
  rintro r w2 ⟨rfl, hi⟩
  have HI2 := Lib.hid hi
  clear hi
  go_wp2
  go_ret
  exact ⟨by rw [HS.out]; rfl, by rw [HS.out]; exact ⟨HI2.out.1, HI1.out.2.trans HI2.out.2⟩⟩
end Go.Proofs.Ytcbadcbnknmdnaa
namespace Go.Proofs.Ytcbadcbnknmdnaa
open Go.RowKit
set_option linter.unusedVariables false

theorem below_drew0 {w w' : World} (h : Below w.drew.heap.size w.drew w') : Below w.heap.size w w' := ⟨h.os, h.tape, h.output, h.size, h.block⟩
theorem one_back (w : World) (c : UInt8) : (convert 63 9 (.slice (some ⟨w.heap.size, 0, none⟩) 1 1)).run Try.prog (w.alloc (.cells #[.int .u8 (c.toNat : Int)] 5)) = .ok (.string (bs [c])) (w.alloc (.cells #[.int .u8 (c.toNat : Int)] 5)) := by
  refine bytes_back _ _ 1 1 [c] rfl fun j hj => ?_
  obtain rfl : j = 0 := by simpa using hj
  simp
theorem four_back (u : World) (b : Nat) (t : TypeId) (x : Nat) (hx : x < 4294967296) (hb : b = u.heap.size) :
    (convert 63 9 (.slice (some ⟨b, 0, none⟩) 4 4)).run Try.prog (u.alloc (.cells #[.int .u8 ((x : Int) % 256), .int .u8 ((x : Int) / 256 % 256), .int .u8 ((x : Int) / 65536 % 256), .int .u8 ((x : Int) / 16777216)] t)) =
      .ok (.string (bs (sum4 x))) (u.alloc (.cells #[.int .u8 ((x : Int) % 256), .int .u8 ((x : Int) / 256 % 256), .int .u8 ((x : Int) / 65536 % 256), .int .u8 ((x : Int) / 16777216)] t)) := by
  subst hb
  refine bytes_back _ _ 4 4 (sum4 x) rfl fun j hj => ?_
  have h0 : ((x % 256 : Nat) : Int) = (x : Int) % 256 := by omega
  have h1 : ((x / 256 % 256 : Nat) : Int) = (x : Int) / 256 % 256 := by omega
  have h2 : ((x / 65536 % 256 : Nat) : Int) = (x : Int) / 65536 % 256 := by omega
  have h3 : ((x / 16777216 % 256 : Nat) : Int) = (x : Int) / 16777216 := by omega
  rcases (show j = 0 ∨ j = 1 ∨ j = 2 ∨ j = 3 by rw [sum4_length] at hj; omega) with rfl | rfl | rfl | rfl
  · simp [sum4, byteOf_toNat (show x % 256 < 256 by omega)]
  · simp [sum4, byteOf_toNat (show x / 256 % 256 < 256 by omega)]
  · simp [sum4, byteOf_toNat (show x / 65536 % 256 < 256 by omega)]
  · simp only [sum4, List.getElem_cons_succ, List.getElem_cons_zero, byteOf_toNat (show x / 16777216 % 256 < 256 by omega), h3]
    simp
end Go.Proofs.Ytcbadcbnknmdnaa
namespace Go.Proofs.Ytcbadcbnknmdnaa
open Go.RowKit
set_option linter.unusedVariables false

theorem byte_back (w : World) (c : UInt8) (x : Int) (hx : x = (c.toNat : Int)) : (convert 63 9 (.slice (some ⟨w.heap.size, 0, none⟩) 1 1)).run Try.prog (w.alloc (.cells #[.int .u8 x] 5)) = .ok (.string (bs [c])) (w.alloc (.cells #[.int .u8 x] 5)) := by
  subst hx; exact one_back w c
set_option maxHeartbeats 400000 in
set_option maxRecDepth 100000 in
theorem refNum_any (n : Nat) (w : World) (hn : n < 18446744073709551616) : Calls Try.prog 63 #[.int .u64 n] w fun e w' => e = .returned (.string (bs (numB n))) ∧ Below w.heap.size w w' := by
  have HN := Lib.hid hn
  clear hn
  go_enter Try.func63, Try.ntmps63
  go_wp2
  go_loopw [0, 3, 4] (fun x s i wr => ∃ (k m : Nat) (S : ByteArray), k ≤ 10 ∧ x = .int .u64 m ∧ s = .string S ∧ i = .int .i64 k ∧ S.size ≤ 10 ∧ S.size ≤ k ∧ Hid (m * 128 ^ k ≤ n) ∧ Hid (numB n = S.data.toList ++ numB m) ∧ Below w.heap.size w wr) (fun _ _ i _ => 10 - (intOf i).toNat)
  case atStart => exact ⟨0, n, ⟨#[]⟩, by omega, rfl, rfl, rfl, by decide, by decide, Lib.hid (by simp), Lib.hid rfl, Below.refl _ _⟩
  case round =>
    obtain ⟨k, m, S, hk, rfl, rfl, rfl, hS, hSk, H1, H2, hb⟩ := hrel
    have hz := hb.size
    by_cases hlt : k < 10
    · by_cases hge : 127 < m
      · have hgb : decide ((127 : Int) < (m : Int)) = true := by simp; omega
        have HG := Lib.hid hge
        clear hge
        have hback := byte_back wr (byteOf (m % 128 + 128)) (128 + (m : Int) % 128) (by rw [byteOf_toNat (by omega)]; omega)
        have hs1 : (bs [byteOf (m % 128 + 128)]).size ≤ 1 := by rw [bs_size]; exact Nat.le_refl 1
        have HQ := Lib.hid (bs_list [byteOf (m % 128 + 128)])
        generalize bs [byteOf (m % 128 + 128)] = q at hback hs1 HQ
        go_wp2
        go_roundw
        case rel =>
          have h1 := HG.out
          have hmn : m ≤ n := Nat.le_trans (Nat.le_mul_of_pos_right m (Nat.pow_pos (by decide))) H1.out
          have hn := HN.out
          exact ⟨k + 1, m / 128, S ++ q, by omega, congrArg (Value.int .u64) (by rw [IntKind.wrap_u64]; omega), rfl, by go_num, by simp; omega, by simp; omega, Lib.hid (by
            have := H1.out
            rw [Nat.pow_succ, Nat.mul_comm (128 ^ k), ← Nat.mul_assoc]
            exact Nat.le_trans (Nat.mul_le_mul_right _ (Nat.div_mul_le_self m 128)) this), Lib.hid (by rw [H2.out, numB_ge (by omega)]; simp [HQ.out]), hb.alloc hz _⟩
        case measure => simp [intOf]; omega
      · have hgb : decide ((127 : Int) < (m : Int)) = false := by simp; omega
        have HG := Lib.hid hge
        clear hge
        have hback := byte_back wr (byteOf m) _ (low_walk m (by have := HG.out; omega))
        have hs1 : (bs [byteOf m]).size ≤ 1 := by rw [bs_size]; exact Nat.le_refl 1
        have HR := Lib.hid (show S ++ bs [byteOf m] = bs (numB n) by rw [H2.out, numB_lt (by have := HG.out; omega), ← bs_append, bs_eta])
        generalize bs [byteOf m] = q at hback hs1 HR
        go_wp2
        go_ret
        exact ⟨by rw [← HR.out]; rfl, hb.alloc hz _⟩
    · have HG := Lib.hid (show m = 0 by
        have h1 := H1.out
        have h2 := HN.out
        have h10 : (128 : Nat) ^ 10 = 1180591620717411303424 := by decide
        have : k = 10 := by omega
        subst this
        by_cases h0 : m = 0
        · exact h0
        · have := Nat.mul_le_mul_right (128 ^ 10) (show 1 ≤ m by omega)
          omega)
      have hback := byte_back wr (byteOf m) _ (low_walk m (by have := HG.out; omega))
      have hs1 : (bs [byteOf m]).size ≤ 1 := by rw [bs_size]; exact Nat.le_refl 1
      have HR := Lib.hid (show S ++ bs [byteOf m] = bs (numB n) by rw [H2.out, numB_lt (by have := HG.out; omega), ← bs_append, bs_eta])
      generalize bs [byteOf m] = q at hback hs1 HR
      go_wp2
      go_ret
      exact ⟨by rw [← HR.out]; rfl, hb.alloc hz _⟩
theorem refNum_int (n : Nat) (x : Int) (hx : x = (n : Int)) (w : World) (hn : n < 18446744073709551616) : Calls Try.prog 63 #[.int .u64 x] w fun e w' => e = .returned (.string (bs (numB n))) ∧ Below w.heap.size w w' := by
  subst hx; exact refNum_any n w hn
theorem refInt_any (n : Int) (w : World) (h1 : -9223372036854775808 ≤ n) (h2 : n ≤ 9223372036854775807) : Calls Try.prog 73 #[.int .i64 n] w fun e w' => e = .returned (.string (bs (numB (zig n)))) ∧ Below w.heap.size w w' := by
  have HZ := Lib.hid (zig_lt h1 h2)
  by_cases hn : 0 ≤ n
  · have HE := Lib.hid (show zig n = (2 * n).toNat from if_neg (by omega))
    go_enter Try.func73, Try.ntmps73
    go_wp2_with fail
    refine (refNum_int (zig n) _ (by rw [HE.out]; omega) _ HZ.out).mono ?_
    rintro e w1 ⟨rfl, hb⟩
    go_wp2
    go_ret
    exact ⟨rfl, hb⟩
  · have HE := Lib.hid (show zig n = (-2 * n - 1).toNat from if_pos (by omega))
    go_enter Try.func73, Try.ntmps73
    go_wp2_with fail
    refine (refNum_int (zig n) _ (by rw [HE.out]; omega) _ HZ.out).mono ?_
    rintro e w1 ⟨rfl, hb⟩
    go_wp2
    go_ret
    exact ⟨rfl, hb⟩
theorem refCount_any (n : Int) (w : World) (h1 : -9223372036854775808 ≤ n) (h2 : n ≤ 9223372036854775807) : Calls Try.prog 45 #[.int .i64 n] w fun e w' => e = .returned (.string (bs (numB n.toNat))) ∧ Below w.heap.size w w' := by
  by_cases hn : n < 0
  · have HE := Lib.hid (show n.toNat = 0 by omega)
    go_enter Try.func45, Try.ntmps45
    go_wp2_with fail
    refine (refNum_int n.toNat _ (by rw [HE.out]; rfl) _ (by omega)).mono ?_
    rintro e w1 ⟨rfl, hb⟩
    go_wp2
    go_ret
    exact ⟨rfl, hb⟩
  · go_enter Try.func45, Try.ntmps45
    go_wp2_with fail
    refine (refNum_int n.toNat _ (by omega) _ (by omega)).mono ?_
    rintro e w1 ⟨rfl, hb⟩
    go_wp2
    go_ret
    exact ⟨rfl, hb⟩
theorem refStr_any (s : ByteArray) (w : World) (h : s.size ≤ 1000000000) : Calls Try.prog 86 #[.string s] w fun e w' => e = .returned (.string (bs (strB s.data.toList))) ∧ Below w.heap.size w w' := by
  have HL := Lib.hid (@numB_ten s.size (by omega))
  have HE := Lib.hid (show bs (numB s.size) ++ s = bs (strB s.data.toList) by
    have e : s.data.toList.length = s.size := by simp
    rw [strB, e, ← bs_append, bs_eta])
  go_enter Try.func86, Try.ntmps86
  go_wp2_with fail
  refine (refNum_int s.size _ (by omega) _ (by omega)).mono ?_
  rintro e w1 ⟨rfl, hb⟩
  have hq : (bs (numB s.size)).size ≤ 10 := by rw [bs_size]; exact HL.out
  generalize bs (numB s.size) = q at hq HE ⊢
  go_wp2
  go_ret
  exact ⟨by rw [← HE.out]; rfl, hb⟩
end Go.Proofs.Ytcbadcbnknmdnaa
namespace Go.Proofs.Ytcbadcbnknmdnaa
open Go.RowKit
set_option linter.unusedVariables false

/-- A reader as a value. -/
def inV (st : List UInt8 × Nat) : Value := .agg #[.string (bs st.1), .int .i64 (st.2 : Nat)]
def InOk (st : List UInt8 × Nat) : Prop := (st.2 ≠ 0 → st.1 = []) ∧ st.1.length ≤ 1000000000 ∧ st.2 ≤ 1000
theorem refFail_any (l : List UInt8) (e x : Nat) (w : World) :
    Calls Try.prog 75 #[.agg #[.string (bs l), .int .i64 e], .int .i64 x] w fun r w' => r = .returned (inV (failS (l, e) x)) ∧ Below w.heap.size w w' := by
  by_cases he : e = 0
  · subst he
    by_cases hx0 : x = 0
    · subst hx0
      go_enter Try.func75, Try.ntmps75
      go_wp2
      exact bodyPost_ret (v := .agg #[.string (bs l), .int .i64 0]) (by simp [results, Try.results75, go_sem]) rfl ⟨rfl, ((Below.refl _ _).alloc (Nat.le_refl _) _).alloc (by simp) _⟩
    · have hxb : ((x : Int) != 0) = true := by simp; omega
      have HE := Lib.hid (show failS (l, 0) x = ([], x) from if_pos ⟨rfl, hx0⟩)
      clear hx0
      go_enter Try.func75, Try.ntmps75
      go_wp2
      exact bodyPost_ret (v := .agg #[.string ⟨#[]⟩, .int .i64 x]) (by simp [results, Try.results75, go_sem]) rfl ⟨by rw [HE.out]; rfl, ((Below.refl _ _).alloc (Nat.le_refl _) _).alloc (by simp) _⟩
  · have heb : ((e : Int) == 0) = false := by simp; omega
    have HE := Lib.hid (show failS (l, e) x = (l, e) from if_neg (fun h => he h.1))
    clear he
    go_enter Try.func75, Try.ntmps75
    go_wp2
    exact bodyPost_ret (v := .agg #[.string (bs l), .int .i64 e]) (by simp [results, Try.results75, go_sem]) rfl ⟨by rw [HE.out]; rfl, ((Below.refl _ _).alloc (Nat.le_refl _) _).alloc (by simp) _⟩
theorem rawS_err {l : List UInt8} {e : Nat} (n : Int) (he : e ≠ 0) (h : e ≠ 0 → l = []) : rawS (l, e) n = ((l, e), []) := by
  have hl := h he
  subst hl
  unfold rawS failS
  split
  · rw [if_neg (fun h => he h.1)]
  · simp
theorem rawS_none (l : List UInt8) (e : Nat) (n : Int) (hn : n ≤ 0) : rawS (l, e) n = ((l, e), []) := by
  have : n.toNat = 0 := by omega
  unfold rawS
  rw [this, if_neg (by simp)]
  simp
theorem rawS_end (l : List UInt8) (n : Int) (hn : (l.length : Int) < n) : rawS (l, 0) n = (([], 1), []) := by
  unfold rawS failS
  rw [if_pos (by show l.length < n.toNat; omega), if_pos ⟨rfl, by decide⟩]
theorem rawS_yes (l : List UInt8) (m : Nat) (hn : m ≤ l.length) : rawS (l, 0) (m : Int) = ((l.drop m, 0), l.take m) := by
  unfold rawS
  rw [if_neg (by simp; omega)]
  simp
theorem refRaw_any (l : List UInt8) (e : Nat) (n : Int) (w : World) (hl : l.length ≤ 1000000000) (h : e ≠ 0 → l = []) :
    Calls Try.prog 104 #[.agg #[.string (bs l), .int .i64 e], .int .i64 n] w fun r w' => r = .returned (.tuple #[inV (rawS (l, e) n).1, .string (bs (rawS (l, e) n).2)]) ∧ Below w.heap.size w w' := by
  have hz := bs_size l
  by_cases he : e = 0
  · subst he
    clear h
    by_cases hn : n ≤ 0
    · have HE := Lib.hid (rawS_none l 0 n hn)
      go_enter Try.func104, Try.ntmps104
      go_wp2
      exact bodyPost_ret (v := .tuple #[.agg #[.string (bs l), .int .i64 0], .string ⟨#[]⟩]) (by simp [results, Try.results104, go_sem]) rfl ⟨by rw [HE.out]; rfl, ((Below.refl _ _).alloc (Nat.le_refl _) _).alloc (by simp) _⟩
    · by_cases hl2 : (l.length : Int) < n
      · have HE := Lib.hid (rawS_end l n hl2)
        go_enter Try.func104, Try.ntmps104
        go_wp2
        exact bodyPost_ret (v := .tuple #[.agg #[.string ⟨#[]⟩, .int .i64 1], .string ⟨#[]⟩]) (by simp [results, Try.results104, go_sem]) rfl ⟨by rw [HE.out]; rfl, ((Below.refl _ _).alloc (Nat.le_refl _) _).alloc (by simp) _⟩
      · obtain ⟨m, rfl⟩ := Int.eq_ofNat_of_zero_le (show 0 ≤ n by omega)
        have hm : m ≤ l.length := by omega
        have HE := Lib.hid (rawS_yes l m hm)
        have HX := Lib.hid (extract_take (bs l) m)
        have HY := Lib.hid (extract_drop (bs l) m)
        rw [bs_list] at HX HY
        rw [hz] at HY
        go_enter Try.func104, Try.ntmps104
        go_wp2
        go_region
        all_goals go_wp2
        all_goals exact bodyPost_ret (v := .tuple #[.agg #[.string ((bs l).extract m l.length), .int .i64 0], .string ((bs l).extract 0 m)]) (by simp [results, Try.results104, go_sem]) rfl ⟨by rw [HE.out]; show _ = Ending.returned (.tuple #[.agg #[.string (bs (l.drop m)), .int .i64 0], .string (bs (l.take m))]); rw [← HX.out, ← HY.out], (((Below.refl _ _).alloc (Nat.le_refl _) _).alloc (by simp) _).drew⟩
  · have heb : ((e : Int) != 0) = true := by simp; omega
    have HE := Lib.hid (rawS_err n he h)
    clear he h
    go_enter Try.func104, Try.ntmps104
    go_wp2
    exact bodyPost_ret (v := .tuple #[.agg #[.string (bs l), .int .i64 e], .string ⟨#[]⟩]) (by simp [results, Try.results104, go_sem]) rfl ⟨by rw [HE.out]; rfl, ((Below.refl _ _).alloc (Nat.le_refl _) _).alloc (by simp) _⟩
theorem pow_le {i : Nat} (h : i ≤ 8) : (128 : Nat) ^ i ≤ 72057594037927936 := by
  have h1 : (128 : Nat) ^ i ≤ 128 ^ 8 := Nat.pow_le_pow_right (by decide) h
  have h2 : (128 : Nat) ^ 8 = 72057594037927936 := by decide
  omega
set_option maxRecDepth 100000 in
theorem pow_any (k q : Nat) (w : World) (hk : k ≤ 9) (hq : q = 128 ^ k) : Calls Try.prog 105 #[.int .i64 k] w fun e w' => e = .returned (.int .u64 (q : Int)) ∧ w' = w := by
  have HQ := Lib.hid hq
  clear hq
  go_enter Try.func105, Try.ntmps105
  go_wp2
  go_loop [3, 4] (fun x i => ∃ j p : Nat, j ≤ k ∧ i = .int .i64 j ∧ x = .int .u64 p ∧ Hid (p = 128 ^ j)) (fun _ i => k - (intOf i).toNat)
  case atStart => exact ⟨0, 1, by omega, rfl, rfl, Lib.hid rfl⟩
  case round =>
    obtain ⟨j, p, hj, rfl, rfl, HP⟩ := hrel
    by_cases hlt : j < k
    · have hp : p ≤ 72057594037927936 := by rw [HP.out]; exact pow_le (by omega)
      go_wp2
      go_round
      case rel => exact ⟨j + 1, p * 128, by omega, by go_num, by go_num, Lib.hid (by rw [HP.out, Nat.pow_succ])⟩
      case measure => simp [intOf]; omega
    · have HJ := Lib.hid (show p = q by rw [HP.out, HQ.out]; congr 1; omega)
      go_wp2
      go_ret
      exact ⟨ret_int (by rw [HJ.out]), rfl⟩
end Go.Proofs.Ytcbadcbnknmdnaa
namespace Go.Proofs.Ytcbadcbnknmdnaa
open Go.RowKit
set_option linter.unusedVariables false

/-- The memory of a call that takes a number, behind k bytes. -/
structure TakeW (w wr : World) (l : List UInt8) (x : Value) : Prop where
  c0 : wr.cell? ⟨w.heap.size, 0, none⟩ = some (.string (bs l))
  c1 : wr.cell? ⟨w.heap.size, 1, none⟩ = some x
  f0 : wr.frozen? ⟨w.heap.size, 0, none⟩ = false
  f1 : wr.frozen? ⟨w.heap.size, 1, none⟩ = false
  r0 : wr.cell? ⟨w.heap.size + 1, 0, none⟩ = some (.string ⟨#[]⟩)
  r1 : wr.cell? ⟨w.heap.size + 1, 1, none⟩ = some (.int .i64 0)
  g0 : wr.frozen? ⟨w.heap.size + 1, 0, none⟩ = false
  g1 : wr.frozen? ⟨w.heap.size + 1, 1, none⟩ = false
  sz : w.heap.size + 1 < wr.heap.size
  bel : Below w.heap.size w wr
theorem TakeW.keep {w wr w' : World} {l : List UInt8} {x : Value} (h : TakeW w wr l x) (hb : Below wr.heap.size wr w') : TakeW w w' l x := by
  have hs := h.sz
  have hz := hb.size
  refine ⟨(hb.cell (p := ⟨w.heap.size, 0, none⟩) (by show w.heap.size < _; omega)).trans h.c0, (hb.cell (p := ⟨w.heap.size, 1, none⟩) (by show w.heap.size < _; omega)).trans h.c1, (hb.frozen (p := ⟨w.heap.size, 0, none⟩) (by show w.heap.size < _; omega)).trans h.f0, (hb.frozen (p := ⟨w.heap.size, 1, none⟩) (by show w.heap.size < _; omega)).trans h.f1,
    (hb.cell (p := ⟨w.heap.size + 1, 0, none⟩) hs).trans h.r0, (hb.cell (p := ⟨w.heap.size + 1, 1, none⟩) hs).trans h.r1, (hb.frozen (p := ⟨w.heap.size + 1, 0, none⟩) hs).trans h.g0, (hb.frozen (p := ⟨w.heap.size + 1, 1, none⟩) hs).trans h.g1, by omega, h.bel.trans (hb.mono (by omega))⟩
theorem TakeW.set {w wr : World} {l : List UInt8} {x : Value} (h : TakeW w wr l x) (l' : List UInt8) (x' : Value) : TakeW w ((wr.setCell ⟨w.heap.size, 0, none⟩ (.string (bs l'))).setCell ⟨w.heap.size, 1, none⟩ x') l' x' := by
  have hs := h.sz
  refine ⟨?_, World.cell?_setCell_same _ _ _ ((World.cell?_setCell_other _ _ _ _ (by simp)).trans h.c1), by simpa using h.f0, by simpa using h.f1, ?_, ?_, by simpa using h.g0, by simpa using h.g1, by simpa using hs, (h.bel.setCell (Nat.le_refl _) _).setCell (Nat.le_refl _) _⟩
  · rw [World.cell?_setCell_other _ _ _ _ (by simp)]; exact World.cell?_setCell_same _ _ _ h.c0
  · rw [World.cell?_setCell_other _ _ _ _ (by simp), World.cell?_setCell_other _ _ _ _ (by simp)]; exact h.r0
  · rw [World.cell?_setCell_other _ _ _ _ (by simp), World.cell?_setCell_other _ _ _ _ (by simp)]; exact h.r1
theorem TakeW.store {w wr : World} {l : List UInt8} {x : Value} (h : TakeW w wr l x) (l' : List UInt8) (x' : Value) (o : Obj) (n : Nat) : TakeW w ((((wr.setCell ⟨w.heap.size, 0, none⟩ (.string (bs l'))).setCell ⟨w.heap.size, 1, none⟩ x').alloc o).drewN n) l' x' := by
  have key := h.set l' x'
  have k2 := key.keep ((Below.refl _ _).alloc (Nat.le_refl _) o)
  exact ⟨k2.c0, k2.c1, k2.f0, k2.f1, k2.r0, k2.r1, k2.g0, k2.g1, k2.sz, ⟨k2.bel.os, k2.bel.tape, k2.bel.output, k2.bel.size, k2.bel.block⟩⟩
theorem TakeW.end0 {w wr : World} {l : List UInt8} {x : Value} (h : TakeW w wr l x) (a b : Value) : Below w.heap.size w ((wr.setCell ⟨w.heap.size + 1, 0, none⟩ a).setCell ⟨w.heap.size + 1, 1, none⟩ b) :=
  (h.bel.setCell (Nat.le_succ _) _).setCell (Nat.le_succ _) _
theorem rawS_one {l : List UInt8} {b : UInt8} {r : List UInt8} (h : l = b :: r) : rawS (l, 0) 1 = ((r, 0), [b]) := by
  subst h; exact rawS_yes (b :: r) 1 (by simp)
theorem takeW_new (w : World) (l : List UInt8) (e : Nat) : TakeW w ((w.alloc (.cells #[.string (bs l), .int .i64 e] 57)).alloc (.cells #[.string ⟨#[]⟩, .int .i64 0] 57)) l (.int .i64 e) := by
  have z1 : (w.alloc (.cells #[.string (bs l), .int .i64 e] 57)).heap.size = w.heap.size + 1 := by simp
  have c : ∀ j, ((w.alloc (.cells #[.string (bs l), .int .i64 e] 57)).alloc (.cells #[.string ⟨#[]⟩, .int .i64 0] 57)).cell? ⟨w.heap.size, j, none⟩ = (#[.string (bs l), .int .i64 e] : Array Value)[j]? := fun j => by
    rw [World.cell?_alloc_lt _ _ _ (by simp)]; simp
  have d : ∀ j, ((w.alloc (.cells #[.string (bs l), .int .i64 e] 57)).alloc (.cells #[.string ⟨#[]⟩, .int .i64 0] 57)).cell? ⟨w.heap.size + 1, j, none⟩ = (#[.string ⟨#[]⟩, .int .i64 0] : Array Value)[j]? := fun j => by
    rw [← z1]; simp
  refine ⟨by rw [c]; rfl, by rw [c]; rfl, ?_, ?_, by rw [d]; rfl, by rw [d]; rfl, ?_, ?_, by simp, ((Below.refl _ _).alloc (Nat.le_refl _) _).alloc (by simp) _⟩
  · rw [frozen_old _ _ _ (by simp)]; exact frozen_new _ _ _ _
  · rw [frozen_old _ _ _ (by simp)]; exact frozen_new _ _ _ _
  · rw [← z1]; exact frozen_new _ _ _ _
  · rw [← z1]; exact frozen_new _ _ _ _
set_option maxHeartbeats 1000000 in
set_option maxRecDepth 100000 in
theorem refTakeNum_any (l : List UInt8) (e : Nat) (w : World) (hl : l.length ≤ 1000000000) (h : e ≠ 0 → l = []) :
    Calls Try.prog 74 #[.agg #[.string (bs l), .int .i64 e]] w fun r w' => r = .returned (.tuple #[inV (numS (l, e)).1, .int .u64 ((numS (l, e)).2 : Nat)]) ∧ Below w.heap.size w w' := by
  by_cases he : e = 0
  · subst he
    clear h
    go_enter Try.func74, Try.ntmps74
    go_wp2
    go_loopw [4, 5] (fun n i wr => ∃ k acc : Nat, k ≤ l.length ∧ k ≤ 9 ∧ i = .int .i64 k ∧ n = .int .u64 acc ∧ Hid (acc < 128 ^ k) ∧ Hid (numT l = takeF k acc (l.drop k)) ∧ Hid (TakeW w wr (l.drop k) (.int .i64 0))) (fun _ i _ => 11 - (intOf i).toNat)
    case atStart =>
      refine ⟨0, 0, by omega, by omega, rfl, rfl, Lib.hid (by decide), Lib.hid rfl, Lib.hid ?_⟩
      exact takeW_new w l 0
    case round =>
      obtain ⟨k, acc, hk, hk9, rfl, rfl, H1, H2, HT⟩ := hrel
      have hT := HT.out
      obtain ⟨c0, c1, f0, f1, r0, r1, g0, g1, sz, bel⟩ := hT
      have HBEL := Lib.hid bel
      clear bel
      by_cases hlt : k < l.length
      · have hD : l.drop k = l[k] :: l.drop (k + 1) := List.drop_eq_getElem_cons hlt
        have HE := Lib.hid (rawS_one hD)
        have HD := Lib.hid hD
        clear hD
        have hb := byte_lt l[k]
        generalize hc : l[k] = c at HE HD hb
        clear hc
        have h00 : (bs [c])[0]'(by rw [bs_size]; exact Nat.one_pos) = c := rfl
        have hsz1 : (bs [c]).size = 1 := bs_size [c]
        go_wp2_with fail
        refine (refRaw_any (l.drop k) 0 1 _ (by simp; omega) (fun h => absurd rfl h)).mono ?_
        rintro r w1 ⟨rfl, hb1⟩
        rw [HE.out]
        have hT1 := HT.out.keep hb1
        obtain ⟨c0', c1', f0', f1', r0', r1', g0', g1', sz', bel'⟩ := hT1
        clear c0 c1 f0 f1 r0 r1 g0 g1
        have HB1 := Lib.hid bel'
        have sz0 : w.heap.size < w1.heap.size := by omega
        have HBW := Lib.hid hb1
        clear bel' hb1
        unfold inV
        simp only
        by_cases hA : 0 < k ∧ c.toNat = 0
        · have HU := Lib.hid (show numT l = (0, 0, 2) by rw [H2.out, HD.out, takeF_bad (.inl hA)])
          have HV := Lib.hid (show numS (l, 0) = (([], 2), 0) by unfold numS; simp only [HU.out]; rfl)
          obtain ⟨hA1, hA2⟩ := hA
          have hcb : ((c.toNat : Int) == 0) = true := by simp; omega
          have HA2 := Lib.hid hA2
          clear hA2
          go_wp2
          refine bodyPost_ret (v := .tuple #[.agg #[.string ⟨#[]⟩, .int .i64 2], .int .u64 0]) (by simp [results, Try.results74, go_sem, r0', r1', sz']) rfl ⟨by rw [HV.out]; rfl, ?_⟩
          have z := HB1.out.size
          exact ((((HB1.out.setCell (Nat.le_refl _) _).setCell (Nat.le_refl _) _).setCell (Nat.le_succ _) _).setCell (Nat.le_succ _) _).alloc (by simp; omega) _
        by_cases hB : k = 9 ∧ 1 < c.toNat
        · have HU := Lib.hid (show numT l = (0, 0, 2) by rw [H2.out, HD.out, takeF_bad (.inr hB)])
          have HV := Lib.hid (show numS (l, 0) = (([], 2), 0) by unfold numS; simp only [HU.out]; rfl)
          obtain ⟨hB1, hB2⟩ := hB
          have hcb : ((c.toNat : Int) == 0) = false := by simp; omega
          have hkk : ((k : Int) == 9) = true := by simp; omega
          have hk1 : 0 < k := by omega
          clear hB1 hA
          go_wp2
          refine bodyPost_ret (v := .tuple #[.agg #[.string ⟨#[]⟩, .int .i64 2], .int .u64 0]) (by simp [results, Try.results74, go_sem, r0', r1', sz']) rfl ⟨by rw [HV.out]; rfl, ?_⟩
          have z := HB1.out.size
          exact ((((HB1.out.setCell (Nat.le_refl _) _).setCell (Nat.le_refl _) _).setCell (Nat.le_succ _) _).setCell (Nat.le_succ _) _).alloc (by simp; omega) _
        have hN : ¬ ((0 < k ∧ c.toNat = 0) ∨ (k = 9 ∧ 1 < c.toNat)) := by omega
        have HN := Lib.hid hN
        have HPOW : ∃ q : Nat, q = 128 ^ k := ⟨_, rfl⟩
        obtain ⟨q, hq⟩ := HPOW
        have HQ := Lib.hid hq
        clear hq
        have HADD := Lib.hid (add_walk acc k c.toNat q hb H1.out hk9 (by omega) HQ.out)
        have HL := Lib.hid (@acc_lt acc k c.toNat H1.out)
        have HT1 := Lib.hid (HT.out.keep HBW.out)
        by_cases hD : c.toNat < 128
        · have hDb : decide ((c.toNat : Int) < 128) = true := by simp; omega
          have HU : numT l = (acc + c.toNat % 128 * 128 ^ k, k + 1, 0) := by rw [H2.out, HD.out, takeF_last hN hD]
          generalize acc + c.toNat % 128 * 128 ^ k = acc' at HADD HL HU
          have HV := Lib.hid (show numS (l, 0) = ((l.drop (k + 1), 0), acc') by unfold numS; simp only [HU]; rfl)
          clear HU
          by_cases hk0 : k = 0
          · have hG : decide (0 < k) = false := by simp; omega
            have hkk : ((k : Int) == 9) = false := by simp; omega
            clear hA hB hN hk0 hD
            go_upto_region 11 with (fail)
            go_quiet ((go_at_call 105; exact Calls.quiet_of_same (pow_any k q _ hk9 HQ.out)))
            rw [HADD.out]
            generalize IntKind.u64.wrap ((c.toNat : Int) % 128 * (q : Int)) = junk
            go_wp2
            exact bodyPost_ret (v := .tuple #[.agg #[.string (bs (l.drop (k + 1))), .int .i64 0], .int .u64 acc']) (by simp [results, Try.results74, go_sem, r0', r1', sz']) rfl ⟨by rw [HV.out]; rfl, (HT1.out.store _ _ _ _).end0 _ _⟩
          by_cases hk9' : k = 9
          · have hk1 : 0 < k := by omega
            have hcb : ((c.toNat : Int) == 0) = false := by simp; omega
            have hkk : ((k : Int) == 9) = true := by simp; omega
            have hc1 : decide (1 < (c.toNat : Int)) = false := by simp; omega
            clear hA hB hN hk0 hk9' hD
            go_upto_region 11 with (fail)
            go_quiet ((go_at_call 105; exact Calls.quiet_of_same (pow_any k q _ hk9 HQ.out)))
            rw [HADD.out]
            generalize IntKind.u64.wrap ((c.toNat : Int) % 128 * (q : Int)) = junk
            go_wp2
            exact bodyPost_ret (v := .tuple #[.agg #[.string (bs (l.drop (k + 1))), .int .i64 0], .int .u64 acc']) (by simp [results, Try.results74, go_sem, r0', r1', sz']) rfl ⟨by rw [HV.out]; rfl, (HT1.out.store _ _ _ _).end0 _ _⟩
          have hk1 : 0 < k := by omega
          have hcb : ((c.toNat : Int) == 0) = false := by simp; omega
          have hkk : ((k : Int) == 9) = false := by simp; omega
          clear hA hB hN hk0 hk9' hD
          go_upto_region 11 with (fail)
          go_quiet ((go_at_call 105; exact Calls.quiet_of_same (pow_any k q _ hk9 HQ.out)))
          rw [HADD.out]
          generalize IntKind.u64.wrap ((c.toNat : Int) % 128 * (q : Int)) = junk
          go_wp2
          exact bodyPost_ret (v := .tuple #[.agg #[.string (bs (l.drop (k + 1))), .int .i64 0], .int .u64 acc']) (by simp [results, Try.results74, go_sem, r0', r1', sz']) rfl ⟨by rw [HV.out]; rfl, (HT1.out.store _ _ _ _).end0 _ _⟩
        · have hDb : decide ((c.toNat : Int) < 128) = false := by simp; omega
          have HV := Lib.hid (show numT l = takeF (k + 1) (acc + c.toNat % 128 * 128 ^ k) (l.drop (k + 1)) by rw [H2.out, HD.out, takeF_more hN hD])
          have HK8 := Lib.hid (show k ≤ 8 by omega)
          generalize acc + c.toNat % 128 * 128 ^ k = acc' at HADD HL HV
          by_cases hk0 : k = 0
          · have hG : decide (0 < k) = false := by simp; omega
            have hkk : ((k : Int) == 9) = false := by simp; omega
            clear hA hB hN hk0 hD
            go_upto_region 11 with (fail)
            go_quiet ((go_at_call 105; exact Calls.quiet_of_same (pow_any k q _ hk9 HQ.out)))
            rw [HADD.out]
            generalize IntKind.u64.wrap ((c.toNat : Int) % 128 * (q : Int)) = junk
            go_wp2
            go_roundw
            case rel => exact ⟨k + 1, acc', by omega, by have := HK8.out; omega, by go_num, rfl, HL, HV, Lib.hid (HT1.out.store _ _ _ _)⟩
            case measure => simp [intOf]; omega
          have hk9' : k ≠ 9 := by omega
          have hk1 : 0 < k := by omega
          have hcb : ((c.toNat : Int) == 0) = false := by simp; omega
          have hkk : ((k : Int) == 9) = false := by simp; omega
          clear hA hB hN hk0 hk9' hD
          go_upto_region 11 with (fail)
          go_quiet ((go_at_call 105; exact Calls.quiet_of_same (pow_any k q _ hk9 HQ.out)))
          rw [HADD.out]
          generalize IntKind.u64.wrap ((c.toNat : Int) % 128 * (q : Int)) = junk
          go_wp2
          go_roundw
          case rel => exact ⟨k + 1, acc', by omega, by have := HK8.out; omega, by go_num, rfl, HL, HV, Lib.hid (HT1.out.store _ _ _ _)⟩
          case measure => simp [intOf]; omega
      · have HE := Lib.hid (show rawS (l.drop k, 0) 1 = (([], 1), []) from rawS_end _ 1 (by simp; omega))
        have HU := Lib.hid (show numS (l, 0) = (([], 1), 0) by
          have : numT l = (0, 0, 1) := by rw [H2.out, List.drop_of_length_le (by omega), takeF_end]
          unfold numS; simp only [this]; rfl)
        go_wp2_with fail
        refine (refRaw_any (l.drop k) 0 1 _ (by simp; omega) (fun h => absurd rfl h)).mono ?_
        rintro r w1 ⟨rfl, hb1⟩
        rw [HE.out]
        have hT1 := HT.out.keep hb1
        obtain ⟨c0', c1', f0', f1', r0', r1', g0', g1', sz', bel'⟩ := hT1
        clear c0 c1 f0 f1 r0 r1 g0 g1
        have HB1 := Lib.hid bel'
        have sz0 : w.heap.size < w1.heap.size := by omega
        clear bel' hb1
        unfold inV
        go_wp2
        refine bodyPost_ret (v := .tuple #[.agg #[.string (bs []), .int .i64 1], .int .u64 0]) (by simp [results, Try.results74, go_sem, r0', r1', sz']) rfl ⟨by rw [HU.out]; rfl, ?_⟩
        have z := HB1.out.size
        exact ((((HB1.out.setCell (Nat.le_refl _) _).setCell (Nat.le_refl _) _).setCell (Nat.le_succ _) _).setCell (Nat.le_succ _) _).alloc (by simp; omega) _
  · have hl0 := h he
    subst hl0
    have HE := Lib.hid (rawS_err (l := []) 1 he (fun _ => rfl))
    have HV := Lib.hid (show numS ([], e) = (([], e), 0) by unfold numS failS; rw [if_pos (by show (numT []).2.2 ≠ 0; decide), if_neg (fun h => he h.1)])
    have heb : ((e : Int) != 0) = true := by simp; omega
    clear he h
    go_enter Try.func74, Try.ntmps74
    go_wp2
    refine wp_loop_rounds 1 ?_
    rw [rounds_succ]
    have HT := Lib.hid (takeW_new w [] e)
    go_wp2_with fail
    refine (refRaw_any [] e 1 _ (by simp) (fun _ => rfl)).mono ?_
    rintro r w1 ⟨rfl, hb1⟩
    rw [HE.out]
    have hT1 := HT.out.keep hb1
    have HT1 := Lib.hid hT1
    obtain ⟨c0', c1', f0', f1', r0', r1', g0', g1', sz', bel'⟩ := hT1
    have HB1 := Lib.hid bel'
    have sz0 : w.heap.size < w1.heap.size := by omega
    clear bel' hb1
    unfold inV
    go_wp2
    refine bodyPost_ret (v := .tuple #[.agg #[.string (bs []), .int .i64 e], .int .u64 0]) (by simp [results, Try.results74, go_sem, r0', r1', sz']) rfl ⟨by rw [HV.out]; rfl, ?_⟩
    have z := HB1.out.size
    exact ((((HB1.out.setCell (Nat.le_refl _) _).setCell (Nat.le_refl _) _).setCell (Nat.le_succ _) _).setCell (Nat.le_succ _) _).alloc (by simp; omega) _
end Go.Proofs.Ytcbadcbnknmdnaa
namespace Go.Proofs.Ytcbadcbnknmdnaa
open Go.RowKit
set_option linter.unusedVariables false

theorem numS_ok (st : List UInt8 × Nat) (h : st.2 ≠ 0 → st.1 = []) (hl : st.1.length ≤ 1000000000) : ((numS st).1.2 ≠ 0 → (numS st).1.1 = []) ∧ (numS st).1.1.length ≤ 1000000000 := by
  unfold numS; split
  · refine ⟨failS_ok st _ h, ?_⟩
    unfold failS; split
    · simp
    · exact hl
  · refine ⟨fun h' => ?_, ?_⟩
    · simp only at h' ⊢; rw [h h']; simp
    · simp; omega
theorem countS_ok (st : List UInt8 × Nat) (most : Int) (h : st.2 ≠ 0 → st.1 = []) (hl : st.1.length ≤ 1000000000) : ((countS st most).1.2 ≠ 0 → (countS st most).1.1 = []) ∧ (countS st most).1.1.length ≤ 1000000000 := by
  have h1 := numS_ok st h hl
  unfold countS; split
  · refine ⟨failS_ok _ _ h1.1, ?_⟩
    unfold failS; split
    · simp
    · exact h1.2
  · exact h1
set_option maxHeartbeats 1000000 in
set_option maxRecDepth 100000 in
theorem refTakeCount_any (l : List UInt8) (e : Nat) (most : Int) (w : World) (hn : most ≤ 9223372036854775807) (hn' : -9223372036854775808 ≤ most) (hl : l.length ≤ 1000000000) (h : e ≠ 0 → l = []) :
    Calls Try.prog 52 #[.agg #[.string (bs l), .int .i64 e], .int .i64 most] w fun r w' => r = .returned (.tuple #[inV (countS (l, e) most).1, .int .i64 ((countS (l, e) most).2 : Nat)]) ∧ Below w.heap.size w w' := by
  have hN := fun w => refTakeNum_any l e w hl h
  have hS : countS (l, e) most = if max most 0 < ((numS (l, e)).2 : Int) then (failS (numS (l, e)).1 3, 0) else numS (l, e) := rfl
  have hlt := numS_lt (l, e)
  generalize numS (l, e) = t at hN hS hlt
  obtain ⟨⟨l1, e1⟩, n⟩ := t
  have HS := Lib.hid hS
  have HN := Lib.hid hN
  simp only at hlt
  have HLT := Lib.hid hlt
  have HT := Lib.hid (takeW_new w l e)
  clear hN hS h hlt
  go_enter Try.func52, Try.ntmps52
  go_wp2_with fail
  refine (HN.out _).mono ?_
  rintro r w1 ⟨rfl, hb1⟩
  have hT1 := HT.out.keep hb1
  have HT1 := Lib.hid hT1
  obtain ⟨c0', c1', f0', f1', r0', r1', g0', g1', sz', bel'⟩ := hT1
  have sz0 : w.heap.size < w1.heap.size := by omega
  clear bel' hb1 HT HN
  unfold inV
  simp only
  by_cases hneg : most < 0
  · by_cases hbig : 0 < n
    · have hlt := HLT.out
      have HR := Lib.hid (show countS (l, e) most = (failS (l1, e1) 3, 0) by rw [HS.out, if_pos (by omega)])
      have HT2 := Lib.hid (HT1.out.set l1 (.int .i64 e1))
      go_wp2_with fail
      refine (refFail_any l1 e1 3 _).mono ?_
      rintro r w2 ⟨rfl, hb2⟩
      generalize failS (l1, e1) 3 = st at HR ⊢
      obtain ⟨l2, e2⟩ := st
      have hT3 := HT2.out.keep hb2
      have HT3 := Lib.hid hT3
      obtain ⟨d0', d1', p0', p1', s0', s1', q0', q1', tz', bel'⟩ := hT3
      clear bel' hb2 HT2 c0' c1' f0' f1' r0' r1' g0' g1'
      unfold inV
      go_wp2
      exact bodyPost_ret (v := .tuple #[.agg #[.string (bs l2), .int .i64 e2], .int .i64 0]) (by simp [results, Try.results52, go_sem, s0', s1']) rfl ⟨by rw [HR.out]; rfl, HT3.out.end0 _ _⟩
    · have HR := Lib.hid (show countS (l, e) most = ((l1, e1), n) by rw [HS.out, if_neg (by omega)])
      have HT2 := Lib.hid (HT1.out.set l1 (.int .i64 e1))
      go_wp2
      exact bodyPost_ret (v := .tuple #[.agg #[.string (bs l1), .int .i64 e1], .int .i64 n]) (by simp [results, Try.results52, go_sem, r0', r1']) rfl ⟨by rw [HR.out]; rfl, HT2.out.end0 _ _⟩
  · obtain ⟨m, rfl⟩ := Int.eq_ofNat_of_zero_le (show 0 ≤ most by omega)
    have hm : m ≤ 9223372036854775807 := by omega
    by_cases hbig : m < n
    · have hlt := HLT.out
      have HR := Lib.hid (show countS (l, e) m = (failS (l1, e1) 3, 0) by rw [HS.out, if_pos (by omega)])
      have HT2 := Lib.hid (HT1.out.set l1 (.int .i64 e1))
      go_wp2_with fail
      refine (refFail_any l1 e1 3 _).mono ?_
      rintro r w2 ⟨rfl, hb2⟩
      generalize failS (l1, e1) 3 = st at HR ⊢
      obtain ⟨l2, e2⟩ := st
      have hT3 := HT2.out.keep hb2
      have HT3 := Lib.hid hT3
      obtain ⟨d0', d1', p0', p1', s0', s1', q0', q1', tz', bel'⟩ := hT3
      clear bel' hb2 HT2 c0' c1' f0' f1' r0' r1' g0' g1'
      unfold inV
      go_wp2
      exact bodyPost_ret (v := .tuple #[.agg #[.string (bs l2), .int .i64 e2], .int .i64 0]) (by simp [results, Try.results52, go_sem, s0', s1']) rfl ⟨by rw [HR.out]; rfl, HT3.out.end0 _ _⟩
    · have HR := Lib.hid (show countS (l, e) m = ((l1, e1), n) by rw [HS.out, if_neg (by omega)])
      have HT2 := Lib.hid (HT1.out.set l1 (.int .i64 e1))
      go_wp2
      exact bodyPost_ret (v := .tuple #[.agg #[.string (bs l1), .int .i64 e1], .int .i64 n]) (by simp [results, Try.results52, go_sem, r0', r1']) rfl ⟨by rw [HR.out]; rfl, HT2.out.end0 _ _⟩
set_option maxHeartbeats 1000000 in
set_option maxRecDepth 100000 in
theorem refTakeInt_any (l : List UInt8) (e : Nat) (w : World) (hl : l.length ≤ 1000000000) (h : e ≠ 0 → l = []) :
    Calls Try.prog 77 #[.agg #[.string (bs l), .int .i64 e]] w fun r w' => r = .returned (.tuple #[inV (numS (l, e)).1, .int .i64 (unzig (numS (l, e)).2)]) ∧ Below w.heap.size w w' := by
  have hN := fun w => refTakeNum_any l e w hl h
  have hlt := numS_lt (l, e)
  generalize numS (l, e) = t at hN hlt ⊢
  obtain ⟨⟨l1, e1⟩, n⟩ := t
  have HN := Lib.hid hN
  simp only at hlt ⊢
  have HLT := Lib.hid hlt
  have HT := Lib.hid (takeW_new w l e)
  clear hN h hlt
  go_enter Try.func77, Try.ntmps77
  go_wp2_with fail
  refine (HN.out _).mono ?_
  rintro r w1 ⟨rfl, hb1⟩
  have hT1 := HT.out.keep hb1
  have HT2 := Lib.hid (hT1.set l1 (.int .i64 e1))
  obtain ⟨c0', c1', f0', f1', r0', r1', g0', g1', sz', bel'⟩ := hT1
  have sz0 : w.heap.size < w1.heap.size := by omega
  clear bel' hb1 HT HN
  unfold inV
  simp only
  have hlt := HLT.out
  by_cases hp : n % 2 = 1
  · have HP := Lib.hid (show unzig n = -1 - ((n / 2 : Nat) : Int) from if_pos hp)
    go_wp2
    exact bodyPost_ret (v := .tuple #[.agg #[.string (bs l1), .int .i64 e1], .int .i64 (-((n : Int) / 2) - 1)]) (by simp [results, Try.results77, go_sem, r0', r1']) rfl ⟨by rw [HP.out, show -((n : Int) / 2) - 1 = -1 - ((n / 2 : Nat) : Int) by omega]; rfl, HT2.out.end0 _ _⟩
  · have HP := Lib.hid (show unzig n = ((n / 2 : Nat) : Int) from if_neg hp)
    go_wp2
    exact bodyPost_ret (v := .tuple #[.agg #[.string (bs l1), .int .i64 e1], .int .i64 ((n : Int) / 2)]) (by simp [results, Try.results77, go_sem, r0', r1']) rfl ⟨by rw [HP.out, show ((n : Int) / 2) = ((n / 2 : Nat) : Int) by omega]; rfl, HT2.out.end0 _ _⟩
set_option maxHeartbeats 1000000 in
set_option maxRecDepth 100000 in
theorem refTakeStr_any (l : List UInt8) (e : Nat) (most : Int) (w : World) (hn : most ≤ 9223372036854775807) (hn' : -9223372036854775808 ≤ most) (hl : l.length ≤ 1000000000) (h : e ≠ 0 → l = []) :
    Calls Try.prog 115 #[.agg #[.string (bs l), .int .i64 e], .int .i64 most] w fun r w' => r = .returned (.tuple #[inV (strS (l, e) most).1, .string (bs (strS (l, e) most).2)]) ∧ Below w.heap.size w w' := by
  have hN := fun w => refTakeCount_any l e most w hn hn' hl h
  have hS : strS (l, e) most = rawS (countS (l, e) most).1 ((countS (l, e) most).2 : Int) := rfl
  have hok := countS_ok (l, e) most h hl
  generalize countS (l, e) most = t at hN hS hok
  obtain ⟨⟨l1, e1⟩, n⟩ := t
  have HS := Lib.hid hS
  have HN := Lib.hid hN
  have HOK := Lib.hid hok
  have HT := Lib.hid (takeW_new w l e)
  clear hN hS h hok
  go_enter Try.func115, Try.ntmps115
  go_wp2_with fail
  refine (HN.out _).mono ?_
  rintro r w1 ⟨rfl, hb1⟩
  have hT1 := HT.out.keep hb1
  have HT2 := Lib.hid (hT1.set l1 (.int .i64 e1))
  obtain ⟨c0', c1', f0', f1', r0', r1', g0', g1', sz', bel'⟩ := hT1
  have sz0 : w.heap.size < w1.heap.size := by omega
  clear bel' hb1 HT HN
  unfold inV
  simp only
  go_wp2_with fail
  refine (refRaw_any l1 e1 n _ HOK.out.2 HOK.out.1).mono ?_
  rintro r w2 ⟨rfl, hb2⟩
  have HS' := Lib.hid (show strS (l, e) most = rawS (l1, e1) (n : Int) from HS.out)
  generalize rawS (l1, e1) (n : Int) = st at HS' ⊢
  obtain ⟨⟨l2, e2⟩, m2⟩ := st
  have hT3 := HT2.out.keep hb2
  have HT3 := Lib.hid hT3
  obtain ⟨d0', d1', p0', p1', s0', s1', q0', q1', tz', bel'⟩ := hT3
  clear bel' hb2 HT2 c0' c1' f0' f1' r0' r1' g0' g1'
  unfold inV
  go_wp2
  exact bodyPost_ret (v := .tuple #[.agg #[.string (bs l2), .int .i64 e2], .string (bs m2)]) (by simp [results, Try.results115, go_sem, s0', s1']) rfl ⟨by rw [HS'.out]; rfl, HT3.out.end0 _ _⟩
theorem refEnd_any (l : List UInt8) (e : Nat) (w : World) (h : e ≠ 0 → l = []) :
    Calls Try.prog 23 #[.agg #[.string (bs l), .int .i64 e]] w fun r w' => r = .returned (.int .i64 ((endS (l, e)).2 : Nat)) ∧ Below w.heap.size w w' := by
  have ht : (bs l).toList = l := by rw [ByteArray.toList_eq, bs_list]
  by_cases he : e = 0
  · subst he
    cases l with
    | nil =>
      have hq : (bs []).toList = [] := by rw [ByteArray.toList_eq, bs_list]
      go_enter Try.func23, Try.ntmps23
      go_wp2
      go_ret
      exact ⟨rfl, (Below.refl _ _).alloc (Nat.le_refl _) _⟩
    | cons c r =>
      go_enter Try.func23, Try.ntmps23
      go_wp2
      go_ret
      exact ⟨rfl, (Below.refl _ _).alloc (Nat.le_refl _) _⟩
  · have heb : ((e : Int) == 0) = false := by simp; omega
    have HL := Lib.hid (h he)
    have HE := Lib.hid (show endS (l, e) = (l, e) by unfold endS; rw [if_neg (by rw [h he]; simp)])
    clear h he
    go_enter Try.func23, Try.ntmps23
    go_wp2
    go_ret
    exact ⟨by rw [HE.out]; rfl, (Below.refl _ _).alloc (Nat.le_refl _) _⟩
end Go.Proofs.Ytcbadcbnknmdnaa
namespace Go.Proofs.Ytcbadcbnknmdnaa
open Go.RowKit
set_option linter.unusedVariables false

abbrev St := List UInt8 × Nat
/-- Behind an error nothing is left; there is not too much. -/
def StOk (st : St) : Prop := (st.2 ≠ 0 → st.1 = []) ∧ st.1.length ≤ 1000000000
theorem countS_stOk {st : St} {most : Int} (h : StOk st) : StOk (countS st most).1 := countS_ok st most h.1 h.2
theorem numS_stOk {st : St} (h : StOk st) : StOk (numS st).1 := numS_ok st h.1 h.2
theorem failS_stOk {st : St} {x : Nat} (h : StOk st) : StOk (failS st x) := ⟨failS_ok st x h.1, by unfold failS; split; simp; exact h.2⟩
/-- An instruction. -/
def insS (st : St) : St × (Nat × Int) :=
  if hasA (countS st 22).2 then ((numS (countS st 22).1).1, ((countS st 22).2, unzig (numS (countS st 22).1).2))
  else (if (countS st 22).2 = 0 then failS (countS st 22).1 14 else (countS st 22).1, ((countS st 22).2, 0))
theorem countS_le (st : St) (most : Nat) : (countS st most).2 ≤ most := by
  unfold countS
  split
  · exact Nat.zero_le _
  · omega
theorem insS_stOk {st : St} (h : StOk st) : StOk (insS st).1 := by
  unfold insS
  split
  · exact numS_stOk (countS_stOk h)
  · split
    · exact failS_stOk (countS_stOk h)
    · exact countS_stOk h
/-- So many things, one behind the other. -/
def runS {α : Type} (f : St → St × α) : Nat → St → St × List α
  | 0, st => (st, [])
  | n + 1, st => ((f (runS f n st).1).1, (runS f n st).2 ++ [(f (runS f n st).1).2])
theorem runS_len {α : Type} (f : St → St × α) (n : Nat) (st : St) : (runS f n st).2.length = n := by
  induction n with
  | zero => rfl
  | succ n ih => simp [runS, ih]
theorem runS_stOk {α : Type} {f : St → St × α} (hf : ∀ st, StOk st → StOk (f st).1) (n : Nat) {st : St} (h : StOk st) : StOk (runS f n st).1 := by
  induction n with
  | zero => exact h
  | succ n ih => exact hf _ ih
/-- A function. -/
def fnS (st : St) : St × Fn :=
  ((runS insS (countS (countS (countS st 16).1 16).1 128).2 (countS (countS (countS st 16).1 16).1 128).1).1,
   ⟨((countS st 16).2 : Nat), ((countS (countS st 16).1 16).2 : Nat), (runS insS (countS (countS (countS st 16).1 16).1 128).2 (countS (countS (countS st 16).1 16).1 128).1).2⟩)
/-- An image: the functions, the error. -/
def parseS (l : List UInt8) : List Fn × Nat :=
  if (endS (runS fnS (countS (l, 0) 16).2 (countS (l, 0) 16).1).1).2 ≠ 0 then ([], (endS (runS fnS (countS (l, 0) 16).2 (countS (l, 0) 16).1).1).2)
  else ((runS fnS (countS (l, 0) 16).2 (countS (l, 0) 16).1).2, 0)
theorem InSt.stOk {w : World} {b : Nat} {st : St} (h : InSt w b st) : StOk st := ⟨h.2.2.2.2.2.1, h.2.2.2.2.1⟩
theorem InTo.trans {w w1 w2 : World} {b : Nat} {st st' : St} (h : InTo w b st w1) (h' : InTo w1 b st' w2) : InTo w b st' w2 := ⟨h'.1, h.2.trans h'.2⟩
theorem InSt.alloc {w : World} {b : Nat} {st : St} (h : InSt w b st) (o : Obj) : InSt (w.alloc o) b st := h.below ((Below.refl _ _).alloc (Nat.le_refl _) _)
theorem InTo.alloc0 {w w1 : World} {b : Nat} {st : St} {o : Obj} (h : InTo (w.alloc o) b st w1) : InTo w b st w1 := ⟨h.1, ((Touch.refl _ w).alloc o).trans h.2⟩
/-- What a store into a block of the call's own leaves of a reader. -/
theorem InTo.set2 {w w1 : World} {b B : Nat} {st : St} (h : InTo w b st w1) (hB : w.heap.size ≤ B) (hb : b < w.heap.size) (u v : Value) : InTo w b st ((w1.setCell ⟨B, 0, none⟩ u).setCell ⟨B, 1, none⟩ v) := by
  have ht : Touch (fun k => k = B) w1 ((w1.setCell ⟨B, 0, none⟩ u).setCell ⟨B, 1, none⟩ v) := ((Touch.refl (fun k => k = B) w1).setCell (p := ⟨B, 0, none⟩) (fun _ => rfl) _).setCell (p := ⟨B, 1, none⟩) (fun _ => rfl) _
  exact ⟨h.1.touch ht (by omega), h.2.trans' ht (fun k hk e => by omega)⟩
/-- The call's result lies as it was laid, behind calls of the reader. -/
theorem new2 {w w1 : World} {b : Nat} {x y : Value} {t : TypeId} (hb : b < w.heap.size) (h : Touch (fun k => k = b) (w.alloc (.cells #[x, y] t)) w1) :
    w1.cell? ⟨w.heap.size, 0, none⟩ = some x ∧ w1.cell? ⟨w.heap.size, 1, none⟩ = some y ∧ w1.frozen? ⟨w.heap.size, 0, none⟩ = false ∧ w1.frozen? ⟨w.heap.size, 1, none⟩ = false ∧ w.heap.size < w1.heap.size := by
  have hne : ¬ w.heap.size = b := by omega
  have hz := h.size
  exact ⟨(h.cell (p := ⟨w.heap.size, 0, none⟩) (by simp) hne).trans (by simp), (h.cell (p := ⟨w.heap.size, 1, none⟩) (by simp) hne).trans (by simp), (h.frozen (p := ⟨w.heap.size, 0, none⟩) (by simp) hne).trans (frozen_new _ _ _ _), (h.frozen (p := ⟨w.heap.size, 1, none⟩) (by simp) hne).trans (frozen_new _ _ _ _), by simp at hz; omega⟩
end Go.Proofs.Ytcbadcbnknmdnaa
namespace Go.Proofs.Ytcbadcbnknmdnaa
open Go.RowKit
set_option linter.unusedVariables false

/-- A row of records of the call's own, in blocks from B on. -/
def OwnRec (e : TypeId) (k B : Nat) (a : Option Addr) (c : Nat) (ls : List (List Int)) (w' : World) : Prop :=
  w'.ownsRow 0 e k (.slice a ls.length c) ls.length (recCells ls) ∧ (∀ x, a = some x → B ≤ x.block)
theorem OwnRec.touch {S : Nat → Prop} {e : TypeId} {k B : Nat} {w1 w2 : World} {a : Option Addr} {c : Nat} {ls : List (List Int)} (h : OwnRec e k B a c ls w1) (ht : Touch S w1 w2) (hs : ∀ j, B ≤ j → ¬ S j) : OwnRec e k B a c ls w2 :=
  ⟨own_touchR h.1 ht (fun k hk => by
    cases a with
    | none => simp [Value.ownBlock] at hk
    | some x => simp [Value.ownBlock] at hk; subst hk; exact hs _ (h.2 x rfl)), h.2⟩
theorem OwnRec.one {w1 : World} {t u ty e : TypeId} {k B : Nat} {z : Value} (H : RecTy e k z) (ht : Try.prog.underlying t = some (.slice e)) (hu : Try.prog.underlying u = some (.slice e)) {a1 : Option Addr} {c1 : Nat} {l : List (List Int)} (h : OwnRec e k B a1 c1 l w1) (hB : B ≤ w1.heap.size) (x : List Int) (hx : x.length = k) (hl : l.length + 1 ≤ 1000000) :
    ∃ a' c' w', (Builtin.append_ #[t, u] ty #[.slice a1 l.length c1, .slice (some ⟨w1.heap.size, 0, none⟩) 1 1]).run Try.prog (w1.alloc (.cells ((x.map (Value.int .i64)).toArray) e)) = .ok (.slice a' (l.length + 1) c') w' ∧ OwnRec e k B a' c' (l ++ [x]) w' ∧ Touch (fun b => B ≤ b) w1 w' := by
  have hb : Below w1.heap.size w1 (w1.alloc (.cells ((x.map (Value.int .i64)).toArray) e)) := (Below.refl _ _).alloc (Nat.le_refl _) _
  have hw : Wide k [x] := by intro y hy; simp at hy; rw [hy]; exact hx
  obtain ⟨a', c', w', hrun, ho, hg, hf⟩ := rec_append (ty := ty) H ht hu hw (h.1.alloc (.cells ((x.map (Value.int .i64)).toArray) e)) (some ⟨w1.heap.size, 0, none⟩) 1 (RecRow.lit w1 [x] hw ((x.map (Value.int .i64)).toArray) e (by simp [recCells])) (fun h => by cases h) (by simpa using hl)
  refine ⟨a', c', w', hrun, ⟨by rw [List.length_append] at ho ⊢; exact ho, fun y hy => ?_⟩, ((Touch.refl _ w1).alloc _).trans ((touch_grown hg).mono fun b hb h' => ?_)⟩
  · subst hy
    rcases hf y.block (by simp [Value.ownBlock]) with h' | h'
    · cases a1 with
      | none => simp [Value.ownBlock] at h'
      | some z => simp [Value.ownBlock] at h'; have := h.2 z rfl; omega
    · simp at h'; omega
  · cases a1 with
    | none => simp [Value.ownBlock] at h'
    | some z => simp [Value.ownBlock] at h'; have := h.2 z rfl; omega
/-- An order, as the reader takes it. -/
def orderS (st : St) : St × Ord :=
  (failS (numS (numS (countS (countS st 4).1 1099511627776).1).1).1 (checkN ⟨((countS st 4).2 : Nat), ((countS (countS st 4).1 1099511627776).2 : Nat), unzig (numS (countS (countS st 4).1 1099511627776).1).2, unzig (numS (numS (countS (countS st 4).1 1099511627776).1).1).2⟩),
   ⟨((countS st 4).2 : Nat), ((countS (countS st 4).1 1099511627776).2 : Nat), unzig (numS (countS (countS st 4).1 1099511627776).1).2, unzig (numS (numS (countS (countS st 4).1 1099511627776).1).1).2⟩)
def batchS (st : St) : St × List Ord := runS orderS (countS st 8).2 (countS st 8).1
/-- What Read leaves. -/
def OReadPost (w : World) (b : Nat) (t : St × List Ord) (r : Ending) (w' : World) : Prop :=
  ∃ a c, r = .returned (.slice a (if t.1.2 = 0 then t.2 else []).length c) ∧ InTo w b t.1 w' ∧ OrdRow w' a (if t.1.2 = 0 then t.2 else []) ∧ (∀ x, a = some x → w.heap.size ≤ x.block)
theorem made_ord (u : World) (n : Nat) (hn : n ≤ 8) : (Instr.makeSlice 50 (.int .i64 0) (.int .i64 (n : Int))).run Try.prog u = .ok (.slice (some ⟨u.heap.size, 0, none⟩) 0 n) (u.alloc (.cells (madeCells #[.int .i64 0, .int .i64 0, .int .i64 0, .int .i64 0] (n * 4)) 158)) := by
  obtain ⟨i0, hi, hz0, hz1, hz2⟩ := info_is ordTy.info
  have := run_make (P := Try.prog) u 50 158 i0 _ Try.underlying50 hi hz0 .i64 .i64 0 (n : Int) (by omega) (by omega) (by rw [hz2]; omega) (by omega)
  rw [hz1] at this
  exact this
structure RdMem (w : World) (b : Nat) (st : St) (l : List Ord) (a : Option Addr) (c : Nat) (wr : World) : Prop where
  inst : InSt wr b st
  row : OwnRec 158 4 w.heap.size a c (ordsI l) wr
  tch : Touch (fun k => k = b) w wr
  hb : b < w.heap.size
theorem RdMem.step {w : World} {b : Nat} {sq s4 s5 : St} {l : List Ord} {a : Option Addr} {c : Nat} {wr wd we wf : World} {o : Ord} (h : RdMem w b sq l a c wr) (h4 : InTo wr b s4 wd) (he : Below (wd.alloc (.cells #[.int .i64 o.kind, .int .i64 o.unit, .int .i64 o.a, .int .i64 o.b] 158)).heap.size (wd.alloc (.cells #[.int .i64 o.kind, .int .i64 o.unit, .int .i64 o.a, .int .i64 o.b] 158)) we) (h5 : InTo we b s5 wf) (hl : l.length ≤ 1000) :
    wf.cell? ⟨wd.heap.size, 0, none⟩ = some (.int .i64 o.kind) ∧ wf.cell? ⟨wd.heap.size, 1, none⟩ = some (.int .i64 o.unit) ∧ wf.cell? ⟨wd.heap.size, 2, none⟩ = some (.int .i64 o.a) ∧ wf.cell? ⟨wd.heap.size, 3, none⟩ = some (.int .i64 o.b) ∧
    ∃ a' c' w', (Builtin.append_ #[50, 50] 50 #[.slice a l.length c, .slice (some ⟨wf.heap.size, 0, none⟩) 1 1]).run Try.prog (wf.alloc (.cells #[.int .i64 o.kind, .int .i64 o.unit, .int .i64 o.a, .int .i64 o.b] 158)) = .ok (.slice a' (l.length + 1) c') w' ∧ RdMem w b s5 (l ++ [o]) a' c' w' := by
  obtain ⟨hi, hrow, ht, hb⟩ := h
  have z1 := ht.size
  have z2 := h4.2.size
  have z3 := he.size
  have z4 := h5.2.size
  simp at z3
  have tde : Touch (fun k => k = b) wd we := ((Touch.refl _ wd).alloc _).trans (touch_of_below he)
  have tdf : Touch (fun k => k = b) wd wf := tde.trans h5.2
  have kc : ∀ j v, (wd.alloc (.cells #[.int .i64 o.kind, .int .i64 o.unit, .int .i64 o.a, .int .i64 o.b] 158)).cell? ⟨wd.heap.size, j, none⟩ = some v → wf.cell? ⟨wd.heap.size, j, none⟩ = some v := fun j v hv =>
    (h5.2.cell (p := ⟨wd.heap.size, j, none⟩) (by show wd.heap.size < _; omega) (by show ¬ wd.heap.size = b; omega)).trans ((he.cell (p := ⟨wd.heap.size, j, none⟩) (by simp)).trans hv)
  have hrow' : OwnRec 158 4 w.heap.size a c (ordsI l) wf := hrow.touch (h4.2.trans tdf) (fun j hj e => by omega)
  obtain ⟨a', c', w', hrun, hnew, htch⟩ := hrow'.one (t := 50) (u := 50) (ty := 50) ordTy Try.underlying50 Try.underlying50 (by omega) o.ints rfl (by rw [ordsI_len]; omega)
  rw [ordsI_len] at hrun
  refine ⟨kc _ _ (by simp), kc _ _ (by simp), kc _ _ (by simp), kc _ _ (by simp), a', c', w', hrun, h5.1.touch htch (by omega), ?_, ((ht.trans h4.2).trans tdf).trans' htch (fun j hj e => by omega), hb⟩
  rw [ordsI_append]
  exact hnew
set_option maxRecDepth 100000 in
set_option maxHeartbeats 4000000 in
theorem ordRead_any (b : Nat) (st : St) (w : World) (h : InSt w b st) : Calls Try.prog 60 #[.pointer (some ⟨b, 0, none⟩)] w (OReadPost w b (batchS st)) := by
  have hb := h.lt
  have HC1 := Lib.hid (count_any b st.1 st.2 8 w (by decide) (by decide) h)
  have hq := countS_le st 8
  have hpost : OReadPost w b (batchS st) = OReadPost w b (runS orderS (countS st 8).2 (countS st 8).1) := rfl
  generalize OReadPost w b (batchS st) = Post at hpost
  have HPost := Lib.hid hpost
  clear h hpost
  generalize countS st 8 = t1 at HC1 hq HPost
  obtain ⟨st1, n⟩ := t1
  simp only at hq HPost
  have hmk := fun u => made_ord u n hq
  go_enter Try.func60, Try.ntmps60
  go_wp2_with fail
  refine HC1.out.mono ?_
  rintro r w1 ⟨rfl, hi1⟩
  have HM : Hid (RdMem w b st1 [] (some ⟨w1.heap.size, 0, none⟩) n (w1.alloc (.cells (madeCells #[.int .i64 0, .int .i64 0, .int .i64 0, .int .i64 0] (n * 4)) 158))) := Lib.hid
    ⟨hi1.1.alloc _, ⟨World.ownsRow_made w1 _ n (Nat.zero_le _) (by unfold maxLen; omega) (size_madeCells _ _), fun x hx => by cases hx; exact hi1.2.size⟩, hi1.2.alloc _, hb⟩
  clear hi1 HC1
  generalize madeCells #[.int .i64 0, .int .i64 0, .int .i64 0, .int .i64 0] (n * 4) = Z at HM hmk
  go_wp2
  go_loopw [4, 11] (fun v i wr => ∃ (k : Nat) (a : Option Addr) (c : Nat), k ≤ n ∧ v = .slice a k c ∧ i = .int .i64 k ∧ Hid (RdMem w b (runS orderS k st1).1 (runS orderS k st1).2 a c wr)) (fun _ i _ => n - (intOf i).toNat)
  case atStart => exact ⟨0, _, _, by omega, rfl, rfl, HM⟩
  case round =>
    obtain ⟨k, a, c, hk, rfl, rfl, HR⟩ := hrel
    have hln := runS_len orderS k st1
    by_cases hlt : k < n
    · have HN : Hid (runS orderS (k + 1) st1 = ((orderS (runS orderS k st1).1).1, (runS orderS k st1).2 ++ [(orderS (runS orderS k st1).1).2])) := Lib.hid rfl
      generalize runS orderS k st1 = q at HR HN hln
      obtain ⟨sq, lq⟩ := q
      simp only at HR HN hln
      have hO : orderS sq = (failS (numS (numS (countS (countS sq 4).1 1099511627776).1).1).1 (checkN ⟨((countS sq 4).2 : Nat), ((countS (countS sq 4).1 1099511627776).2 : Nat), unzig (numS (countS (countS sq 4).1 1099511627776).1).2, unzig (numS (numS (countS (countS sq 4).1 1099511627776).1).1).2⟩),
        ⟨((countS sq 4).2 : Nat), ((countS (countS sq 4).1 1099511627776).2 : Nat), unzig (numS (countS (countS sq 4).1 1099511627776).1).2, unzig (numS (numS (countS (countS sq 4).1 1099511627776).1).1).2⟩) := rfl
      have HA := Lib.hid (count_any b sq.1 sq.2 4 wr (by decide) (by decide) HR.out.inst)
      have hle := countS_le sq 4
      generalize countS sq 4 = t1 at HA hO hle
      obtain ⟨s1, n1⟩ := t1
      simp only at hO hle
      have hB := fun (w' : World) (h' : InSt w' b s1) => count_any b s1.1 s1.2 1099511627776 w' (by decide) (by decide) h'
      generalize countS s1 1099511627776 = t2 at hB hO
      obtain ⟨s2, n2⟩ := t2
      simp only at hO
      have hC := fun (w' : World) (h' : InSt w' b s2) => inInt_any b s2.1 s2.2 w' h'
      generalize numS s2 = t3 at hC hO
      obtain ⟨s3, n3⟩ := t3
      simp only at hO
      have hD := fun (w' : World) (h' : InSt w' b s3) => inInt_any b s3.1 s3.2 w' h'
      generalize numS s3 = t4 at hD hO
      obtain ⟨s4, n4⟩ := t4
      simp only at hO
      have HB := Lib.hid hB
      have HC := Lib.hid hC
      have HD := Lib.hid hD
      have HO := Lib.hid hO
      clear hB hC hD hO
      go_wp2_with fail
      refine HA.out.mono ?_
      rintro r wa ⟨rfl, hia⟩
      have HIA := Lib.hid hia
      clear hia HA
      go_wp2_with fail
      refine (HB.out _ HIA.out.1).mono ?_
      rintro r wb ⟨rfl, hib⟩
      have HIB := Lib.hid (HIA.out.trans hib)
      clear hib HB HIA
      go_wp2_with fail
      refine (HC.out _ HIB.out.1).mono ?_
      rintro r wc ⟨rfl, hic⟩
      have HIC := Lib.hid (HIB.out.trans hic)
      clear hic HC HIB
      go_wp2_with fail
      refine (HD.out _ HIC.out.1).mono ?_
      rintro r wd ⟨rfl, hid⟩
      have HID := Lib.hid (HIC.out.trans hid)
      clear hid HD HIC
      simp only
      generalize unzig n3 = y3 at HO ⊢
      generalize unzig n4 = y4 at HO ⊢
      have HCK := Lib.hid (fun W => ordCheck_any ⟨(n1 : Int), (n2 : Int), y3, y4⟩ W)
      have hcl := checkN_le ⟨(n1 : Int), (n2 : Int), y3, y4⟩
      generalize checkN ⟨(n1 : Int), (n2 : Int), y3, y4⟩ = x at HCK hcl HO
      unfold ordV at HCK
      simp only at HCK
      go_wp2_with fail
      refine (HCK.out _).mono ?_
      rintro r we ⟨rfl, hbe⟩
      have HBE := Lib.hid hbe
      have HF := Lib.hid (fail_any b s4.1 s4.2 x we (by omega) (((HID.out.1).alloc _).below hbe))
      clear hbe HCK
      go_wp2_with fail
      refine HF.out.mono ?_
      rintro r wf ⟨rfl, hif⟩
      have hx := HR.out.step (o := ⟨(n1 : Int), (n2 : Int), y3, y4⟩) HID.out HBE.out hif (by omega)
      rw [hln] at hx
      obtain ⟨c0, c1, c2, c3, a', c', w', hrun, hmem⟩ := hx
      have HRUN := Lib.hid hrun
      have HMEM := Lib.hid hmem
      have HLN := Lib.hid hln
      have hwl : wd.heap.size < wf.heap.size := block_lt_of_cell c0
      clear hif HF HBE hrun hmem hln
      simp only at c0 c1 c2 c3 HRUN
      go_wp2_with (at_builtin; refine wpList_append_run _ rfl (.tmp 26) (.tmp 28) 50 50 rfl _ _ rfl rfl (.slice a' (k + 1) c') w' HRUN.out ?_)
      go_roundw
      case rel => exact ⟨k + 1, a', c', by omega, rfl, by go_num, Lib.hid (by rw [HN.out, HO.out]; exact HMEM.out)⟩
      case measure => simp [intOf]; omega
    · obtain rfl : n = k := by omega
      have HE := Lib.hid (err_any b _ _ wr HR.out.inst)
      have HLN := Lib.hid hln
      clear hln
      generalize runS orderS n st1 = q at HR HE HLN HPost
      obtain ⟨⟨ls, e⟩, lq⟩ := q
      simp only at HR HE HLN
      by_cases he : e = 0
      · subst he
        go_wp2_with fail
        refine HE.out.mono ?_
        rintro r w2 ⟨rfl, rfl⟩
        go_wp2
        rw [HPost.out]
        refine ⟨a, c, ?_, ⟨HR.out.inst, HR.out.tch⟩, ?_, HR.out.row.2⟩
        · rw [if_pos rfl, HLN.out]; rfl
        · rw [if_pos rfl]
          exact RecRow.of_own (ordsI_wide _) (by decide) HR.out.row.1
      · have heb : ((e : Int) != 0) = true := by simp; omega
        have HEN := Lib.hid he
        clear he
        go_wp2_with fail
        refine HE.out.mono ?_
        rintro r w2 ⟨rfl, rfl⟩
        go_wp2
        rw [HPost.out]
        refine ⟨none, 0, ?_, ⟨HR.out.inst, HR.out.tch⟩, ?_, fun x hx => by cases hx⟩
        · rw [if_neg HEN.out]; rfl
        · rw [if_neg HEN.out]
          intro h0
          simp [ordsI] at h0
end Go.Proofs.Ytcbadcbnknmdnaa
namespace Go.Proofs.Ytcbadcbnknmdnaa
open Go.RowKit
set_option linter.unusedVariables false

/-- A piece of a snapshot. -/
structure Pc where
  turn : Int
  bytes : Int
  hash : Nat
  n : Int
  text : List UInt8
def pcV (p : Pc) : Value := .agg #[.int .i64 p.turn, .int .i64 p.bytes, .int .u64 (p.hash : Int), .int .i64 p.n, .string (bs p.text)]
def pcCells (p : Pc) : List Value := [.int .i64 p.turn, .int .i64 p.bytes, .int .u64 (p.hash : Int), .int .i64 p.n, .string (bs p.text)]
def countP (b : Int) : Int := if b < 1 then 0 else (b - 1) / 100 + 1
theorem chCount_any (b : Int) (hb : B64 b) (w : World) : Calls Try.prog 85 #[.int .i64 b] w fun r w' => r = .returned (.int .i64 (countP b)) ∧ w = w' := by
  unfold B64 at hb
  by_cases h : b < 1
  · have HC := Lib.hid (show countP b = 0 from if_pos h)
    have hd : decide (b < 1) = true := by simpa using h
    go_enter Try.func85, Try.ntmps85
    go_wp2
    go_ret
    exact ⟨by rw [HC.out]; rfl, rfl⟩
  · have HC := Lib.hid (show countP b = (b - 1) / 100 + 1 from if_neg h)
    have hd : decide (b < 1) = false := by simpa using h
    have h1 : IntKind.i64.wrap (b - 1) = b - 1 := by rw [IntKind.wrap_i64]; omega
    have h2 : (b - 1).tdiv 100 = (b - 1) / 100 := Int.tdiv_eq_ediv_of_nonneg (by omega)
    have h3 : IntKind.i64.wrap ((b - 1) / 100) = (b - 1) / 100 := by rw [IntKind.wrap_i64]; omega
    have h4 : IntKind.i64.wrap ((b - 1) / 100 + 1) = (b - 1) / 100 + 1 := by rw [IntKind.wrap_i64]; omega
    go_enter Try.func85, Try.ntmps85
    go_wp2
    go_ret
    exact ⟨by rw [HC.out]; rfl, rfl⟩
theorem refCount11_any (b : Int) (hb : b ≤ 1000000) (hb2 : -9223372036854775808 ≤ b) (w : World) : Calls Try.prog 120 #[.int .i64 b] w fun r w' => r = .returned (.int .i64 (countP b)) ∧ w = w' := by
  go_enter Try.func120, Try.ntmps120
  go_wp2
  go_loopw [3, 4] (fun nv iv wr => ∃ k : Nat, nv = .int .i64 k ∧ iv = .int .i64 ((100 * k : Nat) : Int) ∧ (k = 0 ∨ 100 * ((k : Int) - 1) < b) ∧ wr = w) (fun nv _ _ => 10001 - (intOf nv).toNat)
  case atStart => exact ⟨0, rfl, rfl, .inl rfl, (by first | rfl | trivial)⟩
  case round =>
    obtain ⟨k, rfl, rfl, hk, rfl⟩ := hrel
    by_cases h : ((100 * k : Nat) : Int) < b
    · go_wp2
      go_roundw
      case rel => exact ⟨k + 1, by go_num, by go_num, .inr (by omega), (by first | rfl | trivial)⟩
      case measure => simp [intOf]; omega
    · have hd : decide (((100 * k : Nat) : Int) < b) = false := by simpa using h
      have HC := Lib.hid (show countP b = (k : Int) by unfold countP; split <;> omega)
      go_wp2
      go_ret
      exact ⟨by rw [HC.out]; rfl, rfl⟩
end Go.Proofs.Ytcbadcbnknmdnaa
namespace Go.Proofs.Ytcbadcbnknmdnaa
open Go.RowKit
set_option linter.unusedVariables false

/-- At block b bytes grow; the blocks of K, which are there, are none of theirs. -/
def OutQ (K : Nat → Prop) (b : Nat) (l : List UInt8) (w : World) : Prop := OutK K b l w ∧ ∀ k, K k → k < w.heap.size
/-- Those of K, and those that were laid since. -/
def KK (K : Nat → Prop) (wp W : World) (k : Nat) : Prop := K k ∨ (wp.heap.size ≤ k ∧ k < W.heap.size)
def QPost (K : Nat → Prop) (b : Nat) (l : List UInt8) (wp W : World) (r : Ending) (w' : World) : Prop :=
  r = .returned (.pointer (some ⟨b, 0, none⟩)) ∧ OutQ (KK K wp W) b l w' ∧ Touch (fun k => ¬ KK K wp W k) W w'
theorem OutQ.lt {K : Nat → Prop} {w : World} {b : Nat} {l : List UInt8} (h : OutQ K b l w) : b < w.heap.size := h.1.lt
theorem OutQ.not {K : Nat → Prop} {w : World} {b : Nat} {l : List UInt8} (h : OutQ K b l w) : ¬ K b := by obtain ⟨⟨v, -, h2, -⟩, -⟩ := h; exact h2
theorem OutQ.below {K : Nat → Prop} {w w' : World} {b : Nat} {l : List UInt8} (h : OutQ K b l w) (hb : Below w.heap.size w w') : OutQ K b l w' :=
  ⟨h.1.below hb, fun k hk => Nat.lt_of_lt_of_le (h.2 k hk) hb.size⟩
theorem OutQ.sub {K K' : Nat → Prop} {w : World} {b : Nat} {l : List UInt8} (h : OutQ K' b l w) (hs : ∀ k, K k → K' k) : OutQ K b l w := ⟨h.1.sub hs, fun k hk => h.2 k (hs k hk)⟩
/-- A block that is new is none of theirs. -/
theorem OutQ.add {K : Nat → Prop} {w : World} {b : Nat} {l : List UInt8} (h : OutQ K b l w) (o : Obj) : OutQ (fun k => K k ∨ k = w.heap.size) b l (w.alloc o) :=
  ⟨h.1.add o, fun k hk => by rcases hk with hk | hk; have := h.2 k hk; simp; omega; simp; omega⟩
theorem OutQ.start {K : Nat → Prop} (w : World) (t : TypeId) (hK : ∀ k, K k → k < w.heap.size) : OutQ K w.heap.size [] (w.alloc (.cells #[.slice none 0 0] t)) :=
  ⟨OutK.start w t hK, fun k hk => by have := hK k hk; simp; omega⟩
theorem bel_alloc {w0 w : World} (h : Below w0.heap.size w0 w) (o : Obj) : Below w0.heap.size w0 (w.alloc o) := h.alloc h.size o
theorem OutQ.step {K : Nat → Prop} {wp W w' : World} {b : Nat} {l l' : List UInt8} {v : Value} (h1 : OutAt wp b v l) (h2 : ¬ K b) (h3 : ∀ k, v.ownBlock = some k → ¬ K k) (hK : ∀ k, K k → k < wp.heap.size) (hb : Below wp.heap.size wp W) (ho : OutTo W b v l' w') :
    OutQ (KK K wp W) b l' w' ∧ Touch (fun k => ¬ KK K wp W k) W w' := by
  obtain ⟨v', g1, g2, g3⟩ := ho
  have hz := hb.size
  have hz' := g3.size
  have hlt := h1.lt
  have nb : ¬ KK K wp W b := by
    rintro (h | h)
    · exact h2 h
    · omega
  have nv : ∀ k, v.ownBlock = some k → ¬ KK K wp W k := by
    intro k hk
    have := h1.fresh k hk
    rintro (h | h)
    · exact h3 k hk h
    · omega
  refine ⟨⟨⟨v', g1, nb, fun k hk => ?_⟩, fun k hk => ?_⟩, g3.mono fun k hk h => ?_⟩
  · rcases g2 k hk with h | h
    · exact nv k h
    · rintro (h' | h')
      · have := hK k h'; omega
      · omega
  · rcases hk with h | h
    · have := hK k h; omega
    · omega
  · rcases h with rfl | h
    · exact nb
    · exact nv k h
theorem OutQ.apart {K : Nat → Prop} {wp : World} {b g : Nat} {l : List UInt8} {v : Value} (h1 : OutAt wp b v l) (h2 : ¬ K b) (h3 : ∀ k, v.ownBlock = some k → ¬ K k) (hg : K g ∨ wp.heap.size ≤ g) : g ≠ b ∧ v.ownBlock ≠ some g := by
  have hlt := h1.lt
  refine ⟨fun e => ?_, fun e => ?_⟩
  · subst e
    rcases hg with h | h
    · exact h2 h
    · omega
  · have := h1.fresh g e
    rcases hg with h | h
    · exact h3 g e h
    · omega
theorem outNum_q {K : Nat → Prop} {b : Nat} {l : List UInt8} {wp W : World} (h : OutQ K b l wp) (ns : List Nat) (hl : l.length + 10 * ns.length ≤ 1000000000) (hns : ∀ x ∈ ns, x < 18446744073709551616) (hb : Below wp.heap.size wp W) (g off n cap : Nat) (hn : n = ns.length)
    (hr : IntRow .u64 W (some ⟨g, off, none⟩) (ns.map fun (x : Nat) => (x : Int))) (hg : K g ∨ wp.heap.size ≤ g) :
    Calls Try.prog 79 #[.pointer (some ⟨b, 0, none⟩), .slice (some ⟨g, off, none⟩) n cap] W (QPost K b (l ++ numsB ns) wp W) := by
  subst hn
  obtain ⟨⟨v, h1, h2, h3⟩, hK⟩ := h
  refine (outNum_any b v l (some ⟨g, off, none⟩) cap ns W (h1.below hb) hl hns hr (fun x hx => by cases hx; exact OutQ.apart h1 h2 h3 hg)).mono ?_
  rintro r w' ⟨rfl, ho⟩
  exact ⟨rfl, OutQ.step h1 h2 h3 hK hb ho⟩
theorem outInt_q {K : Nat → Prop} {b : Nat} {l : List UInt8} {wp W : World} (h : OutQ K b l wp) (ns : List Int) (hl : l.length + 10 * ns.length ≤ 1000000000) (hns : ∀ x ∈ ns, -9223372036854775808 ≤ x ∧ x ≤ 9223372036854775807) (hb : Below wp.heap.size wp W) (g off n cap : Nat) (hn : n = ns.length)
    (hr : IntRow .i64 W (some ⟨g, off, none⟩) ns) (hg : K g ∨ wp.heap.size ≤ g) :
    Calls Try.prog 80 #[.pointer (some ⟨b, 0, none⟩), .slice (some ⟨g, off, none⟩) n cap] W (QPost K b (l ++ intsB ns) wp W) := by
  subst hn
  obtain ⟨⟨v, h1, h2, h3⟩, hK⟩ := h
  refine (outInt_any b v l (some ⟨g, off, none⟩) cap ns W (h1.below hb) hl hns hr (fun x hx => by cases hx; exact OutQ.apart h1 h2 h3 hg)).mono ?_
  rintro r w' ⟨rfl, ho⟩
  exact ⟨rfl, OutQ.step h1 h2 h3 hK hb ho⟩
theorem outCount_q {K : Nat → Prop} {b : Nat} {l : List UInt8} {wp W : World} (h : OutQ K b l wp) (ns : List Int) (hl : l.length + 10 * ns.length ≤ 1000000000) (hns : ∀ x ∈ ns, x ≤ 9223372036854775807) (hb : Below wp.heap.size wp W) (g off n cap : Nat) (hn : n = ns.length)
    (hr : IntRow .i64 W (some ⟨g, off, none⟩) ns) (hg : K g ∨ wp.heap.size ≤ g) :
    Calls Try.prog 55 #[.pointer (some ⟨b, 0, none⟩), .slice (some ⟨g, off, none⟩) n cap] W (QPost K b (l ++ countsB ns) wp W) := by
  subst hn
  obtain ⟨⟨v, h1, h2, h3⟩, hK⟩ := h
  refine (outCount_any b v l (some ⟨g, off, none⟩) cap ns W (h1.below hb) hl hns hr (fun x hx => by cases hx; exact OutQ.apart h1 h2 h3 hg)).mono ?_
  rintro r w' ⟨rfl, ho⟩
  exact ⟨rfl, OutQ.step h1 h2 h3 hK hb ho⟩
theorem outText_q {K : Nat → Prop} {b : Nat} {l : List UInt8} {w : World} (h : OutQ K b l w) :
    Calls Try.prog 27 #[.pointer (some ⟨b, 0, none⟩)] w fun r w' => r = .returned (.string (bs l)) ∧ w = w' := outText_k K b l w h.1
theorem intRow1 {k : IntKind} {w : World} {g off : Nat} {x : Int} (h : w.cell? ⟨g, off, none⟩ = some (.int k x)) : IntRow k w (some ⟨g, off, none⟩) [x] := fun _ => ⟨g, off, rfl, fun i hi => by
  have : i = 0 := by simpa using hi
  subst this
  exact h⟩
theorem intRow2 {k : IntKind} {w : World} {g off : Nat} {x y : Int} (h : w.cell? ⟨g, off, none⟩ = some (.int k x) ∧ w.cell? ⟨g, off + 1, none⟩ = some (.int k y)) : IntRow k w (some ⟨g, off, none⟩) [x, y] := fun _ => ⟨g, off, rfl, fun i hi => by
  have : i = 0 ∨ i = 1 := by simp at hi; omega
  rcases this with rfl | rfl
  · exact h.1
  · exact h.2⟩
theorem keep_cell {S : Nat → Prop} {W w' : World} (ht : Touch (fun k => ¬ S k) W w') {g j : Nat} (hg : S g) {v : Value} (h : W.cell? ⟨g, j, none⟩ = some v) : w'.cell? ⟨g, j, none⟩ = some v :=
  (ht.cell (p := ⟨g, j, none⟩) (block_lt_of_cell h) (fun hn => hn hg)).trans h
theorem alloc_cell {W : World} {g j : Nat} {v : Value} (h : W.cell? ⟨g, j, none⟩ = some v) (o : Obj) : (W.alloc o).cell? ⟨g, j, none⟩ = some v :=
  (((Below.refl _ W).alloc (Nat.le_refl _) o).cell (p := ⟨g, j, none⟩) (block_lt_of_cell h)).trans h
theorem new_cell {W : World} {cells : Array Value} {t : TypeId} {k j : Nat} {v : Value} (hk : k = W.heap.size) (hv : cells[j]? = some v) : (W.alloc (.cells cells t)).cell? ⟨k, j, none⟩ = some v := by
  subst hk
  rw [World.cell?_alloc_new]
  exact hv
theorem drew_cell {W : World} {p : Addr} {v : Value} (h : W.cell? p = some v) : W.drew.cell? p = some v := h
end Go.Proofs.Ytcbadcbnknmdnaa
namespace Go.Proofs.Ytcbadcbnknmdnaa
open Go.RowKit
set_option linter.unusedVariables false

def checkP (p : Pc) : Nat :=
  if p.turn < 0 ∨ 1099511627776 < p.turn ∨ p.n < 0 then 4 else if p.bytes < 1 ∨ 65536 < p.bytes then 3 else if countP p.bytes ≤ p.n ∨ (p.text.length : Int) ≠ min (p.bytes - p.n * 100) 100 then 2 else 0
theorem checkP_le (p : Pc) : checkP p ≤ 4 := by unfold checkP; split <;> (try split) <;> (try split) <;> omega
set_option maxRecDepth 100000 in
set_option maxHeartbeats 2000000 in
theorem pcCheck_any (p : Pc) (w : World) (ht : p.text.length ≤ 1000000) : Calls Try.prog 114 #[pcV p] w fun r w' => r = .returned (.int .i64 (checkP p : Nat)) ∧ Below w.heap.size w w' := by
  obtain ⟨p0, p1, p2, p3, p4⟩ := p
  have hA : Below w.heap.size w (w.alloc (.cells #[.int .i64 p0, .int .i64 p1, .int .u64 (p2 : Int), .int .i64 p3, .string (bs p4)] 148)) := bel_alloc (Below.refl _ _) _
  have HA := Lib.hid hA
  have hz := bs_size p4
  unfold pcV
  unfold checkP
  simp only at ht ⊢
  clear hA
  by_cases a1 : p0 < 0
  · have d1 : decide (p0 < 0) = true := by simpa using a1
    rw [if_pos (.inl a1)]
    go_enter Try.func114, Try.ntmps114
    go_wp2
    go_ret
    exact ⟨rfl, HA.out⟩
  have d1 : decide (p0 < 0) = false := by simpa using a1
  by_cases a2 : 1099511627776 < p0
  · have d2 : decide (1099511627776 < p0) = true := by simpa using a2
    rw [if_pos (.inr (.inl a2))]
    go_enter Try.func114, Try.ntmps114
    go_wp2
    go_ret
    exact ⟨rfl, HA.out⟩
  have d2 : decide (1099511627776 < p0) = false := by simpa using a2
  by_cases a3 : p3 < 0
  · have d3 : decide (p3 < 0) = true := by simpa using a3
    rw [if_pos (.inr (.inr a3))]
    go_enter Try.func114, Try.ntmps114
    go_wp2
    go_ret
    exact ⟨rfl, HA.out⟩
  have d3 : decide (p3 < 0) = false := by simpa using a3
  rw [if_neg (by intro h; rcases h with h | h | h; exact a1 h; exact a2 h; exact a3 h)]
  by_cases b1 : p1 < 1
  · have d4 : decide (p1 < 1) = true := by simpa using b1
    rw [if_pos (.inl b1)]
    go_enter Try.func114, Try.ntmps114
    go_wp2
    go_ret
    exact ⟨rfl, HA.out⟩
  have d4 : decide (p1 < 1) = false := by simpa using b1
  by_cases b2 : 65536 < p1
  · have d5 : decide (65536 < p1) = true := by simpa using b2
    rw [if_pos (.inr b2)]
    go_enter Try.func114, Try.ntmps114
    go_wp2
    go_ret
    exact ⟨rfl, HA.out⟩
  have d5 : decide (65536 < p1) = false := by simpa using b2
  rw [if_neg (by intro h; rcases h with h | h; exact b1 h; exact b2 h)]
  have HC := Lib.hid (fun W => (chCount_any p1 (by unfold B64; omega) W).mono fun r w' hh => And.intro hh.1 hh.2.symm)
  have hcp : countP p1 ≤ 656 := by unfold countP; split <;> omega
  generalize countP p1 = c at HC hcp
  by_cases c1 : c ≤ p3
  · have d6 : decide (c ≤ p3) = true := by simpa using c1
    rw [if_pos (.inl c1)]
    go_enter Try.func114, Try.ntmps114
    go_upto_region 5 with (fail)
    have e0 : (w.alloc (.cells #[.int .i64 p0, .int .i64 p1, .int .u64 (p2 : Int), .int .i64 p3, .string (bs p4)] 148)).cell? ⟨w.heap.size, 0, none⟩ = some (.int .i64 p0) := by simp
    have e1 : (w.alloc (.cells #[.int .i64 p0, .int .i64 p1, .int .u64 (p2 : Int), .int .i64 p3, .string (bs p4)] 148)).cell? ⟨w.heap.size, 1, none⟩ = some (.int .i64 p1) := by simp
    have e2 : (w.alloc (.cells #[.int .i64 p0, .int .i64 p1, .int .u64 (p2 : Int), .int .i64 p3, .string (bs p4)] 148)).cell? ⟨w.heap.size, 2, none⟩ = some (.int .u64 (p2 : Int)) := by simp
    have e3 : (w.alloc (.cells #[.int .i64 p0, .int .i64 p1, .int .u64 (p2 : Int), .int .i64 p3, .string (bs p4)] 148)).cell? ⟨w.heap.size, 3, none⟩ = some (.int .i64 p3) := by simp
    have e4 : (w.alloc (.cells #[.int .i64 p0, .int .i64 p1, .int .u64 (p2 : Int), .int .i64 p3, .string (bs p4)] 148)).cell? ⟨w.heap.size, 4, none⟩ = some (.string (bs p4)) := by simp
    have hlw : w.heap.size < (w.alloc (.cells #[.int .i64 p0, .int .i64 p1, .int .u64 (p2 : Int), .int .i64 p3, .string (bs p4)] 148)).heap.size := by simp
    generalize w.alloc (.cells #[.int .i64 p0, .int .i64 p1, .int .u64 (p2 : Int), .int .i64 p3, .string (bs p4)] 148) = W at HA e0 e1 e2 e3 e4 hlw ⊢
    go_quiet ((go_at_call 85; exact Calls.quiet_of_same (HC.out _)))
    have HB : Hid (Below w.heap.size w (W.drewN nq)) := Lib.hid ⟨HA.out.os, HA.out.tape, HA.out.output, HA.out.size, HA.out.block⟩
    go_wp2
    all_goals
      go_ret
      exact ⟨rfl, HB.out⟩
  have d6 : decide (c ≤ p3) = false := by simpa using c1
  have hm1 : IntKind.i64.wrap (p3 * 100) = p3 * 100 := by rw [IntKind.wrap_i64]; omega
  have hm2 : IntKind.i64.wrap (100 * p3) = 100 * p3 := by rw [IntKind.wrap_i64]; omega
  have hm3 : IntKind.i64.wrap (p1 - p3 * 100) = p1 - p3 * 100 := by rw [IntKind.wrap_i64]; omega
  have hm4 : IntKind.i64.wrap (p1 - 100 * p3) = p1 - 100 * p3 := by rw [IntKind.wrap_i64]; omega
  by_cases c2 : (p4.length : Int) = min (p1 - p3 * 100) 100
  · rw [if_neg (by intro h; rcases h with h | h; exact c1 h; exact h c2)]
    have hqa : ((p4.length : Int) != if 100 < p1 - p3 * 100 then 100 else p1 - p3 * 100) = false := by simp; split <;> omega
    have hqb : ((p4.length : Int) != if p1 - 100 * p3 < 100 then p1 - 100 * p3 else 100) = false := by simp; split <;> omega
    clear c2
    go_enter Try.func114, Try.ntmps114
    go_upto_region 5 with (fail)
    have e0 : (w.alloc (.cells #[.int .i64 p0, .int .i64 p1, .int .u64 (p2 : Int), .int .i64 p3, .string (bs p4)] 148)).cell? ⟨w.heap.size, 0, none⟩ = some (.int .i64 p0) := by simp
    have e1 : (w.alloc (.cells #[.int .i64 p0, .int .i64 p1, .int .u64 (p2 : Int), .int .i64 p3, .string (bs p4)] 148)).cell? ⟨w.heap.size, 1, none⟩ = some (.int .i64 p1) := by simp
    have e2 : (w.alloc (.cells #[.int .i64 p0, .int .i64 p1, .int .u64 (p2 : Int), .int .i64 p3, .string (bs p4)] 148)).cell? ⟨w.heap.size, 2, none⟩ = some (.int .u64 (p2 : Int)) := by simp
    have e3 : (w.alloc (.cells #[.int .i64 p0, .int .i64 p1, .int .u64 (p2 : Int), .int .i64 p3, .string (bs p4)] 148)).cell? ⟨w.heap.size, 3, none⟩ = some (.int .i64 p3) := by simp
    have e4 : (w.alloc (.cells #[.int .i64 p0, .int .i64 p1, .int .u64 (p2 : Int), .int .i64 p3, .string (bs p4)] 148)).cell? ⟨w.heap.size, 4, none⟩ = some (.string (bs p4)) := by simp
    have hlw : w.heap.size < (w.alloc (.cells #[.int .i64 p0, .int .i64 p1, .int .u64 (p2 : Int), .int .i64 p3, .string (bs p4)] 148)).heap.size := by simp
    generalize w.alloc (.cells #[.int .i64 p0, .int .i64 p1, .int .u64 (p2 : Int), .int .i64 p3, .string (bs p4)] 148) = W at HA e0 e1 e2 e3 e4 hlw ⊢
    go_quiet ((go_at_call 85; exact Calls.quiet_of_same (HC.out _)))
    have HB : Hid (Below w.heap.size w (W.drewN nq)) := Lib.hid ⟨HA.out.os, HA.out.tape, HA.out.output, HA.out.size, HA.out.block⟩
    go_wp2
    all_goals
      go_ret
      exact ⟨rfl, HB.out⟩
  · rw [if_pos (.inr c2)]
    have hqa : ((p4.length : Int) != if 100 < p1 - p3 * 100 then 100 else p1 - p3 * 100) = true := by simp; split <;> omega
    have hqb : ((p4.length : Int) != if p1 - 100 * p3 < 100 then p1 - 100 * p3 else 100) = true := by simp; split <;> omega
    clear c2
    go_enter Try.func114, Try.ntmps114
    go_upto_region 5 with (fail)
    have e0 : (w.alloc (.cells #[.int .i64 p0, .int .i64 p1, .int .u64 (p2 : Int), .int .i64 p3, .string (bs p4)] 148)).cell? ⟨w.heap.size, 0, none⟩ = some (.int .i64 p0) := by simp
    have e1 : (w.alloc (.cells #[.int .i64 p0, .int .i64 p1, .int .u64 (p2 : Int), .int .i64 p3, .string (bs p4)] 148)).cell? ⟨w.heap.size, 1, none⟩ = some (.int .i64 p1) := by simp
    have e2 : (w.alloc (.cells #[.int .i64 p0, .int .i64 p1, .int .u64 (p2 : Int), .int .i64 p3, .string (bs p4)] 148)).cell? ⟨w.heap.size, 2, none⟩ = some (.int .u64 (p2 : Int)) := by simp
    have e3 : (w.alloc (.cells #[.int .i64 p0, .int .i64 p1, .int .u64 (p2 : Int), .int .i64 p3, .string (bs p4)] 148)).cell? ⟨w.heap.size, 3, none⟩ = some (.int .i64 p3) := by simp
    have e4 : (w.alloc (.cells #[.int .i64 p0, .int .i64 p1, .int .u64 (p2 : Int), .int .i64 p3, .string (bs p4)] 148)).cell? ⟨w.heap.size, 4, none⟩ = some (.string (bs p4)) := by simp
    have hlw : w.heap.size < (w.alloc (.cells #[.int .i64 p0, .int .i64 p1, .int .u64 (p2 : Int), .int .i64 p3, .string (bs p4)] 148)).heap.size := by simp
    generalize w.alloc (.cells #[.int .i64 p0, .int .i64 p1, .int .u64 (p2 : Int), .int .i64 p3, .string (bs p4)] 148) = W at HA e0 e1 e2 e3 e4 hlw ⊢
    go_quiet ((go_at_call 85; exact Calls.quiet_of_same (HC.out _)))
    have HB : Hid (Below w.heap.size w (W.drewN nq)) := Lib.hid ⟨HA.out.os, HA.out.tape, HA.out.output, HA.out.size, HA.out.block⟩
    go_wp2
    all_goals
      go_ret
      exact ⟨rfl, HB.out⟩
set_option maxRecDepth 100000 in
set_option maxHeartbeats 2000000 in
theorem refPcCheck_any (p : Pc) (w : World) (ht : p.text.length ≤ 1000000) : Calls Try.prog 116 #[pcV p] w fun r w' => r = .returned (.int .i64 (checkP p : Nat)) ∧ Below w.heap.size w w' := by
  obtain ⟨p0, p1, p2, p3, p4⟩ := p
  have hA : Below w.heap.size w (w.alloc (.cells #[.int .i64 p0, .int .i64 p1, .int .u64 (p2 : Int), .int .i64 p3, .string (bs p4)] 152)) := bel_alloc (Below.refl _ _) _
  have HA := Lib.hid hA
  have hz := bs_size p4
  unfold pcV
  unfold checkP
  simp only at ht ⊢
  clear hA
  by_cases a1 : p0 < 0
  · have d1 : decide (p0 < 0) = true := by simpa using a1
    rw [if_pos (.inl a1)]
    go_enter Try.func116, Try.ntmps116
    go_wp2
    go_ret
    exact ⟨rfl, HA.out⟩
  have d1 : decide (p0 < 0) = false := by simpa using a1
  by_cases a2 : 1099511627776 < p0
  · have d2 : decide (1099511627776 < p0) = true := by simpa using a2
    rw [if_pos (.inr (.inl a2))]
    go_enter Try.func116, Try.ntmps116
    go_wp2
    go_ret
    exact ⟨rfl, HA.out⟩
  have d2 : decide (1099511627776 < p0) = false := by simpa using a2
  by_cases a3 : p3 < 0
  · have d3 : decide (p3 < 0) = true := by simpa using a3
    rw [if_pos (.inr (.inr a3))]
    go_enter Try.func116, Try.ntmps116
    go_wp2
    go_ret
    exact ⟨rfl, HA.out⟩
  have d3 : decide (p3 < 0) = false := by simpa using a3
  rw [if_neg (by intro h; rcases h with h | h | h; exact a1 h; exact a2 h; exact a3 h)]
  by_cases b1 : p1 < 1
  · have d4 : decide (p1 < 1) = true := by simpa using b1
    rw [if_pos (.inl b1)]
    go_enter Try.func116, Try.ntmps116
    go_wp2
    go_ret
    exact ⟨rfl, HA.out⟩
  have d4 : decide (p1 < 1) = false := by simpa using b1
  by_cases b2 : 65536 < p1
  · have d5 : decide (65536 < p1) = true := by simpa using b2
    rw [if_pos (.inr b2)]
    go_enter Try.func116, Try.ntmps116
    go_wp2
    go_ret
    exact ⟨rfl, HA.out⟩
  have d5 : decide (65536 < p1) = false := by simpa using b2
  rw [if_neg (by intro h; rcases h with h | h; exact b1 h; exact b2 h)]
  have HC := Lib.hid (fun W => (refCount11_any p1 (by omega) (by omega) W).mono fun r w' hh => And.intro hh.1 hh.2.symm)
  have hcp : countP p1 ≤ 656 := by unfold countP; split <;> omega
  generalize countP p1 = c at HC hcp
  by_cases c1 : c ≤ p3
  · have d6 : decide (c ≤ p3) = true := by simpa using c1
    rw [if_pos (.inl c1)]
    go_enter Try.func116, Try.ntmps116
    go_upto_region 5 with (fail)
    have e0 : (w.alloc (.cells #[.int .i64 p0, .int .i64 p1, .int .u64 (p2 : Int), .int .i64 p3, .string (bs p4)] 152)).cell? ⟨w.heap.size, 0, none⟩ = some (.int .i64 p0) := by simp
    have e1 : (w.alloc (.cells #[.int .i64 p0, .int .i64 p1, .int .u64 (p2 : Int), .int .i64 p3, .string (bs p4)] 152)).cell? ⟨w.heap.size, 1, none⟩ = some (.int .i64 p1) := by simp
    have e2 : (w.alloc (.cells #[.int .i64 p0, .int .i64 p1, .int .u64 (p2 : Int), .int .i64 p3, .string (bs p4)] 152)).cell? ⟨w.heap.size, 2, none⟩ = some (.int .u64 (p2 : Int)) := by simp
    have e3 : (w.alloc (.cells #[.int .i64 p0, .int .i64 p1, .int .u64 (p2 : Int), .int .i64 p3, .string (bs p4)] 152)).cell? ⟨w.heap.size, 3, none⟩ = some (.int .i64 p3) := by simp
    have e4 : (w.alloc (.cells #[.int .i64 p0, .int .i64 p1, .int .u64 (p2 : Int), .int .i64 p3, .string (bs p4)] 152)).cell? ⟨w.heap.size, 4, none⟩ = some (.string (bs p4)) := by simp
    have hlw : w.heap.size < (w.alloc (.cells #[.int .i64 p0, .int .i64 p1, .int .u64 (p2 : Int), .int .i64 p3, .string (bs p4)] 152)).heap.size := by simp
    generalize w.alloc (.cells #[.int .i64 p0, .int .i64 p1, .int .u64 (p2 : Int), .int .i64 p3, .string (bs p4)] 152) = W at HA e0 e1 e2 e3 e4 hlw ⊢
    go_quiet ((go_at_call 120; exact Calls.quiet_of_same (HC.out _)))
    have HB : Hid (Below w.heap.size w (W.drewN nq)) := Lib.hid ⟨HA.out.os, HA.out.tape, HA.out.output, HA.out.size, HA.out.block⟩
    go_wp2
    all_goals
      go_ret
      exact ⟨rfl, HB.out⟩
  have d6 : decide (c ≤ p3) = false := by simpa using c1
  have hm1 : IntKind.i64.wrap (p3 * 100) = p3 * 100 := by rw [IntKind.wrap_i64]; omega
  have hm2 : IntKind.i64.wrap (100 * p3) = 100 * p3 := by rw [IntKind.wrap_i64]; omega
  have hm3 : IntKind.i64.wrap (p1 - p3 * 100) = p1 - p3 * 100 := by rw [IntKind.wrap_i64]; omega
  have hm4 : IntKind.i64.wrap (p1 - 100 * p3) = p1 - 100 * p3 := by rw [IntKind.wrap_i64]; omega
  by_cases c2 : (p4.length : Int) = min (p1 - p3 * 100) 100
  · rw [if_neg (by intro h; rcases h with h | h; exact c1 h; exact h c2)]
    have hqa : ((p4.length : Int) != if 100 < p1 - p3 * 100 then 100 else p1 - p3 * 100) = false := by simp; split <;> omega
    have hqb : ((p4.length : Int) != if p1 - 100 * p3 < 100 then p1 - 100 * p3 else 100) = false := by simp; split <;> omega
    clear c2
    go_enter Try.func116, Try.ntmps116
    go_upto_region 5 with (fail)
    have e0 : (w.alloc (.cells #[.int .i64 p0, .int .i64 p1, .int .u64 (p2 : Int), .int .i64 p3, .string (bs p4)] 152)).cell? ⟨w.heap.size, 0, none⟩ = some (.int .i64 p0) := by simp
    have e1 : (w.alloc (.cells #[.int .i64 p0, .int .i64 p1, .int .u64 (p2 : Int), .int .i64 p3, .string (bs p4)] 152)).cell? ⟨w.heap.size, 1, none⟩ = some (.int .i64 p1) := by simp
    have e2 : (w.alloc (.cells #[.int .i64 p0, .int .i64 p1, .int .u64 (p2 : Int), .int .i64 p3, .string (bs p4)] 152)).cell? ⟨w.heap.size, 2, none⟩ = some (.int .u64 (p2 : Int)) := by simp
    have e3 : (w.alloc (.cells #[.int .i64 p0, .int .i64 p1, .int .u64 (p2 : Int), .int .i64 p3, .string (bs p4)] 152)).cell? ⟨w.heap.size, 3, none⟩ = some (.int .i64 p3) := by simp
    have e4 : (w.alloc (.cells #[.int .i64 p0, .int .i64 p1, .int .u64 (p2 : Int), .int .i64 p3, .string (bs p4)] 152)).cell? ⟨w.heap.size, 4, none⟩ = some (.string (bs p4)) := by simp
    have hlw : w.heap.size < (w.alloc (.cells #[.int .i64 p0, .int .i64 p1, .int .u64 (p2 : Int), .int .i64 p3, .string (bs p4)] 152)).heap.size := by simp
    generalize w.alloc (.cells #[.int .i64 p0, .int .i64 p1, .int .u64 (p2 : Int), .int .i64 p3, .string (bs p4)] 152) = W at HA e0 e1 e2 e3 e4 hlw ⊢
    go_quiet ((go_at_call 120; exact Calls.quiet_of_same (HC.out _)))
    have HB : Hid (Below w.heap.size w (W.drewN nq)) := Lib.hid ⟨HA.out.os, HA.out.tape, HA.out.output, HA.out.size, HA.out.block⟩
    go_wp2
    all_goals
      go_ret
      exact ⟨rfl, HB.out⟩
  · rw [if_pos (.inr c2)]
    have hqa : ((p4.length : Int) != if 100 < p1 - p3 * 100 then 100 else p1 - p3 * 100) = true := by simp; split <;> omega
    have hqb : ((p4.length : Int) != if p1 - 100 * p3 < 100 then p1 - 100 * p3 else 100) = true := by simp; split <;> omega
    clear c2
    go_enter Try.func116, Try.ntmps116
    go_upto_region 5 with (fail)
    have e0 : (w.alloc (.cells #[.int .i64 p0, .int .i64 p1, .int .u64 (p2 : Int), .int .i64 p3, .string (bs p4)] 152)).cell? ⟨w.heap.size, 0, none⟩ = some (.int .i64 p0) := by simp
    have e1 : (w.alloc (.cells #[.int .i64 p0, .int .i64 p1, .int .u64 (p2 : Int), .int .i64 p3, .string (bs p4)] 152)).cell? ⟨w.heap.size, 1, none⟩ = some (.int .i64 p1) := by simp
    have e2 : (w.alloc (.cells #[.int .i64 p0, .int .i64 p1, .int .u64 (p2 : Int), .int .i64 p3, .string (bs p4)] 152)).cell? ⟨w.heap.size, 2, none⟩ = some (.int .u64 (p2 : Int)) := by simp
    have e3 : (w.alloc (.cells #[.int .i64 p0, .int .i64 p1, .int .u64 (p2 : Int), .int .i64 p3, .string (bs p4)] 152)).cell? ⟨w.heap.size, 3, none⟩ = some (.int .i64 p3) := by simp
    have e4 : (w.alloc (.cells #[.int .i64 p0, .int .i64 p1, .int .u64 (p2 : Int), .int .i64 p3, .string (bs p4)] 152)).cell? ⟨w.heap.size, 4, none⟩ = some (.string (bs p4)) := by simp
    have hlw : w.heap.size < (w.alloc (.cells #[.int .i64 p0, .int .i64 p1, .int .u64 (p2 : Int), .int .i64 p3, .string (bs p4)] 152)).heap.size := by simp
    generalize w.alloc (.cells #[.int .i64 p0, .int .i64 p1, .int .u64 (p2 : Int), .int .i64 p3, .string (bs p4)] 152) = W at HA e0 e1 e2 e3 e4 hlw ⊢
    go_quiet ((go_at_call 120; exact Calls.quiet_of_same (HC.out _)))
    have HB : Hid (Below w.heap.size w (W.drewN nq)) := Lib.hid ⟨HA.out.os, HA.out.tape, HA.out.output, HA.out.size, HA.out.block⟩
    go_wp2
    all_goals
      go_ret
      exact ⟨rfl, HB.out⟩
/-- Records of cells of any kind, one behind the other. -/
def VWide (k : Nat) (ls : List (List Value)) : Prop := ∀ x ∈ ls, x.length = k ∧ ∀ u ∈ x, u.oneCell' = true
theorem vflat_len {k : Nat} {ls : List (List Value)} (hw : VWide k ls) : ls.flatten.length = ls.length * k := by
  induction ls with
  | nil => simp
  | cons x l ih =>
    rw [List.flatten_cons, List.length_append, ih (fun y hy => hw y (by simp [hy])), (hw x (by simp)).1, List.length_cons, Nat.add_mul]
    omega
theorem vflat_at {k : Nat} {ls : List (List Value)} (hw : VWide k ls) : ∀ i (h : i < ls.length) j, j < k → ls.flatten[i * k + j]? = ls[i][j]? := by
  induction ls with
  | nil => intro i h; simp at h
  | cons x l ih =>
    intro i h j hj
    have hx := (hw x (by simp)).1
    cases i with
    | zero =>
      rw [List.flatten_cons, Nat.zero_mul, Nat.zero_add, List.getElem?_append_left (by omega)]
      simp
    | succ i =>
      have e : (i + 1) * k + j = x.length + (i * k + j) := by rw [hx, Nat.add_mul]; omega
      rw [List.flatten_cons, e, List.getElem?_append_right (by omega), Nat.add_sub_cancel_left]
      exact ih (fun y hy => hw y (by simp [hy])) i (by simpa using h) j hj
def VRow (k : Nat) (w : World) (a : Option Addr) (ls : List (List Value)) : Prop :=
  0 < ls.length → ∃ b off, a = some ⟨b, off, none⟩ ∧ ∀ i (h : i < ls.length) j, j < k → w.cell? ⟨b, off + i * k + j, none⟩ = ls[i][j]?
theorem VRow.touch {S : Nat → Prop} {k : Nat} (hk : 0 < k) {w w' : World} {a : Option Addr} {ls : List (List Value)} (hw : VWide k ls) (h : VRow k w a ls) (ht : Touch S w w') (hs : ∀ x, a = some x → ¬ S x.block) : VRow k w' a ls := by
  intro h0
  obtain ⟨b, off, e, hc⟩ := h h0
  refine ⟨b, off, e, fun i hi j hj => ?_⟩
  have h1 := hc i hi j hj
  have hx := (hw ls[i] (List.getElem_mem hi)).1
  rw [List.getElem?_eq_getElem (show j < ls[i].length by omega)] at h1 ⊢
  have hsb : ¬ S b := hs ⟨b, off, none⟩ e
  exact (ht.cell (p := ⟨b, off + i * k + j, none⟩) (block_lt_of_cell h1) hsb).trans h1
structure VTy (e : TypeId) (k : Nat) (z : Value) (by' : Nat) : Prop where
  info : (Try.prog.info? e).map (fun i => (i.zero, i.size, i.bytes)) = some (some z, k, by')
  cells : z.cells.size = k
  pos : 0 < k
  few : k ≤ 100 ∧ by' ≤ 800
/-- A row of such records of the call's own, in blocks from B on. -/
def OwnV (e : TypeId) (k B : Nat) (a : Option Addr) (c : Nat) (ls : List (List Value)) (w : World) : Prop :=
  w.ownsRow 0 e k (.slice a ls.length c) ls.length ls.flatten ∧ (∀ x, a = some x → B ≤ x.block)
theorem OwnV.touch {S : Nat → Prop} {e : TypeId} {k B : Nat} {w1 w2 : World} {a : Option Addr} {c : Nat} {ls : List (List Value)} (h : OwnV e k B a c ls w1) (ht : Touch S w1 w2) (hs : ∀ x, a = some x → ¬ S x.block) : OwnV e k B a c ls w2 :=
  ⟨own_touchR h.1 ht (fun k hk => by
    cases a with
    | none => simp [Value.ownBlock] at hk
    | some x => simp [Value.ownBlock] at hk; subst hk; exact hs _ rfl), h.2⟩
theorem OwnV.lt {e : TypeId} {k B : Nat} {a : Option Addr} {c : Nat} {ls : List (List Value)} {w : World} (h : OwnV e k B a c ls w) : ∀ x, a = some x → x.block < w.heap.size := fun x hx => by
  rcases h.1.2 with ⟨hv, -⟩ | ⟨g, cap, cur, hv, -, hg, -⟩
  · rw [hx] at hv; simp at hv
  · rw [hx] at hv
    simp only [Value.slice.injEq, Option.some.injEq] at hv
    rw [hv.1]
    exact (Array.getElem?_eq_some_iff.1 hg).1
theorem OwnV.row {e : TypeId} {k B : Nat} {a : Option Addr} {c : Nat} {ls : List (List Value)} {w : World} (hw : VWide k ls) (h : OwnV e k B a c ls w) : VRow k w a ls := by
  intro h0
  rcases h.1.2 with ⟨-, h00⟩ | ⟨g, cap, cur, hv, -, hg, hnc, -, hsz, htk⟩
  · omega
  · simp only [Value.slice.injEq] at hv
    refine ⟨g, 0, hv.1, fun i hi j hj => ?_⟩
    have hlt : i * k + j < ls.length * k := by
      have : (i + 1) * k ≤ ls.length * k := Nat.mul_le_mul_right k hi
      rw [Nat.add_mul] at this; omega
    have h1 := vflat_at hw i hi j hj
    rw [← htk, List.getElem?_take_of_lt hlt] at h1
    unfold World.cell?
    simp only [hg, Nat.zero_add]
    rw [← h1]
    simp
theorem OwnV.one {w1 : World} {t ty e : TypeId} {k B by' : Nat} {z : Value} (H : VTy e k z by') (ht : Try.prog.underlying t = some (.slice e)) {a1 : Option Addr} {c1 : Nat} {l : List (List Value)} (h : OwnV e k B a1 c1 l w1) (hB : B ≤ w1.heap.size) (x : List Value) (hx : x.length = k ∧ ∀ u ∈ x, u.oneCell' = true) (hl : l.length + 1 ≤ 1000000) (m : Nat) (hm : w1.heap.size = m) :
    ∃ a' c' w', (Builtin.append_ #[t, t] ty #[.slice a1 l.length c1, .slice (some ⟨m, 0, none⟩) 1 1]).run Try.prog (w1.alloc (.cells x.toArray e)) = .ok (.slice a' (l.length + 1) c') w' ∧ OwnV e k B a' c' (l ++ [x]) w' ∧ Touch (fun b => a1.map (·.block) = some b) w1 w' := by
  subst hm
  obtain ⟨i0, hi, hz0, hz1, hz2⟩ := info_is H.info
  have hf1 := H.few.1
  have hf2 := H.few.2
  obtain ⟨v', w', hrun, ho, hg, hf⟩ := append_exact (P := Try.prog) (w1.alloc (.cells x.toArray e)) t ty e i0 z k by' ht hi hz0 hz1 hz2 H.cells H.pos (.slice a1 l.length c1) l.length l.flatten (h.1.alloc _) ⟨w1.heap.size, 0, none⟩ 1 1 x (by rw [hx.1]; omega)
    (fun j u hu => by
      have hj : j < x.length := (List.getElem?_eq_some_iff.1 hu).1
      have : (w1.alloc (.cells x.toArray e)).cell? ⟨w1.heap.size, 0 + j, none⟩ = some u := by simp [hu]
      exact add_cellR this) hx.2 (by unfold maxLen; omega)
    (by have : (l.length + 1) * by' ≤ 1000000 * 800 := Nat.mul_le_mul hl hf2; omega)
  obtain ⟨a', c', rfl⟩ := own_sliceR ho
  refine ⟨a', c', w', hrun, ⟨by rw [List.length_append, List.flatten_append]; simpa using ho, fun y hy => ?_⟩, ((Touch.refl _ w1).alloc _).trans ((touch_grown hg).mono fun b hb h' => ?_)⟩
  · subst hy
    rcases hf y.block (by simp [Value.ownBlock]) with h' | h'
    · cases a1 with
      | none => simp [Value.ownBlock] at h'
      | some z => simp [Value.ownBlock] at h'; have := h.2 z rfl; omega
    · simp at h'; omega
  · cases a1 with
    | none => simp [Value.ownBlock] at h'
    | some z => simpa [Value.ownBlock] using h'
end Go.Proofs.Ytcbadcbnknmdnaa
namespace Go.Proofs.Ytcbadcbnknmdnaa
open Go.RowKit Go.WideShapes Go.ChangeShapes
set_option linter.unusedVariables false

def ValArg (k : Nat) (P : List Value → Prop) (w : World) (a : Option Addr) (len cap : Nat) (ls : List (List Value)) : Prop :=
  len = ls.length ∧ len ≤ cap ∧ cap ≤ maxLen ∧ VRow k w a ls ∧ ∀ r ∈ ls, P r
theorem vlist_2 {α : Type} {l : List α} (h : l.length = 2) : ∃ a b, l = [a, b] := by
  match l, h with
  | [a, b], _ => exact ⟨a, b, rfl⟩
theorem vlist_4 {α : Type} {l : List α} (h : l.length = 4) : ∃ a b c d, l = [a, b, c, d] := by
  match l, h with
  | [a, b, c, d], _ => exact ⟨a, b, c, d, rfl⟩
theorem valArg_of (k : Nat) (hk : 0 < k) {P : List Value → Prop} {w : World} {ad : Addr} {len cap : Nat} (hl : len ≤ cap) (hm : cap ≤ maxLen)
    (each : ∀ i, i < len → ∃ r : List Value, r.length = k ∧ (∀ j, j < k → w.cell? (ad.add (i * k + j)) = r[j]?) ∧ P r) : ∃ ls, ValArg k P w (some ad) len cap ls := by
  let F : Nat → List Value := fun i => if hi : i < len then (each i hi).choose else []
  have hF : ∀ i, i < len → (F i).length = k ∧ (∀ j, j < k → w.cell? (ad.add (i * k + j)) = (F i)[j]?) ∧ P (F i) := by
    intro i hi
    have := (each i hi).choose_spec
    simp only [F, hi, dif_pos]
    exact this
  clear_value F
  refine ⟨(List.range len).map F, by simp, hl, hm, fun h0 => ?_, fun x hx => ?_⟩
  · obtain ⟨b, off, spot⟩ := ad
    have hlen : 0 < len := by simpa using h0
    have h00 := (hF 0 hlen).2.1 0 hk
    have h0k := (hF 0 hlen).1
    rw [List.getElem?_eq_getElem (show 0 < (F 0).length by omega)] at h00
    have hspot : spot = none := by simpa [Addr.add] using World.cell?_spot h00
    subst hspot
    refine ⟨b, off, rfl, fun i hi j hj => ?_⟩
    have hil : i < len := by simpa using hi
    simp only [List.getElem_map, List.getElem_range]
    have h1 := (hF i hil).2.1 j hj
    have hjk := (hF i hil).1
    rw [List.getElem?_eq_getElem (show j < (F i).length by omega)] at h1 ⊢
    rw [Nat.add_assoc]
    exact cell_addN h1
  · simp only [List.mem_map, List.mem_range] at hx
    obtain ⟨i, hi, rfl⟩ := hx
    exact (hF i hi).2.2
def ptsR (r : List Value) : Prop := ∃ k0 k1, r = [.bool k0, .string k1] ∧ k1.size ≤ maxLen
def acts13R (r : List Value) : Prop := ∃ k0 k1 k2 k3, r = [.int .i64 k0, .int .i64 k1, .int .u32 k2, .string k3] ∧ (Lit.int .i64 k0).wf = true ∧ (Lit.int .i64 k1).wf = true ∧ (Lit.int .u32 k2).wf = true ∧ k3.size ≤ maxLen
end Go.Proofs.Ytcbadcbnknmdnaa
