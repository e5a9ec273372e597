/-
  Layer 13: the document's own: does a number wait; does an ack tell it.
-/
import Derived.Test.YtpilkaggiajjmaaWinR
import Derived.Deep.RegionHeld3
import Derived.Deep.RegionLaw
namespace Go.Proofs.Ytpilkaggiajjmaa
open Go.RowKit
set_option linter.unusedVariables false

def riC (p : Nat × List UInt8) : List Value := [.int .i64 (p.1 : Int), .string (bs p.2)]
theorem ri_wide (l : Its) : VWide 2 (l.map riC) := by
  intro x hx
  obtain ⟨p, -, rfl⟩ := List.mem_map.1 hx
  refine ⟨rfl, fun u hu => ?_⟩
  simp only [riC, List.mem_cons, List.not_mem_nil, or_false] at hu
  rcases hu with rfl | rfl <;> rfl
theorem riTy : VTy 39 2 (.agg #[.int .i64 0, .string ⟨#[]⟩]) 24 := ⟨by kernel_rfl, rfl, by decide, by decide⟩
/-- A row of the document's things. -/
def RRow (w : World) (a : Option Addr) (L : Its) : Prop := VRow 2 w a (L.map riC)
theorem RRow.at {w : World} {a : Option Addr} {L : Its} (h : RRow w a L) {k : Nat} (hk : k < L.length) : ∃ b off, a = some ⟨b, off, none⟩ ∧ b < w.heap.size ∧ w.cell? ⟨b, off + k * 2, none⟩ = some (.int .i64 (L[k].1 : Int)) ∧ w.cell? ⟨b, off + k * 2 + 1, none⟩ = some (.string (bs L[k].2)) := by
  have hlen : (L.map riC).length = L.length := by simp
  obtain ⟨b, off, e1, hc⟩ := h (by rw [hlen]; omega)
  have hx : ∀ j, j < 2 → w.cell? ⟨b, off + k * 2 + j, none⟩ = (riC L[k])[j]? := fun j hj => by
    have h1 := hc k (by rw [hlen]; exact hk) j hj
    rw [h1]
    simp
  have h0 : w.cell? ⟨b, off + k * 2, none⟩ = some (.int .i64 (L[k].1 : Int)) := hx 0 (by decide)
  exact ⟨b, off, e1, block_lt_of_cell h0, h0, hx 1 (by decide)⟩
theorem RRow.touch {S : Nat → Prop} {w w' : World} {a : Option Addr} {L : Its} (h : RRow w a L) (ht : Touch S w w') (hs : ∀ x, a = some x → ¬ S x.block) : RRow w' a L := VRow.touch (by decide) (ri_wide L) h ht hs
theorem RRow.below {w w' : World} {a : Option Addr} {L : Its} (h : RRow w a L) (hb : Below w.heap.size w w') : RRow w' a L := h.touch (touch_of_below (S := fun _ => False) hb) (fun _ _ => id)
def Find13 (L : Its) (x : Nat) (z : Int) : Prop := (∃ k, ∃ (hk : k < L.length), z = (k : Int) ∧ L[k].1 = x) ∨ (z = -1 ∧ ∀ p ∈ L, p.1 ≠ x)
set_option maxRecDepth 100000 in
set_option maxHeartbeats 1000000 in
theorem find13_any (a : Option Addr) (c : Nat) (L : Its) (x : Nat) (w : World) (hl : L.length ≤ 1000) (hr : RRow w a L) :
    Calls Try.prog 59 #[.slice a L.length c, .int .i64 (x : Int)] w fun r w' => (∃ z : Int, r = .returned (.int .i64 z) ∧ Find13 L x z) ∧ Below w.heap.size w w' := by
  have HR := Lib.hid hr
  clear hr
  go_enter Try.func59, Try.ntmps59
  go_wp2
  go_loopw [9] (fun i wr => ∃ k : Nat, k ≤ L.length ∧ i = .int .i64 k ∧ Hid ((∀ j (hj : j < L.length), j < k → L[j].1 ≠ x) ∧ Below w.heap.size w wr)) (fun i _ => L.length - (intOf i).toNat)
  case atStart => exact ⟨0, by omega, rfl, Lib.hid ⟨fun j hj h => by omega, Below.refl _ _⟩⟩
  case round =>
    obtain ⟨k, hk, rfl, HM⟩ := hrel
    by_cases hlt : k < L.length
    · obtain ⟨b, off, rfl, hb, c0, c1⟩ := (HR.out.below HM.out.2).at hlt
      have HX := Lib.hid (show ∃ k', ∃ (hk' : k' < L.length), (k : Int) = (k' : Int) ∧ L[k'].1 = L[k].1 from ⟨k, hlt, rfl, rfl⟩)
      have HNX := Lib.hid (show L[k].1 ≠ x → ∀ j (hj : j < L.length), j < k + 1 → L[j].1 ≠ x from fun h j hj hjk => by
        by_cases e : j = k
        · subst e; exact h
        · exact HM.out.1 j hj (by omega))
      generalize L[k] = u at c0 c1 HNX HX
      obtain ⟨u0, u1⟩ := u
      simp only at c0 c1 HNX HX
      have HB1 := Lib.hid (bel_alloc HM.out.2 (.cells #[.int .i64 (u0 : Int), .string (bs u1)] 39))
      have hi0 : (0 : Int) ≤ (k : Int) := by omega
      have hi1 : (k : Int) < (L.length : Int) := by omega
      by_cases he : u0 = x
      · subst he
        go_wp2
        go_ret
        exact ⟨⟨_, rfl, .inl HX.out⟩, HB1.out⟩
      · have heb : ((u0 : Int) == (x : Int)) = false := by rw [beq_eq_false_iff_ne]; omega
        have HN2 := Lib.hid (HNX.out he)
        clear he
        go_wp2
        go_roundw
        case rel => exact ⟨k + 1, by omega, by go_num, Lib.hid ⟨HN2.out, HB1.out⟩⟩
        case measure => simp [intOf] <;> omega
    · have HE := Lib.hid (show ∀ p ∈ L, p.1 ≠ x from fun p hp => by
        obtain ⟨j, hj, rfl⟩ := List.getElem_of_mem hp
        exact HM.out.1 j hj (by omega))
      have hi1 : (L.length : Int) ≤ (k : Int) := by omega
      go_wp2
      go_ret
      exact ⟨⟨_, rfl, .inr ⟨rfl, HE.out⟩⟩, HM.out.2⟩
theorem half_step (B i : Nat) : ((B / 2 ^ i : Nat) : Int) / 2 = ((B / 2 ^ (i + 1) : Nat) : Int) := by
  rw [Nat.pow_succ, ← Nat.div_div_eq_div_mul]; omega
set_option maxRecDepth 100000 in
set_option maxHeartbeats 1000000 in
theorem has13_any (A B N : Nat) (w : World) (hA : A < 2147483648) (hN : N < 2147483648) (hB : B < 4294967296) :
    Calls Try.prog 56 #[.int .i64 (A : Int), .int .u32 (B : Int), .int .i64 (N : Int)] w fun r w' => r = .returned (.bool (hasR A B N)) ∧ w' = w := by
  unfold hasR
  by_cases h1 : N < A
  · rw [decide_eq_true h1]
    have hi : (N : Int) < (A : Int) := by omega
    go_enter Try.func56, Try.ntmps56
    go_wp2
    go_ret
    exact ⟨rfl, rfl⟩
  · rw [decide_eq_false h1, Bool.false_or]
    have hi : (A : Int) ≤ (N : Int) := by omega
    by_cases h2 : 1 ≤ N - A ∧ N - A ≤ 32
    · rw [decide_eq_true h2.1, decide_eq_true h2.2, Bool.true_and, Bool.true_and]
      obtain ⟨k, hk⟩ : ∃ k, N = A + 1 + k := ⟨N - A - 1, by omega⟩
      subst hk
      have e1 : A + 1 + k - A - 1 = k := by omega
      rw [e1]
      have hw1 : IntKind.i64.wrap (((A + 1 + k : Nat) : Int) - (A : Int)) = (k : Int) + 1 := by rw [IntKind.wrap_i64]; omega
      have hw2 : IntKind.i64.wrap ((k : Int) + 1 - 1) = (k : Int) := by rw [IntKind.wrap_i64]; omega
      have hk31 : (k : Int) ≤ 31 := by omega
      have hk0 : (0 : Int) ≤ (k : Int) := by omega
      have HB := Lib.hid hB
      generalize hNN : ((A + 1 + k : Nat) : Int) = NN at hi hw1 ⊢
      have hd1 : decide (NN < (A : Int)) = false := by simp; omega
      clear h1 h2 e1 hNN hB hA hN
      go_enter Try.func56, Try.ntmps56
      go_wp2
      go_loopw [8, 9] (fun bv iv wr => ∃ i : Nat, i ≤ k ∧ bv = .int .u32 ((B / 2 ^ i : Nat) : Int) ∧ iv = .int .i64 i ∧ wr = w) (fun _ iv _ => k - (intOf iv).toNat)
      case atStart => exact ⟨0, Nat.zero_le _, by simp, rfl, rfl⟩
      case round =>
        obtain ⟨i, hik, rfl, rfl, rfl⟩ := hrel
        by_cases hlt : i < k
        · have hi1 : (i : Int) < (k : Int) := by omega
          have HS := Lib.hid (half_step B i)
          have hle : B / 2 ^ i < 4294967296 := Nat.lt_of_le_of_lt (Nat.div_le_self _ _) HB.out
          have hle2 : B / 2 ^ (i + 1) < 4294967296 := Nat.lt_of_le_of_lt (Nat.div_le_self _ _) HB.out
          have hnn : (0 : Int) ≤ ((B / 2 ^ i : Nat) : Int) := Int.natCast_nonneg _
          generalize B / 2 ^ i = z at hle hnn HS ⊢
          go_wp2
          go_roundw
          case rel => exact ⟨i + 1, by omega, by rw [HS.out], by go_num, trivial⟩
          case measure => simp [intOf] <;> omega
        · obtain rfl : i = k := by omega
          have hi1 : (i : Int) ≤ (i : Int) := by omega
          go_wp2
          go_ret
          refine ⟨?_, rfl⟩
          show Ending.returned (.bool ((((B / 2 ^ i : Nat) : Int) % 2) == 1)) = _
          rw [Nat.testBit_eq_decide_div_mod_eq]
          generalize B / 2 ^ i = z
          congr 2
          by_cases hz : z % 2 = 1
          · rw [decide_eq_true hz, beq_iff_eq]; omega
          · rw [decide_eq_false hz, beq_eq_false_iff_ne]; omega
    · have e0 : (decide (1 ≤ N - A) && (decide (N - A ≤ 32) && B.testBit (N - A - 1))) = false := by
        by_cases h3 : 1 ≤ N - A
        · rw [decide_eq_false (show ¬ N - A ≤ 32 from fun h => h2 ⟨h3, h⟩)]; simp
        · rw [decide_eq_false h3]; rfl
      rw [e0]
      have hw1 : IntKind.i64.wrap ((N : Int) - (A : Int)) = (N : Int) - (A : Int) := by rw [IntKind.wrap_i64]; omega
      have hw2 : IntKind.i64.wrap ((N : Int) - (A : Int) - 1) = (N : Int) - (A : Int) - 1 := by rw [IntKind.wrap_i64]; omega
      have hd : decide ((N : Int) - (A : Int) - 1 < 0) = true ∨ decide ((N : Int) - (A : Int) - 1 < 0) = false ∧ decide (31 < (N : Int) - (A : Int) - 1) = true := by
        by_cases h3 : 1 ≤ N - A
        · right; exact ⟨by simp; omega, by simp; omega⟩
        · left; simp; omega
      have hd1 : decide ((N : Int) < (A : Int)) = false := by simp; omega
      clear h1 h2 e0
      rcases hd with hd | ⟨hd, hd2⟩
      all_goals
        go_enter Try.func56, Try.ntmps56
        go_wp2
        go_ret
        exact ⟨rfl, rfl⟩
end Go.Proofs.Ytpilkaggiajjmaa
