/-
  Layer 13: the document's own: what waits, bit by bit.
-/
import Derived.Test.YtpilkaggiajjmaaRWin3
import Derived.Test.YtpilkaggiajjmaaWinP
namespace Go.Proofs.Ytpilkaggiajjmaa
open Go.RowKit
set_option linter.unusedVariables false

def atR (n : Nat) (L : Its) (k : Nat) : Bool := L.any (fun p => p.1 == n + k + 1)
def bitsR (n : Nat) (L : Its) : Nat → Nat
  | 0 => 0
  | k + 1 => bitsR n L k + (if atR n L k = true then 2 ^ k else 0)
theorem bitsR_lt (n : Nat) (L : Its) : ∀ k, bitsR n L k < 2 ^ k
  | 0 => by simp [bitsR]
  | k + 1 => by
    have := bitsR_lt n L k
    unfold bitsR
    rw [Nat.pow_succ]
    split <;> omega
theorem bitsR_test (n : Nat) (L : Its) : ∀ k j, (bitsR n L k).testBit j = (decide (j < k) && atR n L j)
  | 0, j => by simp [bitsR]
  | k + 1, j => by
    have ih := bitsR_test n L k
    have hlt := bitsR_lt n L k
    have hlt1 := bitsR_lt n L (k + 1)
    unfold bitsR at hlt1 ⊢
    cases ha : atR n L k with
    | false =>
      rw [if_neg (by simp), Nat.add_zero, ih j]
      by_cases hj : j = k
      · subst hj; rw [ha]; simp
      · have e : decide (j < k) = decide (j < k + 1) := by
          by_cases h : j < k
          · rw [decide_eq_true h, decide_eq_true (by omega)]
          · rw [decide_eq_false h, decide_eq_false (by omega)]
        rw [e]
    | true =>
      rw [ha, if_pos rfl] at hlt1
      rw [if_pos rfl, Nat.add_comm]
      rcases Nat.lt_trichotomy j k with h | h | h
      · rw [Nat.testBit_two_pow_add_gt h, ih j, decide_eq_true h, decide_eq_true (by omega)]
      · subst h
        rw [Nat.testBit_two_pow_add_eq, ih j, ha, decide_eq_false (Nat.lt_irrefl _), decide_eq_true (by omega)]; rfl
      · rw [decide_eq_false (by omega), Bool.false_and]
        apply Nat.testBit_lt_two_pow
        have : 2 ^ (k + 1) ≤ 2 ^ j := Nat.pow_le_pow_right (by decide) h
        omega
theorem bitsR_eq {n B : Nat} {L : Its} (hB : B < 4294967296) (h : ∀ k, B.testBit k = true ↔ ∃ p ∈ L, p.1 = n + k + 1) (hi : ∀ p ∈ L, p.1 ≤ n + 32) : bitsR n L 32 = B := by
  apply Nat.eq_of_testBit_eq
  intro k
  rw [bitsR_test, Bool.eq_iff_iff, h k]
  unfold atR
  rw [Bool.and_eq_true, decide_eq_true_iff, List.any_eq_true]
  constructor
  · rintro ⟨-, p, hp, he⟩
    exact ⟨p, hp, by simpa using he⟩
  · rintro ⟨p, hp, he⟩
    have := hi p hp
    exact ⟨by omega, p, hp, by simpa using he⟩
theorem at_yes {n k : Nat} {L : Its} {z : Int} (h : Find13 L (n + k + 1) z) : (atR n L k = true ∧ ∃ j : Nat, z = (j : Int)) ∨ (atR n L k = false ∧ z = -1) := by
  rcases h with ⟨j, hj, hz, he⟩ | ⟨hz, hno⟩
  · left
    refine ⟨?_, j, hz⟩
    unfold atR
    rw [List.any_eq_true]
    exact ⟨L[j], List.getElem_mem hj, by simpa using he⟩
  · right
    refine ⟨?_, hz⟩
    unfold atR
    rw [List.any_eq_false]
    intro p hp
    simpa using hno p hp
def Bits13 (n : Nat) (L : Its) (w : World) (r : Ending) (w' : World) : Prop := r = .returned (.int .u32 (bitsR n L 32 : Int)) ∧ Below w.heap.size w w'
set_option maxRecDepth 100000 in
set_option maxHeartbeats 1000000 in
theorem bits13_any (a : Option Addr) (c n : Nat) (L : Its) (w : World) (hl : L.length ≤ 1000) (hn : n ≤ 10000) (hr : RRow w a L) :
    Calls Try.prog 29 #[.agg #[.int .i64 (n : Int), .slice a L.length c]] w (Bits13 n L w) := by
  have HR := Lib.hid hr
  have HFI := Lib.hid (fun (k : Nat) W hr => find13_any a c L (n + k + 1) W hl hr)
  have HB0 : Hid (Below w.heap.size w (w.alloc (.cells #[.int .i64 (n : Int), .slice a L.length c] 56))) := Lib.hid (bel_alloc (Below.refl _ _) _)
  have x0 : (w.alloc (.cells #[.int .i64 (n : Int), .slice a L.length c] 56)).cell? ⟨w.heap.size, 0, none⟩ = some (.int .i64 (n : Int)) := by simp
  have x1 : (w.alloc (.cells #[.int .i64 (n : Int), .slice a L.length c] 56)).cell? ⟨w.heap.size, 1, none⟩ = some (.slice a L.length c) := by simp
  have HX := Lib.hid (And.intro x0 x1)
  generalize hpost : Bits13 n L w = Post
  have HPost := Lib.hid hpost
  clear hpost hr x0 x1
  go_enter Try.func29, Try.ntmps29
  go_wp2
  generalize w.alloc (.cells #[.int .i64 (n : Int), .slice a L.length c] 56) = W1 at HB0 HX ⊢
  go_loopw [3, 4, 5] (fun v3 v4 v5 wr => ∃ k : Nat, k ≤ 32 ∧ v3 = .int .u32 (bitsR n L k : Int) ∧ v4 = .int .u32 ((2 ^ k % 4294967296 : Nat) : Int) ∧ v5 = .int .i64 k ∧ Hid ((wr.cell? ⟨w.heap.size, 0, none⟩ = some (.int .i64 (n : Int)) ∧ wr.cell? ⟨w.heap.size, 1, none⟩ = some (.slice a L.length c)) ∧ Below w.heap.size w wr)) (fun _ _ v5 _ => 32 - (intOf v5).toNat)
  case atStart => exact ⟨0, by omega, rfl, rfl, rfl, Lib.hid ⟨HX.out, HB0.out⟩⟩
  case round =>
    obtain ⟨k, hk, rfl, rfl, rfl, HM⟩ := hrel
    by_cases hlt : k < 32
    · obtain ⟨⟨y0, y1⟩, hbel⟩ := HM.out
      have hbl := block_lt_of_cell y0
      simp only at hbl
      have HFK := Lib.hid (HFI.out k wr (HR.out.below hbel))
      have hcast : (((n + k + 1 : Nat) : Int)) = (n : Int) + (k : Int) + 1 := by omega
      have HFK2 := Lib.hid (show Calls Try.prog 59 #[.slice a L.length c, .int .i64 ((n : Int) + (k : Int) + 1)] wr _ from by rw [← hcast]; exact HFK.out)
      have hi1 : (k : Int) < 32 := by omega
      have hnn : (n : Int) ≤ 10000 := by omega
      have HBK := Lib.hid (show bitsR n L (k + 1) = bitsR n L k + (if atR n L k = true then 2 ^ k else 0) from rfl)
      have hb1 := bitsR_lt n L k
      have hb2 := bitsR_lt n L (k + 1)
      have hp1 : 2 ^ k ≤ 2147483648 := by
        have : 2 ^ k ≤ 2 ^ 31 := Nat.pow_le_pow_right (by decide) (by omega)
        exact this
      have hp2 : 2 ^ (k + 1) = 2 ^ k * 2 := Nat.pow_succ ..
      have hpm : 2 ^ k % 4294967296 = 2 ^ k := Nat.mod_eq_of_lt (by omega)
      have hb3 : bitsR n L k < 4294967296 := by omega
      have hb4 : bitsR n L (k + 1) < 4294967296 := by omega
      have HP2 : Hid ((2 ^ (k + 1) % 4294967296 : Nat) = 2 ^ k * 2 % 4294967296) := Lib.hid (by rw [hp2])
      rw [hpm]
      generalize hbk : bitsR n L k = bk at hb1 hb3 HBK
      generalize 2 ^ k = pk at hb1 hp1 HBK HP2
      clear hcast hpm hp2 hb1 hb2 HFK hbel hbk
      go_wp2_with fail
      refine HFK2.out.mono ?_
      rintro r w4 ⟨⟨z, rfl, hf⟩, hb⟩
      have HM4 : Hid ((w4.cell? ⟨w.heap.size, 0, none⟩ = some (.int .i64 (n : Int)) ∧ w4.cell? ⟨w.heap.size, 1, none⟩ = some (.slice a L.length c)) ∧ Below w.heap.size w w4) := Lib.hid ⟨⟨(hb.cell (p := ⟨w.heap.size, 0, none⟩) hbl).trans y0, (hb.cell (p := ⟨w.heap.size, 1, none⟩) hbl).trans y1⟩, HM.out.2.trans (hb.mono HM.out.2.size)⟩
      have hcs := at_yes hf
      clear hf hb HM HFK2 y0 y1 hbl
      rcases hcs with ⟨ha, j, rfl⟩ | ⟨ha, rfl⟩
      · rw [ha, if_pos rfl] at HBK
        have hs4 : (bk : Int) + (pk : Int) < 4294967296 := by have := HBK.out; omega
        have hj0 : (0 : Int) ≤ (j : Int) := by omega
        clear ha
        go_wp2
        go_roundw
        case rel => exact ⟨k + 1, by omega, by rw [HBK.out]; go_num, by rw [HP2.out]; go_num, by go_num, HM4⟩
        case measure => simp [intOf] <;> omega
      · rw [ha, if_neg (by simp)] at HBK
        clear ha
        go_wp2
        go_roundw
        case rel => exact ⟨k + 1, by omega, by rw [HBK.out]; go_num, by rw [HP2.out]; go_num, by go_num, HM4⟩
        case measure => simp [intOf] <;> omega
    · obtain rfl : k = 32 := by omega
      have HF : Hid (Bits13 n L w (.returned (.int .u32 (bitsR n L 32 : Int))) wr) := Lib.hid ⟨rfl, HM.out.2⟩
      rw [HPost.out] at HF
      generalize bitsR n L 32 = q at HF
      go_wp2
      exact HF.out
end Go.Proofs.Ytpilkaggiajjmaa
