/-
  Layer 13: an ack of what was not sent.
-/
import Derived.Test.YtpilkaggiajjmaaWinO
import Derived.Test.YtpilkaggiajjmaaFrag8
import Derived.Test.YtpilkaggiajjmaaVals
import Derived.Test.YtpilkaggiajjmaaWinM
import Derived.Deep.DeepCutAuto
import Derived.Deep.CutBlock
namespace Go.Proofs.Ytpilkaggiajjmaa
open Go.RowKit
set_option linter.unusedVariables false

theorem nat32' {a : Int} (h : (Lit.int .u32 a).wf = true) : ∃ n : Nat, a = (n : Int) ∧ n < 4294967296 := by
  have h2 : 0 ≤ a ∧ a ≤ 4294967295 := by simpa [Lit.wf, IntKind.min, IntKind.max, IntKind.signed, IntKind.bits] using h
  exact ⟨a.toNat, by omega, by omega⟩
set_option maxRecDepth 100000 in
set_option maxHeartbeats 2000000 in
/-- An ack of what wasn't sent. -/
theorem outAck_no (b n : Nat) (a : Option Addr) (c : Nat) (l : Its) (nx B : Nat) (w : World) (h : OAt w b n a c l) (hx : nx < 4294967296) (hne : nx ≠ n) (hbf : belowB nx n = false) :
    Calls Try.prog 19 #[.pointer (some ⟨b, 0, none⟩), .agg #[.int .u32 (nx : Int), .int .u32 (B : Int)]] w fun r w' => r = .returned (.slice none 0 0) ∧ Below w.heap.size w w' := by
  have hA : Below w.heap.size w (w.alloc (.cells #[.int .u32 (nx : Int), .int .u32 (B : Int)] 43)) := bel_alloc (Below.refl _ _) _
  have x0 : (w.alloc (.cells #[.int .u32 (nx : Int), .int .u32 (B : Int)] 43)).cell? ⟨w.heap.size, 0, none⟩ = some (.int .u32 (nx : Int)) := by simp
  have HBEL := Lib.hid (fun W => below_any nx n hx h.nx W)
  rw [hbf] at HBEL
  have HO := Lib.hid (h.keep hA)
  have HA := Lib.hid hA
  have hc1 : ((nx : Int) != (n : Int)) = true := by rw [bne_iff_ne]; omega
  clear h hA hne hbf
  go_enter Try.func19, Try.ntmps19
  go_upto_region 1 with (fail)
  have y0 := HO.out.c0
  have hbl := HO.out.lt
  have hXl := block_lt_of_cell x0
  simp only at hXl
  go_quiet ((go_at_call 55; exact Calls.quiet_of_same (HBEL.out _)))
  have HA1 := Lib.hid (HA.out.trans ((drewN_bel _ nq).mono HA.out.size))
  go_wp2
  go_ret
  exact ⟨rfl, HA1.out⟩
/-- What an ack tells, of what was sent or not. -/
def gR (n A B : Nat) (L : Its) : List Nat := if A ≤ n then goneR A B L else []
def lR (n A B : Nat) (L : Its) : Its := if A ≤ n then leftR A B L else L
theorem gR_mem {n A B : Nat} {L : Its} {y : Nat} (h : y ∈ gR n A B L) : ∃ p ∈ L, p.1 = y := by
  unfold gR at h
  split at h
  · obtain ⟨p, hp, rfl⟩ := List.mem_map.1 h
    exact ⟨p, (List.mem_filter.1 hp).1, rfl⟩
  · simp at h
theorem gR_len (n A B : Nat) (L : Its) : (gR n A B L).length ≤ L.length := by
  unfold gR
  split
  · exact (gone_len A B L).1
  · simp
theorem lR_ok {n A B : Nat} {L : Its} (h : OutR n L) : OutR n (lR n A B L) := by
  unfold lR
  split
  · exact h.filter _
  · exact h
def OAck2 (w : World) (b N F : Nat) (a : Option Addr) (G : List Nat) (R : Its) (r : Ending) (w' : World) : Prop :=
  ∃ a1 c1 a2 c2, r = .returned (.slice a1 G.length c1) ∧ OAt w' b N a2 c2 (numL F R) ∧ VRow 1 w' a1 ((G.map (numW F)).map u32C) ∧ (∀ x, a1 = some x → w.heap.size ≤ x.block) ∧ (∀ x, a2 = some x → a.map (·.block) = some x.block ∨ w.heap.size ≤ x.block) ∧ Touch (fun j => j = b) w w'
theorem outAck_two (b F n A B : Nat) (a : Option Addr) (c : Nat) (L : Its) (w : World) (h : OAt w b (numW F n) a c (numL F L)) (hor : OutR n L) (hn : n ≤ 10000) (hA : A ≤ 10000) (hB : B < 4294967296) :
    Calls Try.prog 19 #[.pointer (some ⟨b, 0, none⟩), .agg #[.int .u32 (numW F A : Int), .int .u32 (B : Int)]] w (OAck2 w b (numW F n) F a (gR n A B L) (lR n A B L)) := by
  have hll := hor.len
  by_cases hAn : A ≤ n
  · obtain ⟨e1, e2⟩ := ack_num F A B L (by omega) (fun p hp => by have := hor.lt p hp; omega)
    refine (outAck_ok b (numW F n) a c (numL F L) (numW F A) B w h (by rw [numL_len]; omega) (numL_lt _ _) (numW_lt _ _) hB (go_num13 F A n (by omega) (by omega) hAn)).mono ?_
    rintro r w' ⟨a1, c1, a2, c2, rfl, h1, h2, h3, h4, h5⟩
    rw [e2] at h1
    rw [e1] at h2 ⊢
    have eg : gR n A B L = goneR A B L := by unfold gR; rw [if_pos hAn]
    have el : lR n A B L = leftR A B L := by unfold lR; rw [if_pos hAn]
    rw [eg, el]
    exact ⟨a1, c1, a2, c2, by rw [List.length_map], h1, h2.row (num_wide _), h2.2, fun x hx => .inr (h3 x hx), h5⟩
  · obtain ⟨e1, e2⟩ := no_num13 F A n (by omega) (by omega) (by omega)
    refine (outAck_no b (numW F n) a c (numL F L) (numW F A) B w h (numW_lt _ _) e1 e2).mono ?_
    rintro r w' ⟨rfl, hb⟩
    have eg : gR n A B L = [] := by unfold gR; rw [if_neg hAn]
    have el : lR n A B L = L := by unfold lR; rw [if_neg hAn]
    rw [eg, el]
    exact ⟨none, 0, a, c, rfl, h.keep hb, (fun h => by simp at h), (fun x hx => by cases hx), (fun x hx => .inl (by rw [hx]; rfl)), touch_of_below hb⟩
theorem ref13Ack_two (a : Option Addr) (c n A B : Nat) (L : Its) (w : World) (hn : n ≤ 10000) (hA : A ≤ 10000) (hB : B < 4294967296) (hor : OutR n L) (hr : RRow w a L) (hnn : a = none → L = []) (hc : L.length ≤ c ∧ c ≤ maxLen) :
    Calls Try.prog 20 #[.agg #[.int .i64 (n : Int), .slice a L.length c], .int .i64 (A : Int), .int .u32 (B : Int)] w (A13Post w a n (lR n A B L) (gR n A B L)) := by
  have hll := hor.len
  by_cases hAn : A ≤ n
  · have eg : gR n A B L = goneR A B L := by unfold gR; rw [if_pos hAn]
    have el : lR n A B L = leftR A B L := by unfold lR; rw [if_pos hAn]
    rw [eg, el]
    exact ref13Ack_yes a c n A B L w (by omega) hn hAn hB (fun p hp => by have := hor.lt p hp; omega) hr
  · have eg : gR n A B L = [] := by unfold gR; rw [if_neg hAn]
    have el : lR n A B L = L := by unfold lR; rw [if_neg hAn]
    rw [eg, el]
    exact ref13Ack_no a c n A B L w hn (by omega) hr hnn hc
theorem VRow.at1 {w : World} {a : Option Addr} {f : Nat → List Value} {g : Nat → Value} (hf : ∀ n, f n = [g n]) {ms : List Nat} (h : VRow 1 w a (ms.map f)) {j : Nat} (hj : j < ms.length) : ∃ b off, a = some ⟨b, off, none⟩ ∧ b < w.heap.size ∧ w.cell? ⟨b, off + j, none⟩ = some (g ms[j]) := by
  have hlen : (ms.map f).length = ms.length := by simp
  obtain ⟨b, off, e1, hc⟩ := h (by rw [hlen]; omega)
  have h1 := hc j (by rw [hlen]; exact hj) 0 (by decide)
  rw [Nat.mul_one, Nat.add_zero] at h1
  have h2 : w.cell? ⟨b, off + j, none⟩ = some (g ms[j]) := by rw [h1]; simp [hf]
  exact ⟨b, off, e1, block_lt_of_cell h2, h2⟩
end Go.Proofs.Ytpilkaggiajjmaa
