/-
  Layer 17: the document's own answers.
-/
import Derived.Test.YtlhcihjplolgiaaPace8
namespace Go.Proofs.Ytlhcihjplolgiaa
open Go.RowKit
set_option linter.unusedVariables false

def LastPost (l : List Int) (w : World) (r : Ending) (w' : World) : Prop := (∃ a' c', r = .returned (.slice a' (last8 l).length c') ∧ Hid (IntRow .i64 w a' (last8 l))) ∧ w = w'
set_option maxRecDepth 100000 in
theorem refLast17_any (a : Option Addr) (c : Nat) (l : List Int) (w : World) (hr : IntRow .i64 w a l) (hl : l.length ≤ 1000) (hc : l.length ≤ c) : Calls Try.prog 85 #[.slice a l.length c] w (LastPost l w) := by
  by_cases h : 8 < l.length
  · obtain ⟨b, off, rfl, hcell⟩ := hr (by omega)
    have hlen : (last8 l).length = 8 := by simp [last8]; omega
    have HF : Hid (LastPost l w (.returned (.slice (some ⟨b, off + (l.length - 8), none⟩) 8 (c - (l.length - 8)))) w) := Lib.hid ⟨⟨_, _, by rw [hlen], Lib.hid fun h0 => ⟨b, off + (l.length - 8), rfl, fun i hi => by
      have hi' : i < 8 := by omega
      have := hcell (l.length - 8 + i) (by omega)
      rw [show off + (l.length - 8) + i = off + (l.length - 8 + i) by omega, this]
      simp [last8]⟩⟩, rfl⟩
    generalize LastPost l w = Post at HF ⊢
    obtain ⟨n, hn⟩ : ∃ n, l.length = n + 8 := ⟨l.length - 8, by omega⟩
    rw [hn] at HF hc hl h ⊢
    simp only [Nat.add_sub_cancel] at HF
    have i0 : (0 : Int) ≤ (n : Int) := by omega
    have i1 : (8 : Int) < (n : Int) + 8 := by omega
    have i2 : (n : Int) + 8 ≤ (c : Int) := by omega
    have hne : ¬ n = c := by omega
    have hne' : ¬ c = n := by omega
    have hs : n + 8 - n = 8 := by omega
    clear hcell hlen hn hr
    go_enter Try.func85, Try.ntmps85
    go_wp2
    first | exact HF.out | (go_ret; exact HF.out)
  · have HF : Hid (LastPost l w (.returned (.slice a l.length c)) w) := Lib.hid ⟨⟨a, c, by rw [last8_short l (by omega)], Lib.hid (by rw [last8_short l (by omega)]; exact hr)⟩, rfl⟩
    generalize LastPost l w = Post at HF ⊢
    have i1 : (l.length : Int) ≤ 8 := by omega
    clear hr
    go_enter Try.func85, Try.ntmps85
    go_wp2
    first | exact HF.out | (go_ret; exact HF.out)
set_option maxRecDepth 100000 in
set_option maxHeartbeats 1000000 in
theorem refWorst17_any (a : Option Addr) (c : Nat) (l : List Int) (w : World) (hr : IntRow .i64 w a l) (hl : l.length ≤ 1000) (hc : l.length ≤ c) : Calls Try.prog 48 #[.slice a l.length c] w fun r w' => r = .returned (.int .i64 (worstS (last8 l))) ∧ w = w' := by
  have HL := Lib.hid (refLast17_any a c l w hr hl hc)
  have h8 := last8_len l
  clear hr
  generalize hq : last8 l = L at HL h8 ⊢
  unfold LastPost at HL
  rw [hq] at HL
  clear hq
  go_enter Try.func48, Try.ntmps48
  go_wp2_with fail
  refine HL.out.mono ?_
  rintro r w2 ⟨⟨a', c', rfl, HR⟩, rfl⟩
  clear HL
  go_wp2
  go_loop [3, 9] (fun v3 v9 => ∃ k : Nat, k ≤ L.length ∧ v3 = .int .i64 (worstS (L.take k)) ∧ v9 = .int .i64 k) (fun _ v9 => L.length - (intOf v9).toNat)
  case atStart => exact ⟨0, by omega, rfl, rfl⟩
  case round =>
    obtain ⟨k, hk, rfl, rfl⟩ := hrel
    by_cases hlt : k < L.length
    · have HS := Lib.hid (worst_snoc L k hlt)
      obtain ⟨b, off, rfl, hcell⟩ := HR.out (by omega)
      have hv := hcell k hlt
      clear hcell
      generalize L[k] = x at HS hv
      generalize worstS (L.take k) = q at HS
      have hi0 : (0 : Int) ≤ (k : Int) := by omega
      have hi1 : (k : Int) < (L.length : Int) := by omega
      go_wp2
      go_round
      case rel => exact ⟨k + 1, by omega, by first | (rw [HS.out]; done) | rw [HS.out, max_if], by go_num⟩
      case measure => simp [intOf] <;> omega
    · obtain rfl : k = L.length := by omega
      rw [List.take_length]
      generalize hq : worstS L = q
      have HQ := Lib.hid hq
      clear hq
      have hi1 : (L.length : Int) ≤ (L.length : Int) := by omega
      go_wp2
      go_ret
      exact ⟨by rw [HQ.out]; rfl, rfl⟩
set_option maxRecDepth 100000 in
set_option maxHeartbeats 1000000 in
theorem refMean17_any (a : Option Addr) (c : Nat) (l : List Int) (w : World) (hr : IntRow .i64 w a l) (hl : l.length ≤ 1000) (hc : l.length ≤ c) (hg : ∀ x ∈ l, good x) : Calls Try.prog 50 #[.slice a l.length c] w fun r w' => r = .returned (.int .i64 (meanS (last8 l))) ∧ w = w' := by
  have HL := Lib.hid (fun W hW => refLast17_any a c l W hW hl hc)
  have HRW := Lib.hid hr
  have h8 := last8_len l
  have HLEN := Lib.hid (show (last8 l).length = min l.length 8 by simp [last8]; omega)
  have HG := Lib.hid (show ∀ x ∈ last8 l, good x from fun x hx => hg x (List.mem_of_mem_drop hx))
  clear hr hg
  generalize hq : last8 l = L at HL h8 HG HLEN ⊢
  unfold LastPost at HL
  rw [hq] at HL
  clear hq
  go_enter Try.func50, Try.ntmps50
  go_wp2_with fail
  refine (HL.out _ HRW.out).mono ?_
  rintro r w2 ⟨⟨a', c', rfl, HR⟩, rfl⟩
  go_wp2
  go_loop [3, 9] (fun v3 v9 => ∃ k : Nat, k ≤ L.length ∧ v3 = .int .i64 (sumS (L.take k)) ∧ v9 = .int .i64 k) (fun _ v9 => L.length - (intOf v9).toNat)
  case atStart => exact ⟨0, by omega, rfl, rfl⟩
  case round =>
    obtain ⟨k, hk, rfl, rfl⟩ := hrel
    have hs := sum_bd (L.take k) (fun x hx => (HG.out x (List.mem_of_mem_take hx)).1) 0
    rw [show List.foldl (fun s x => s + min x 1048576) 0 (L.take k) = sumS (L.take k) from rfl] at hs
    obtain ⟨s0, s1⟩ := hs
    have s2 : sumS (L.take k) ≤ 1048576 * 8 := by
      have : (L.take k).length ≤ 8 := by simp; omega
      omega
    clear s1
    by_cases hlt : k < L.length
    · have HS := Lib.hid (sum_snoc L k hlt)
      obtain ⟨b, off, rfl, hcell⟩ := HR.out (by omega)
      have hv := hcell k hlt
      have hgk := HG.out _ (List.getElem_mem hlt)
      clear hcell
      generalize L[k] = x at HS hv hgk
      obtain ⟨g0, g1⟩ := hgk
      generalize sumS (L.take k) = q at *
      have hi0 : (0 : Int) ≤ (k : Int) := by omega
      have hi1 : (k : Int) < (L.length : Int) := by omega
      go_wp2
      go_round
      case rel => exact ⟨k + 1, by omega, by first | (rw [HS.out, show max (min x 1048576) 0 = min x 1048576 by omega]; done) | (rw [HS.out, min_if]; done), by go_num⟩
      case measure => simp [intOf] <;> omega
    · obtain rfl : k = L.length := by omega
      rw [List.take_length] at s0 s2 ⊢
      by_cases hz : l.length = 0
      · have hm : meanS L = 0 := by simp [meanS, show L.length = 0 by have := HLEN.out; omega]
        have HM := Lib.hid hm
        have hb : ((l.length : Int) == 0) = true := by simp [hz]
        have hi1 : (L.length : Int) ≤ (L.length : Int) := by omega
        clear hm hz HLEN HL HR HRW
        go_wp2
        go_ret
        exact ⟨by rw [HM.out]; rfl, rfl⟩
      · have HM := Lib.hid (show meanS L = sumS L / (L.length : Int) by unfold meanS; rw [if_neg (by have := HLEN.out; omega)])
        have hb : ((l.length : Int) == 0) = false := by rw [beq_eq_false_iff_ne]; omega
        have n1 : (1 : Int) ≤ (L.length : Int) := by have := HLEN.out; omega
        have hi1 : (L.length : Int) ≤ (L.length : Int) := by omega
        generalize hq : sumS L = q at s0 s2 HM ⊢
        have HQ := Lib.hid hq
        clear hq hz HLEN
        go_wp2_with fail
        refine (HL.out _ HRW.out).mono ?_
        rintro r w2 ⟨⟨a2, c2, rfl, HR2⟩, rfl⟩
        go_wp2
        go_ret
        exact ⟨by rw [HM.out]; rfl, rfl⟩
theorem ceil_eq (w t : Int) (ht : 1 ≤ t) (hw : 0 ≤ w) : (w + t - 1) / t = if (w / t) * t < w then w / t + 1 else w / t := by
  have hN := fun e => need_le w t e ht hw
  have h1 : t * (w / t) ≤ w := Int.mul_ediv_self_le (by omega)
  have h2 : w < t * (w / t) + t := Int.lt_mul_ediv_self_add (by omega)
  generalize (w + t - 1) / t = N at hN
  generalize w / t = q at h1 h2
  have a1 := hN q
  have a2 := hN (q + 1)
  have a3 := hN (q - 1)
  rw [Int.mul_add, Int.mul_one] at a2
  rw [Int.mul_sub, Int.mul_one] at a3
  rw [Int.mul_comm q t]
  generalize t * q = p at *
  split <;> omega
end Go.Proofs.Ytlhcihjplolgiaa
