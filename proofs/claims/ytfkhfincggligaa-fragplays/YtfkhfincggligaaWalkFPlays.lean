/-
  The walk of the law FragPlays.
-/
import Derived.Test.YtfkhfincggligaaWalkFCuts
import Derived.Test.YtfkhfincggligaaVals
namespace Go.Proofs.Ytfkhfincggligaa
open Go.RowKit
set_option linter.unusedVariables false

set_option maxRecDepth 100000 in
set_option maxHeartbeats 2000000 in
theorem fragPlays_walk (w : World) (a : Option Addr) (len cap : Nat) (ls : List (List Value)) (wa : ValArg 2 ptsR w a len cap ls) :
    Calls Try.prog 4 #[.slice a len cap] w fun e w' => e = .returned (.bool true) ∧ Below w.heap.size w w' := by
  have HAW := Lib.hid (fun W => awake12_any W)
  obtain ⟨rfl, hlc, hcm, hrow, hall⟩ := wa
  have HROW := Lib.hid hrow
  have HALL := Lib.hid hall
  unfold maxLen at hcm
  have hlm : ls.length ≤ 9223372036854775807 := by omega
  clear hrow hall hlc hcm
  go_enter Try.func4, Try.ntmps4
  go_wp2_with fail
  refine (HAW.out _).mono ?_
  rintro r w1 ⟨rfl, hb1⟩
  have HJ0 := Lib.hid (JIn.start hb1)
  clear hb1 HAW
  go_wp2
  generalize w1.alloc (.cells #[.int .i64 0, .slice none 0 0] 32) = W1 at HJ0 ⊢
  generalize w1.heap.size = b at HJ0 ⊢
  go_loopw [4, 5, 6] (fun tv nv iv wr => ∃ (k : Nat) (s : Js), k ≤ 60 ∧ tv = .string (bs s.l) ∧ nv = .int .i64 (s.n : Int) ∧ iv = .int .i64 k ∧ s.n ≤ k ∧ s.l.length ≤ 65536 ∧ Hid (JIn w b s wr)) (fun _ _ iv _ => 60 - (intOf iv).toNat)
  case atStart => exact ⟨0, ⟨0, []⟩, by omega, rfl, rfl, rfl, by simp, by simp, HJ0⟩
  case round =>
    obtain ⟨k, s, hk, rfl, rfl, rfl, hsn, hsl, HJ⟩ := hrel
    by_cases hlt : k < ls.length
    · by_cases h60 : k < 60
      · obtain ⟨gb, off, rfl, hc⟩ := HROW.out (by omega)
        obtain ⟨pl, ps, hr, hps⟩ := HALL.out ls[k] (List.getElem_mem hlt)
        have c0 := hc k hlt 0 (by decide)
        have c1 := hc k hlt 1 (by decide)
        rw [hr] at c0 c1
        have hgl : gb < w.heap.size := block_lt_of_cell c0
        have d0 : wr.cell? ⟨gb, off + k * 2, none⟩ = some (.bool pl) := (HJ.out.bel.cell (p := ⟨gb, off + k * 2, none⟩) hgl).trans c0
        have d1 : wr.cell? ⟨gb, off + k * 2 + 1, none⟩ = some (.string ps) := (HJ.out.bel.cell (p := ⟨gb, off + k * 2 + 1, none⟩) hgl).trans c1
        have hgr : gb < wr.heap.size := block_lt_of_cell d0
        obtain ⟨pt, e0, hpl⟩ := any_list ps 210
        have HCUT := Lib.hid (fun W => cut_any ps 210 W hps (by decide))
        rw [e0] at HCUT
        clear c0 c1 hr hc hps e0
        have hi0 : (0 : Int) ≤ (k : Int) := by omega
        have hi1 : (k : Int) < (ls.length : Int) := by omega
        have hi2 : (k : Int) < 60 := by omega
        go_upto_region 8 with (fail)
        have hA : Below wr.heap.size wr (wr.alloc (.cells #[.bool pl, .string (bs pt)] 34)).drew := (bel_alloc (Below.refl _ _) _).drew
        have x0 : (wr.alloc (.cells #[.bool pl, .string (bs pt)] 34)).drew.cell? ⟨wr.heap.size, 0, none⟩ = some (.bool pl) := by simp
        have x1 : (wr.alloc (.cells #[.bool pl, .string (bs pt)] 34)).drew.cell? ⟨wr.heap.size, 1, none⟩ = some (.string (bs pt)) := by simp
        have HA := Lib.hid hA
        have HX0 := Lib.hid x0
        have HX1 := Lib.hid x1
        clear hA x0 x1
        go_cut [7] (fun s7 wx => s7 = .pointer (some ⟨wr.heap.size, 0, none⟩) ∧ Hid (wx = (wr.alloc (.cells #[.bool pl, .string (bs pt)] 34)).drew))
        case first =>
          go_region_law (first
            | (go_simp; go_at_call 13; refine (HCUT.out _).mono ?_; rintro e wO ⟨rfl, rfl⟩))
          all_goals (go_wp2_with fail; go_meet)
          all_goals exact ⟨rfl, Lib.hid rfl⟩
        case rest =>
          obtain ⟨rfl, hwx⟩ := hcut
          rw [← hwx.out] at HA HX0 HX1
          clear hwx HCUT d0 d1
          have hX : wr.heap.size ≤ wr.heap.size := Nat.le_refl _
          have HPUT := Lib.hid (fun W hb => joPut_mid w b s ⟨pl, pt⟩ wr W HJ.out hb (by omega) hsl (by simp only; omega))
          have HRP := Lib.hid (fun W => ref12Put_any s ⟨pl, pt⟩ W (by omega) hsl (by simp only; omega))
          have hn' := putJ_n s ⟨pl, pt⟩
          have hl' := putJ_len s ⟨pl, pt⟩ hsl
          unfold ptV at HPUT HRP
          unfold RPost at HRP
          simp only at HPUT HRP
          generalize putJ s ⟨pl, pt⟩ = t at HPUT HRP hn' hl'
          obtain ⟨s', msg, ok, er⟩ := t
          simp only at HPUT HRP hn' hl'
          have x0 := HX0.out
          have x1 := HX1.out
          have hXl := block_lt_of_cell x0
          simp only at hXl
          go_wp2_with fail
          refine (HPUT.out _ HA.out).mono ?_
          rintro r w5 ⟨rfl, hj5, hc5⟩
          have y0 := (hc5 wr.heap.size 0 (Nat.le_refl _) hXl).trans x0
          have y1 := (hc5 wr.heap.size 1 (Nat.le_refl _) hXl).trans x1
          have HJ5 := Lib.hid hj5
          have hYl := block_lt_of_cell y0
          simp only at hYl
          clear hc5 hj5 HPUT x0 x1 HX0 HX1 HA hXl hX
          go_wp2_with fail
          refine (HRP.out _).mono ?_
          rintro r w6 ⟨rfl, hb6⟩
          have HJ6 := Lib.hid (HJ5.out.keep hb6)
          clear hb6 HJ5 HRP y0 y1 hYl
          have HOP := Lib.hid (fun W h => joOpen_in w b s' W h)
          go_wp2_with fail
          refine (HOP.out _ HJ6.out).mono ?_
          rintro r w7 ⟨rfl, hj7⟩
          have HJ7 := Lib.hid hj7
          have hz := bs_size s'.l
          have hse := str_eq (bs msg)
          clear hj7 HOP HJ6
          go_wp2
          go_roundw
          case rel => exact ⟨k + 1, s', by omega, rfl, rfl, by go_num, by omega, hl', HJ7⟩
          case measure => simp [intOf] <;> omega
      · have hi1 : (k : Int) < (ls.length : Int) := by omega
        have hi2 : (60 : Int) ≤ (k : Int) := by omega
        have HB := Lib.hid HJ.out.bel
        go_wp2
        go_ret
        exact ⟨rfl, HB.out⟩
    · have hi1 : (ls.length : Int) ≤ (k : Int) := by omega
      have HB := Lib.hid HJ.out.bel
      go_wp2
      go_ret
      exact ⟨rfl, HB.out⟩
end Go.Proofs.Ytfkhfincggligaa
