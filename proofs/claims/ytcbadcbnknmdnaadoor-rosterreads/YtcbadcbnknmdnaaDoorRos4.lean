/-
  Layer 18: Of, Len, Epoch, All, Same.
-/
import Derived.Test.YtcbadcbnknmdnaaDoorWin8
import Derived.Test.YtcbadcbnknmdnaaDoorVApp
namespace Go.Proofs.YtcbadcbnknmdnaaDoor
open Go.RowKit
set_option linter.unusedVariables false

theorem rlen_any (p : Nat) (e : Int) (w : World) (hp : p < 4294967296) : Calls Tryd.prog 29 #[rosV p e] w fun r w' => r = .returned (.int .i64 (lenP p : Int)) ∧ Below w.heap.size w w' := by
  have HA := Lib.hid (show Below w.heap.size w (w.alloc (.cells #[.int .u32 (p : Int), .int .i64 e] 27)) from bel_alloc (Below.refl _ _) _)
  unfold rosV
  go_enter Tryd.func29, Tryd.ntmps29
  go_wp2_with fail
  refine (ones_any p _ hp).mono ?_
  rintro r w1 ⟨rfl, hb⟩
  have HB := Lib.hid (HA.out.trans (hb.mono HA.out.size))
  clear hb HA
  go_wp2
  go_ret
  exact ⟨rfl, HB.out⟩
theorem repoch_any (p : Nat) (e : Int) (w : World) : Calls Tryd.prog 31 #[rosV p e] w fun r w' => r = .returned (.int .i64 e) ∧ Below w.heap.size w w' := by
  have HA := Lib.hid (show Below w.heap.size w (w.alloc (.cells #[.int .u32 (p : Int), .int .i64 e] 27)) from bel_alloc (Below.refl _ _) _)
  unfold rosV
  go_enter Tryd.func31, Tryd.ntmps31
  go_wp2
  go_ret
  exact ⟨rfl, HA.out⟩
theorem rsame_any (p q : Nat) (e f : Int) (w : World) : Calls Tryd.prog 22 #[rosV p e, rosV q f] w fun r w' => r = .returned (.bool ((p == q) && (e == f))) ∧ Below w.heap.size w w' := by
  unfold rosV
  go_enter Tryd.func22, Tryd.ntmps22
  go_wp2
  all_goals
    go_ret
    exact ⟨by first | (simp [*]; done) | (simp [*]; omega), bel_alloc (bel_alloc (Below.refl _ _) _) _⟩
/-- A roster under way: its box, and the box of the answer. -/
structure RofMem (w : World) (n : Nat) (wr : World) : Prop where
  c0 : wr.cell? ⟨w.heap.size + 1, 0, none⟩ = some (.int .u32 (n : Int))
  c1 : wr.cell? ⟨w.heap.size + 1, 1, none⟩ = some (.int .i64 0)
  s0 : wr.cell? ⟨w.heap.size, 0, none⟩ = some (.int .u32 0)
  s1 : wr.cell? ⟨w.heap.size, 1, none⟩ = some (.int .i64 0)
  fr : ∀ b j, w.heap.size ≤ b → b ≤ w.heap.size + 1 → wr.frozen? ⟨b, j, none⟩ = false
  bel : Below w.heap.size w wr
theorem RofMem.lt {w : World} {n : Nat} {wr : World} (h : RofMem w n wr) : w.heap.size + 1 < wr.heap.size := block_lt_of_cell h.c0
theorem RofMem.keep {w : World} {n : Nat} {wr w' : World} (h : RofMem w n wr) (hb : Below wr.heap.size wr w') : RofMem w n w' := by
  have hl := h.lt
  refine ⟨(hb.cell (p := ⟨w.heap.size + 1, 0, none⟩) hl).trans h.c0, (hb.cell (p := ⟨w.heap.size + 1, 1, none⟩) hl).trans h.c1, (hb.cell (p := ⟨w.heap.size, 0, none⟩) (show w.heap.size < wr.heap.size by omega)).trans h.s0, (hb.cell (p := ⟨w.heap.size, 1, none⟩) (show w.heap.size < wr.heap.size by omega)).trans h.s1, fun b j h1 h2 => (hb.frozen (p := ⟨b, j, none⟩) (show b < wr.heap.size by omega)).trans (h.fr b j h1 h2), h.bel.trans (hb.mono h.bel.size)⟩
theorem RofMem.set {w : World} {n : Nat} {wr : World} (h : RofMem w n wr) (m : Nat) : RofMem w m (wr.setCell ⟨w.heap.size + 1, 0, none⟩ (.int .u32 (m : Int))) := by
  refine ⟨World.cell?_setCell_same' _ _ _ (by rw [h.c0]; rfl), ?_, ?_, ?_, fun b j h1 h2 => by rw [World.frozen?_setCell]; exact h.fr b j h1 h2, h.bel.setCell (p := ⟨w.heap.size + 1, 0, none⟩) (by simp) _⟩
  · rw [World.cell?_setCell_other _ _ _ _ (by simp)]; exact h.c1
  · rw [World.cell?_setCell_other _ _ _ _ (by simp)]; exact h.s0
  · rw [World.cell?_setCell_other _ _ _ _ (by simp)]; exact h.s1
theorem RofMem.new (w : World) : RofMem w 0 ((w.alloc (.cells #[.int .u32 0, .int .i64 0] 27)).alloc (.cells #[.int .u32 0, .int .i64 0] 27)) := by
  have e1 : (w.alloc (.cells #[.int .u32 0, .int .i64 0] 27)).heap.size = w.heap.size + 1 := by simp
  refine ⟨new_cell e1.symm rfl, new_cell e1.symm rfl, alloc_cell (new_cell rfl rfl) _, alloc_cell (new_cell rfl rfl) _, fun b j h1 h2 => ?_, bel_alloc (bel_alloc (Below.refl _ _) _) _⟩
  by_cases e : b = w.heap.size
  · subst e
    rw [frozen_old _ _ ⟨w.heap.size, j, none⟩ (by simp)]
    exact frozen_new _ _ _ _
  · obtain rfl : b = w.heap.size + 1 := by omega
    rw [← e1]; exact frozen_new _ _ _ _
set_option maxRecDepth 100000 in
set_option maxHeartbeats 1000000 in
theorem rof_any (a : Option Addr) (c : Nat) (l : List Int) (w : World) (hr : IntRow .i64 w a l) (hl : l.length ≤ 1000) : Calls Tryd.prog 6 #[.slice a l.length c] w fun r w' => r = .returned (rosV (ofP l) 0) ∧ Below w.heap.size w w' := by
  have HR := Lib.hid hr
  have HN := Lib.hid (RofMem.new w)
  clear hr
  go_enter Tryd.func6, Tryd.ntmps6
  go_wp2
  go_loopw [8] (fun i wr => ∃ k : Nat, k ≤ l.length ∧ i = .int .i64 k ∧ Hid (RofMem w (ofP (l.take k)) wr)) (fun i _ => l.length - (intOf i).toNat)
  case atStart => exact ⟨0, by omega, rfl, HN⟩
  case round =>
    obtain ⟨k, hk, rfl, HM⟩ := hrel
    have hi0 : (0 : Int) ≤ (k : Int) := by omega
    by_cases hlt : k < l.length
    · have hi1 : (k : Int) < (l.length : Int) := by omega
      obtain ⟨b, off, rfl, hc⟩ := HR.out.below HM.out.bel (by omega)
      have hv := hc k hlt
      have hbl := block_lt_of_cell hv
      simp only at hbl
      have HS := Lib.hid (foldP_take hlt)
      have HLT := Lib.hid (ofP_lt (l.take k))
      generalize l[k] = x at hv HS
      generalize ofP (l.take k) = n at HM HS HLT
      have HPL := Lib.hid (fun W => player_any x W)
      clear hc
      by_cases hin : 0 ≤ x ∧ x < 32
      · obtain ⟨j, rfl⟩ : ∃ j : Nat, x = (j : Int) := ⟨x.toNat, by omega⟩
        rw [inR_iff.2 hin] at HPL
        have hj : j < 32 := by omega
        have hj0 : (0 : Int) ≤ (j : Int) := by omega
        have HOR := Lib.hid (orR_bit n j HLT.out hj)
        have HS2 := Lib.hid (show ofP (l.take (k + 1)) = n ||| 2 ^ j by rw [HS.out]; unfold addP; rw [if_pos hin]; rfl)
        clear HS hin
        go_wp2_with fail
        refine (HPL.out _).mono ?_
        rintro r w1 ⟨rfl, rfl⟩
        have c0 := HM.out.c0
        have f0 := HM.out.fr (w.heap.size + 1) 0 (by omega) (by omega)
        have hlw := HM.out.lt
        have HM2 := Lib.hid (HM.out.set (n ||| 2 ^ j))
        rw [← HOR.out] at HM2
        go_upto_region 1 with (fail)
        go_region
        all_goals
          go_wp2
          go_roundw
          case rel => exact ⟨k + 1, by omega, by go_num, by rw [HS2.out]; exact Lib.hid (by first | exact HM2.out | exact HM2.out.keep (Below.refl _ _).drew)⟩
          case measure => simp [intOf] <;> omega
      · have e0 : inR x = false := by
          cases hq : inR x with
          | false => rfl
          | true => exact absurd (inR_iff.1 hq) hin
        rw [e0] at HPL
        have HS2 := Lib.hid (show ofP (l.take (k + 1)) = n by rw [HS.out]; unfold addP; rw [if_neg hin])
        clear HS hin
        go_wp2_with fail
        refine (HPL.out _).mono ?_
        rintro r w1 ⟨rfl, rfl⟩
        go_wp2
        go_roundw
        case rel => exact ⟨k + 1, by omega, by go_num, by rw [HS2.out]; exact HM⟩
        case measure => simp [intOf] <;> omega
    · obtain rfl : k = l.length := by omega
      rw [List.take_length] at HM
      have hi1 : (l.length : Int) ≤ (l.length : Int) := by omega
      have c0 := HM.out.c0
      have c1 := HM.out.c1
      have s0 := HM.out.s0
      have s1 := HM.out.s1
      have f0 := HM.out.fr w.heap.size 0 (by omega) (by omega)
      have f1 := HM.out.fr w.heap.size 1 (by omega) (by omega)
      have hlw := HM.out.lt
      obtain ⟨n, hn⟩ : ∃ n, ofP l = n := ⟨_, rfl⟩
      rw [hn] at c0 HM
      have HNN := Lib.hid hn
      clear hn
      go_wp2
      exact bodyPost_ret (v := .agg #[.int .u32 (n : Int), .int .i64 0]) (by simp [results, Tryd.results6, go_sem, s0, s1]) rfl ⟨by rw [HNN.out]; rfl, by repeat (first | exact HM.out.bel | refine Below.setCell ?_ (by simp) _)⟩
end Go.Proofs.YtcbadcbnknmdnaaDoor
