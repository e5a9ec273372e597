/-
  Layer 18: With: behind changes.
-/
import Derived.Test.YtcbadcbnknmdnaaDoorRos6
namespace Go.Proofs.YtcbadcbnknmdnaaDoor
open Go.RowKit
set_option linter.unusedVariables false

/-- With under way: the roster that came, the box of the answer, the roster behind. -/
structure WiMem (w : World) (n : Nat) (e : Int) (n' : Nat) (e' : Int) (wr : World) : Prop where
  r0 : wr.cell? ⟨w.heap.size, 0, none⟩ = some (.int .u32 (n : Int))
  r1 : wr.cell? ⟨w.heap.size, 1, none⟩ = some (.int .i64 e)
  s0 : wr.cell? ⟨w.heap.size + 1, 0, none⟩ = some (.int .u32 0)
  s1 : wr.cell? ⟨w.heap.size + 1, 1, none⟩ = some (.int .i64 0)
  b0 : wr.cell? ⟨w.heap.size + 2, 0, none⟩ = some (.int .u32 (n' : Int))
  b1 : wr.cell? ⟨w.heap.size + 2, 1, none⟩ = some (.int .i64 e')
  fr : ∀ b j, w.heap.size ≤ b → b ≤ w.heap.size + 2 → wr.frozen? ⟨b, j, none⟩ = false
  bel : Below w.heap.size w wr
theorem WiMem.lt {w : World} {n : Nat} {e : Int} {n' : Nat} {e' : Int} {wr : World} (h : WiMem w n e n' e' wr) : w.heap.size + 2 < wr.heap.size := block_lt_of_cell h.b0
theorem WiMem.keep {w : World} {n : Nat} {e : Int} {n' : Nat} {e' : Int} {wr w' : World} (h : WiMem w n e n' e' wr) (hb : Below wr.heap.size wr w') : WiMem w n e n' e' w' := by
  have hl := h.lt
  have hc : ∀ b j, b ≤ w.heap.size + 2 → w'.cell? ⟨b, j, none⟩ = wr.cell? ⟨b, j, none⟩ := fun b j hb2 => hb.cell (p := ⟨b, j, none⟩) (show b < wr.heap.size by omega)
  refine ⟨?_, ?_, ?_, ?_, ?_, ?_, fun b j h1 h2 => (hb.frozen (p := ⟨b, j, none⟩) (show b < wr.heap.size by omega)).trans (h.fr b j h1 h2), h.bel.trans (hb.mono h.bel.size)⟩
  · rw [hc _ _ (by omega)]; exact h.r0
  · rw [hc _ _ (by omega)]; exact h.r1
  · rw [hc _ _ (by omega)]; exact h.s0
  · rw [hc _ _ (by omega)]; exact h.s1
  · rw [hc _ _ (by omega)]; exact h.b0
  · rw [hc _ _ (by omega)]; exact h.b1
theorem WiMem.set {w : World} {n : Nat} {e : Int} {n' : Nat} {e' : Int} {wr : World} (h : WiMem w n e n' e' wr) (q : Nat) : WiMem w n e q e' (wr.setCell ⟨w.heap.size + 2, 0, none⟩ (.int .u32 (q : Int))) := by
  refine ⟨?_, ?_, ?_, ?_, World.cell?_setCell_same' _ _ _ (by rw [h.b0]; rfl), ?_, fun b j h1 h2 => by rw [World.frozen?_setCell]; exact h.fr b j h1 h2, h.bel.setCell (p := ⟨w.heap.size + 2, 0, none⟩) (by simp) _⟩
  · rw [World.cell?_setCell_other _ _ _ _ (by simp)]; exact h.r0
  · rw [World.cell?_setCell_other _ _ _ _ (by simp)]; exact h.r1
  · rw [World.cell?_setCell_other _ _ _ _ (by simp)]; exact h.s0
  · rw [World.cell?_setCell_other _ _ _ _ (by simp)]; exact h.s1
  · rw [World.cell?_setCell_other _ _ _ _ (by simp)]; exact h.b1
theorem WiMem.set1 {w : World} {n : Nat} {e : Int} {n' : Nat} {e' : Int} {wr : World} (h : WiMem w n e n' e' wr) (q : Int) : WiMem w n e n' q (wr.setCell ⟨w.heap.size + 2, 1, none⟩ (.int .i64 q)) := by
  refine ⟨?_, ?_, ?_, ?_, ?_, World.cell?_setCell_same' _ _ _ (by rw [h.b1]; rfl), fun b j h1 h2 => by rw [World.frozen?_setCell]; exact h.fr b j h1 h2, h.bel.setCell (p := ⟨w.heap.size + 2, 1, none⟩) (by simp) _⟩
  · rw [World.cell?_setCell_other _ _ _ _ (by simp)]; exact h.r0
  · rw [World.cell?_setCell_other _ _ _ _ (by simp)]; exact h.r1
  · rw [World.cell?_setCell_other _ _ _ _ (by simp)]; exact h.s0
  · rw [World.cell?_setCell_other _ _ _ _ (by simp)]; exact h.s1
  · rw [World.cell?_setCell_other _ _ _ _ (by simp)]; exact h.b0
theorem WiMem.new (w : World) (n : Nat) (e : Int) : WiMem w n e n e (((w.alloc (.cells #[.int .u32 (n : Int), .int .i64 e] 27)).alloc (.cells #[.int .u32 0, .int .i64 0] 27)).alloc (.cells #[.int .u32 (n : Int), .int .i64 e] 27)) := by
  have e1 : (w.alloc (.cells #[.int .u32 (n : Int), .int .i64 e] 27)).heap.size = w.heap.size + 1 := by simp
  have e2 : ((w.alloc (.cells #[.int .u32 (n : Int), .int .i64 e] 27)).alloc (.cells #[.int .u32 0, .int .i64 0] 27)).heap.size = w.heap.size + 2 := by simp
  refine ⟨alloc_cell (alloc_cell (new_cell rfl rfl) _) _, alloc_cell (alloc_cell (new_cell rfl rfl) _) _, alloc_cell (new_cell e1.symm rfl) _, alloc_cell (new_cell e1.symm rfl) _, new_cell e2.symm rfl, new_cell e2.symm rfl, fun b j h1 h2 => ?_, bel_alloc (bel_alloc (bel_alloc (Below.refl _ _) _) _) _⟩
  by_cases h3 : b = w.heap.size + 2
  · subst h3
    rw [← e2]; exact frozen_new _ _ _ _
  · rw [frozen_old _ _ ⟨b, j, none⟩ (by simp; omega)]
    by_cases h4 : b = w.heap.size + 1
    · subst h4
      rw [← e1]; exact frozen_new _ _ _ _
    · obtain rfl : b = w.heap.size := by omega
      rw [frozen_old _ _ ⟨w.heap.size, j, none⟩ (by simp)]
      exact frozen_new _ _ _ _
theorem chk_pos {n : Nat} {c : Chg} : chk n c = 0 ∨ ¬ chk n c = 0 := Classical.em _
def WithPost (n : Nat) (e : Int) (m : List Chg) (w : World) (r : Ending) (w' : World) : Prop := r = .returned (.tuple #[rosV (withP n e m).1 (withP n e m).2.1, .int .i64 (withP n e m).2.2]) ∧ Below w.heap.size w w'
def ChSmall (m : List Chg) : Prop := m.length ≤ 1000 ∧ ∀ c ∈ m, c.v.length ≤ 1000
set_option maxRecDepth 100000 in
set_option maxHeartbeats 4000000 in
theorem rwith_any (n : Nat) (e : Int) (a : Option Addr) (cp : Nat) (ls : List (List Value)) (m : List Chg) (w : World) (hn : n < 4294967296) (he : 0 ≤ e ∧ e ≤ 1000000) (hr : VRow 3 w a ls) (hi : ChIs w ls m) (hs : ChSmall m) (N : Nat) (hN : m.length = N) : Calls Tryd.prog 17 #[rosV n e, .slice a N cp] w (WithPost n e m w) := by
  subst hN
  have HW := Lib.hid (WiMem.new w n e)
  have HROW := Lib.hid (fun W (hW : Below w.heap.size w W) => VRow.touch (by decide) (hi.wide) hr (touch_of_below (S := fun _ => False) hW) (fun _ _ => id))
  have HIS := Lib.hid hi
  have HSM := Lib.hid hs
  have HN := Lib.hid hn
  have hm1 := hs.1
  have HF : Hid (∀ n' e' z W, withP n e m = (n', e', z) → Below w.heap.size w W → WithPost n e m w (.returned (.tuple #[.agg #[.int .u32 (n' : Int), .int .i64 e'], .int .i64 z])) W) := Lib.hid fun n' e' z W h1 h2 => ⟨by rw [h1]; rfl, h2⟩
  generalize hPost : WithPost n e m w = Post at HF ⊢
  clear hPost hr hi hs hn
  unfold rosV
  go_enter Tryd.func17, Tryd.ntmps17
  go_wp2
  generalize hD : m.length = D
  have HD := Lib.hid hD
  rw [hD] at hm1
  clear hD
  go_loopw [13] (fun i wr => ∃ k : Nat, k ≤ D ∧ i = .int .i64 k ∧ Hid ((runP n (m.take k)).2 = 0 ∧ WiMem w n e (runP n (m.take k)).1 (e + k) wr)) (fun i _ => D - (intOf i).toNat)
  case atStart => exact ⟨0, by omega, rfl, Lib.hid ⟨rfl, by simpa [runP] using HW.out⟩⟩
  case round =>
    obtain ⟨k, hk, rfl, HM⟩ := hrel
    have hi0 : (0 : Int) ≤ (k : Int) := by omega
    by_cases hlt : k < D
    · have hi1 : (k : Int) < (D : Int) := by omega
      have hkm : k < m.length := by have := HD.out; omega
      obtain ⟨b, off, x, c, rfl, hb, c0, c1, c2, hact, -⟩ := ch_at (HROW.out _ HM.out.2.bel) HIS.out hkm
      have HT := Lib.hid (runP_take hkm HM.out.1)
      have HSTOP := Lib.hid (runP_stop hkm HM.out.1)
      have HV := Lib.hid (HSM.out.2 _ (List.getElem_mem hkm))
      have HLN := Lib.hid (runP_lt (m.take k) n HN.out)
      have HZ := Lib.hid HM.out.1
      have HMM := Lib.hid HM.out.2
      clear HM
      generalize m[k] = q at c0 c1 c2 hact HT HSTOP HV
      generalize (runP n (m.take k)).1 = n' at HT HSTOP HMM HLN
      obtain ⟨q0, q1, q2⟩ := q
      simp only at c0 c1 c2 hact HV
      have HCK := Lib.hid (show ∀ W, Below w.heap.size w W → Calls Tryd.prog 9 #[rosV n' (e + k), chV q0 q1 x q2.length c] W (ChkPost n' ⟨q0, q1, q2⟩ W) from fun W hW => by
        obtain ⟨x', c', hx, h1, h2, h3, h4⟩ := hact
        simp only [Value.slice.injEq, true_and] at hx
        obtain ⟨rfl, rfl⟩ := hx
        exact rcheck_any n' (e + k) q0 q1 x c q2 W HLN.out (h3.below hW) HV.out)
      unfold rosV chV at HCK
      clear hact hkm
      have hbig := HMM.out.lt
      have HM2 := Lib.hid (HMM.out.keep (bel_alloc (Below.refl _ _) (.cells #[.int .i64 q0, .int .i64 q1, .slice x q2.length c] 34)))
      have b0 := HM2.out.b0
      have b1 := HM2.out.b1
      have hbig2 := HM2.out.lt
      go_wp2_with fail
      refine (HCK.out _ HM2.out.bel).mono ?_
      rintro r w2 ⟨rfl, hb2⟩
      have HM3 := Lib.hid (HM2.out.keep hb2)
      have z1 : w2.cell? ⟨wr.heap.size, 1, none⟩ = some (.int .i64 q1) := (hb2.cell (p := ⟨wr.heap.size, 1, none⟩) (by simp)).trans (new_cell rfl rfl)
      have hwr2 : wr.heap.size < w2.heap.size := block_lt_of_cell z1
      generalize wr.heap.size = X at z1 hwr2 hbig ⊢
      clear hb2 HM2 HMM b0 b1 c0 c1 c2 hbig2 HCK
      have r0 := HM3.out.r0
      have r1 := HM3.out.r1
      have b0 := HM3.out.b0
      have b1 := HM3.out.b1
      have s0 := HM3.out.s0
      have s1 := HM3.out.s1
      have hbig2 := HM3.out.lt
      have f10 := HM3.out.fr (w.heap.size + 1) 0 (by omega) (by omega)
      have f11 := HM3.out.fr (w.heap.size + 1) 1 (by omega) (by omega)
      have f20 := HM3.out.fr (w.heap.size + 2) 0 (by omega) (by omega)
      have f21 := HM3.out.fr (w.heap.size + 2) 1 (by omega) (by omega)
      by_cases hz : chk n' ⟨q0, q1, q2⟩ = 0
      · have HRNG := Lib.hid (chk_range hz)
        have hT2 := HT.out
        rw [if_pos hz] at hT2
        have HT2 := Lib.hid hT2
        rw [hz]
        obtain ⟨j, rfl⟩ : ∃ j : Nat, q1 = (j : Int) := ⟨q1.toNat, by have := HRNG.out.1; simp only at this; omega⟩
        have hj : j < 32 := by have := HRNG.out.2.1; simp only at this; omega
        have hj0 : (0 : Int) ≤ (j : Int) := by omega
        have HX := Lib.hid (xorR_bit n' j HLN.out hj)
        have HDO := Lib.hid (show doP n' ⟨q0, (j : Int), q2⟩ = n' ^^^ 2 ^ j from rfl)
        have HM4 := Lib.hid (HM3.out.set (n' ^^^ 2 ^ j))
        rw [← HX.out] at HM4
        clear hz hT2 HT HSTOP HRNG
        go_upto_region 1 with (fail)
        go_region
        all_goals
          have HM5 := Lib.hid (HM4.out.keep (Below.refl _ _).drew)
          have c0 := HM5.out.b0
          have c1 := HM5.out.b1
          have g21 := HM5.out.fr (w.heap.size + 2) 1 (by omega) (by omega)
          have hbig3 := HM5.out.lt
          have hwe : IntKind.i64.wrap (e + (k : Int) + 1) = e + (k : Int) + 1 := by rw [IntKind.wrap_i64]; omega
          have HM6 := Lib.hid (HM5.out.set1 (e + (k : Int) + 1))
          rw [HX.out] at HM6
          go_wp2
          go_roundw
          case rel => exact ⟨k + 1, by omega, by go_num, Lib.hid ⟨by rw [HT2.out], by rw [HT2.out, HDO.out, show e + ((k + 1 : Nat) : Int) = e + (k : Int) + 1 by omega]; rw [HX.out] ; exact HM6.out⟩⟩
          case measure => simp [intOf] <;> omega
      · have HWP := Lib.hid (show withP n e m = (n, e, chk n' ⟨q0, q1, q2⟩) by unfold withP; rw [HSTOP.out hz]; simp only; rw [if_neg hz])
        generalize chk n' ⟨q0, q1, q2⟩ = z at hz HWP ⊢
        have hzb : (z == 0) = false := by rw [beq_eq_false_iff_ne]; exact hz
        clear HT HSTOP
        go_wp2
        exact bodyPost_ret (v := .tuple #[.agg #[.int .u32 (n : Int), .int .i64 e], .int .i64 z]) (by simp [results, Tryd.results17, go_sem, s0, s1]) rfl (HF.out _ _ _ _ HWP.out (by repeat (first | exact HM3.out.bel | refine Below.setCell ?_ (by simp) _)))
    · obtain rfl : k = D := by omega
      have HWP := Lib.hid (show withP n e m = ((runP n (m.take k)).1, e + k, 0) by
        have h1 := HM.out.1
        rw [List.take_of_length_le (by rw [HD.out]; exact Nat.le_refl _)] at h1 ⊢
        unfold withP
        rw [if_pos h1, HD.out])
      have HMM := Lib.hid HM.out.2
      clear HM
      generalize (runP n (m.take k)).1 = n' at HWP HMM
      have hi1 : (k : Int) ≤ (k : Int) := by omega
      have r0 := HMM.out.r0
      have r1 := HMM.out.r1
      have b0 := HMM.out.b0
      have b1 := HMM.out.b1
      have s0 := HMM.out.s0
      have s1 := HMM.out.s1
      have hbig := HMM.out.lt
      have f10 := HMM.out.fr (w.heap.size + 1) 0 (by omega) (by omega)
      have f11 := HMM.out.fr (w.heap.size + 1) 1 (by omega) (by omega)
      go_wp2
      exact bodyPost_ret (v := .tuple #[.agg #[.int .u32 (n' : Int), .int .i64 (e + k)], .int .i64 0]) (by simp [results, Tryd.results17, go_sem, s0, s1]) rfl (HF.out _ _ _ _ HWP.out (by repeat (first | exact HMM.out.bel | refine Below.setCell ?_ (by simp) _)))
end Go.Proofs.YtcbadcbnknmdnaaDoor
