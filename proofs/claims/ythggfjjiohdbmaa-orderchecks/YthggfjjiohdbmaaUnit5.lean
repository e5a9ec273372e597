/-
  Layer 8: a unit goes.
-/
import Derived.Test.YthggfjjiohdbmaaUnit4
namespace Go.Proofs.Ythggfjjiohdbmaa
open Go.RowKit
set_option linter.unusedVariables false

theorem setRow_touch (w : World) (g : Nat) (cs : Array Value) : Touch (fun k => k = g) w (w.setRow g cs) := by
  refine ⟨rfl, rfl, rfl, by simp [World.setRow], fun k hk hs => ?_⟩
  simp only [World.setRow, Array.getElem?_modify]
  rw [if_neg (fun e => hs e.symm)]
theorem recCells_erase (us : List Un) (i : Nat) (h : i < us.length) : recCells (unsI (us.eraseIdx i)) = recCells (unsI (us.take i)) ++ recCells (unsI (us.drop (i + 1))) := by
  rw [List.eraseIdx_eq_take_drop_succ, unsI_append, recCells_append]
theorem recCells_take (us : List Un) (i : Nat) (h : i ≤ us.length) : (recCells (unsI us)).take (i * 6) = recCells (unsI (us.take i)) := by
  have e : us = us.take i ++ us.drop i := (List.take_append_drop i us).symm
  conv => lhs; rw [e, unsI_append, recCells_append]
  have hl : (recCells (unsI (us.take i))).length = i * 6 := by rw [recCells_len (unsI_wide _), unsI_len, List.length_take, Nat.min_eq_left h]
  exact List.take_left' hl
def zero6 : List Value := [.int .i64 0, .int .i64 0, .int .i64 0, .int .i64 0, .int .i64 0, .int .i64 0]
theorem del_run {w : World} {g c m i : Nat} {us : List Un} (hus : us.length = m + 1) (hi : i ≤ m) (hm : m ≤ 1000) (h : w.ownsRow 0 61 6 (.slice (some ⟨g, 0, none⟩) (m + 1) c) (m + 1) (recCells (unsI us))) :
    ∃ A W1 W2, (if c = i + 1 then some (⟨g, 0, none⟩ : Addr) else some ⟨g, (i + 1) * 6, none⟩) = some A ∧ m + 1 ≤ c ∧ c ≤ maxLen ∧
      (Builtin.append_ #[48, 48] 48 #[.slice (some ⟨g, 0, none⟩) i c, .slice (some A) (m - i) (c - (i + 1))]).run Try.prog w = .ok (.slice (some ⟨g, 0, none⟩) m c) W1 ∧
      (∀ ty, (Builtin.clear_ #[48] ty #[.slice (some ⟨g, m * 6, none⟩) 1 (c - m)]).run Try.prog W1 = .ok (.tuple #[]) W2) ∧
      W2.ownsRow 0 61 6 (.slice (some ⟨g, 0, none⟩) m c) m (recCells (unsI (us.eraseIdx i))) ∧ Touch (fun k => k = g) w W2 := by
  obtain ⟨i0, hinf, hz0, hz1, hz2⟩ := info_is unTy.info
  have h' := h
  rcases h'.2 with ⟨hv, -⟩ | ⟨g', cap, cur, hv, -, hg, hnc, hcm, hcs, htake⟩
  · simp at hv
  · simp only [Value.slice.injEq, Option.some.injEq, Addr.mk.injEq, and_true, true_and] at hv
    obtain ⟨rfl, rfl⟩ := hv
    have hclen : cur.toList.length = c * 6 := by simpa using hcs
    have hnl : (recCells (unsI (us.drop (i + 1)))).length = (m - i) * 6 := by rw [recCells_len (unsI_wide _), unsI_len, List.length_drop, hus]; omega
    obtain ⟨A, hA, hsrc⟩ : ∃ A : Addr, (if c = i + 1 then some (⟨g, 0, none⟩ : Addr) else some ⟨g, (i + 1) * 6, none⟩) = some A ∧ ∀ t u, (recCells (unsI (us.drop (i + 1))))[t]? = some u → w.cell? (A.add t) = some u := by
      by_cases hc : c = i + 1
      · refine ⟨⟨g, 0, none⟩, by simp [hc], fun t u hu => ?_⟩
        have h0 : (recCells (unsI (us.drop (i + 1)))).length = 0 := by rw [hnl]; omega
        rw [List.length_eq_zero_iff.1 h0] at hu
        simp at hu
      · refine ⟨⟨g, (i + 1) * 6, none⟩, by simp [hc], fun t u hu => ?_⟩
        refine add_cellR ?_
        have ht : t < (m - i) * 6 := by
          have := (List.getElem?_eq_some_iff.1 hu).1
          rwa [hnl] at this
        have hc2 := h.cells (g := g) rfl ((i + 1) * 6 + t) u (by
          have e : us = us.take (i + 1) ++ us.drop (i + 1) := (List.take_append_drop _ us).symm
          rw [e, unsI_append, recCells_append, List.getElem?_append_right (by rw [recCells_len (unsI_wide _), unsI_len, List.length_take, hus]; omega), recCells_len (unsI_wide _), unsI_len, List.length_take, hus]
          rw [show (i + 1) * 6 + t - min (i + 1) (m + 1) * 6 = t by omega]
          exact hu)
        have := cell_addR hc2
        rwa [Nat.zero_add] at this
    have hrun := run_append_room (P := Try.prog) w 48 48 61 i0 Try.underlying48 hinf g i c cur hg A (m - i) (c - (i + 1)) (recCells (unsI (us.drop (i + 1)))) (by rw [hz1]; exact hnl) hsrc (recCells_one _) (by omega) (by rw [hz1, hnl, hcs]; omega)
    rw [hz1, show i + (m - i) = m by omega, hnl] at hrun
    generalize hcur1 : (cur.toList.take (i * 6) ++ recCells (unsI (us.drop (i + 1))) ++ cur.toList.drop (i * 6 + (m - i) * 6)).toArray = cur1 at hrun
    have hc1l : cur1.toList.length = c * 6 := by
      rw [← hcur1]; simp only [List.length_append, List.length_take, List.length_drop, hclen, hnl]; omega
    have hc1t : cur1.toList.take (m * 6) = recCells (unsI (us.eraseIdx i)) := by
      have e1 : cur.toList.take (i * 6) = recCells (unsI (us.take i)) := by
        rw [← recCells_take us i (by omega), ← htake, List.take_take, Nat.min_eq_left (by omega)]
      have e2 : (recCells (unsI (us.take i)) ++ recCells (unsI (us.drop (i + 1)))).length = m * 6 := by
        rw [List.length_append, hnl, recCells_len (unsI_wide _), unsI_len, List.length_take, hus]; omega
      rw [← hcur1, recCells_erase us i (by omega), e1]
      exact List.take_left' e2
    have hg1 := setRow_heap w g cur cur1 61 (0, 0) hg
    have t1 := setRow_touch w g cur1
    generalize w.setRow g cur1 = W1 at hrun hg1 t1
    have hsz : cur1.size = c * 6 := by simpa using hc1l
    have hst := run_storeCells_at Try.prog g (m * 6) 61 zero6 0 cur1 W1 hg1 (by rw [hsz]; simp [zero6]; omega) (by intro v hv; simp [zero6] at hv; subst hv; rfl)
    generalize hcur2 : (cur1.toList.take (m * 6 + 0) ++ zero6 ++ cur1.toList.drop (m * 6 + 0 + zero6.length)).toArray = cur2 at hst
    have hg2 := setRow_heap W1 g cur1 cur2 61 (0, 0) hg1
    refine ⟨A, W1, W1.setRow g cur2, hA, hnc, hcm, hrun, fun ty => ?_, ⟨?_, .inr ⟨g, c, cur2, rfl, Nat.zero_le _, hg2, by omega, hcm, ?_, ?_⟩⟩, t1.trans (setRow_touch W1 g cur2)⟩
    · have hzc : (Builtin.zeroCells (Value.agg #[.int .i64 0, .int .i64 0, .int .i64 0, .int .i64 0, .int .i64 0, .int .i64 0]).cells 1).toList = zero6 := by kernel_rfl
      simp [Builtin.clear_, run_underlying Try.underlying48, zeroValue, typeInfo, hinf, hz0, hzc, hst]
    · rw [recCells_len (unsI_wide _), unsI_len, List.length_eraseIdx, hus, if_pos (by omega)]; rfl
    · rw [← hcur2]
      simp only [List.size_toArray, List.length_append, List.length_take, List.length_drop, hc1l, List.length_cons, List.length_nil, zero6]
      omega
    · rw [← hc1t, ← hcur2]
      show (cur1.toList.take (m * 6 + 0) ++ _ ++ _).take (m * 6) = _
      rw [Nat.add_zero, List.append_assoc, List.take_append_of_le_length (by rw [List.length_take, hc1l]; omega), List.take_take, Nat.min_self]
set_option maxRecDepth 100000 in
set_option maxHeartbeats 2000000 in
theorem delete_any {w : World} {g c m i : Nat} {us : List Un} (hus : us.length = m + 1) (hi : i ≤ m) (hm : m ≤ 1000) (h : w.ownsRow 0 61 6 (.slice (some ⟨g, 0, none⟩) (m + 1) c) (m + 1) (recCells (unsI us))) :
    Calls Try.prog 36 #[.slice (some ⟨g, 0, none⟩) (m + 1) c, .int .i64 i, .int .i64 ((i : Int) + 1)] w fun r w' => r = .returned (.slice (some ⟨g, 0, none⟩) m c) ∧ w'.ownsRow 0 61 6 (.slice (some ⟨g, 0, none⟩) m c) m (recCells (unsI (us.eraseIdx i))) ∧ Touch (fun k => k = g) w w' := by
  have hd : w.drew.ownsRow 0 61 6 (.slice (some ⟨g, 0, none⟩) (m + 1) c) (m + 1) (recCells (unsI us)) := h
  obtain ⟨A, W1, W2, hA, hmc, hcm, hrun, hclr, hown, ht⟩ := del_run hus hi hm hd
  have HRUN := Lib.hid hrun
  have HCLR := Lib.hid hclr
  have HFIN := Lib.hid (show W2.ownsRow 0 61 6 (.slice (some ⟨g, 0, none⟩) m c) m (recCells (unsI (us.eraseIdx i))) ∧ Touch (fun k => k = g) w W2 from ⟨hown, ht.drew0⟩)
  unfold maxLen at hcm
  have HA := Lib.hid hA
  clear hrun hclr hown ht hd h hA hus
  have hne : ((i : Int) == (i : Int) + 1) = false := by simp; omega
  go_enter Try.func36, Try.ntmps36
  go_wp2
  have i1 : (0 : Int) ≤ (i : Int) := by omega
  have i2 : (i : Int) ≤ (c : Int) := by omega
  have i3 : (0 : Int) ≤ (i : Int) + 1 := by omega
  have i4 : (i : Int) + 1 ≤ (m : Int) + 1 := by omega
  have i5 : (i : Int) + 1 ≤ (c : Int) := by omega
  have i6 : ((i : Int) + 1).toNat = i + 1 := by omega
  have j1 : (0 : Int) ≤ (m : Int) := by omega
  have j2 : (m : Int) ≤ (m : Int) + 1 := by omega
  have j3 : (m : Int) + 1 ≤ (c : Int) := by omega
  have hcl := HCLR.out
  by_cases hc : c = i + 1
  · obtain rfl : i = m := by omega
    have hA := HA.out
    rw [if_pos hc] at hA
    cases hA
    subst hc
    rw [Nat.sub_self, Nat.sub_self] at HRUN
    rw [show i + 1 - i = 1 by omega] at hcl
    clear i2 i4 i5 j3 hmc HA HCLR
    go_region_law (refine step_append_run _ rfl (.tmp 22) (.tmp 25) 48 48 rfl _ _ (by rfl) (by rfl) (.slice (some ⟨g, 0, none⟩) i (i + 1)) W1 HRUN.out ?_)
    all_goals
      go_wp2
      go_ret
      exact ⟨rfl, HFIN.out⟩
  · have hA := HA.out
    rw [if_neg hc] at hA
    cases hA
    clear HCLR HA
    go_region_law (refine step_append_run _ rfl (.tmp 22) (.tmp 25) 48 48 rfl _ _ (by rfl) (by rfl) (.slice (some ⟨g, 0, none⟩) m c) W1 HRUN.out ?_)
    all_goals
      go_wp2
      go_ret
      exact ⟨rfl, HFIN.out⟩
end Go.Proofs.Ythggfjjiohdbmaa
