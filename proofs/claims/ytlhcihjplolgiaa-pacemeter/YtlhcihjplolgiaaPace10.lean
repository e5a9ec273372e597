/-
  Layer 17: the document's own next pace.
-/
import Derived.Test.YtlhcihjplolgiaaPace9
namespace Go.Proofs.Ytlhcihjplolgiaa
open Go.RowKit
set_option linter.unusedVariables false

structure PR (w W : World) (a : Option Addr) (l : List Int) (t d : Int) : Prop where
  row : IntRow .i64 W a l
  bel : Below w.heap.size w W
  x0 : W.cell? ⟨w.heap.size, 0, none⟩ = some (.int .i64 t)
  x1 : W.cell? ⟨w.heap.size, 1, none⟩ = some (.int .i64 d)
  y0 : W.cell? ⟨w.heap.size + 1, 0, none⟩ = some (.int .i64 0)
  y1 : W.cell? ⟨w.heap.size + 1, 1, none⟩ = some (.int .i64 0)
  fx : ∀ j, W.frozen? ⟨w.heap.size, j, none⟩ = false
  fy : ∀ j, W.frozen? ⟨w.heap.size + 1, j, none⟩ = false
set_option maxRecDepth 100000 in
set_option maxHeartbeats 4000000 in
theorem refNext17_any (a : Option Addr) (c : Nat) (l : List Int) (w : World) (hr : IntRow .i64 w a l) (hl : l.length ≤ 1000) (hc : l.length ≤ c) (hg : ∀ x ∈ l, good x) (t d : Int) (hmay : mayP t d = true) :
    Calls Try.prog 46 #[.slice a l.length c, .agg #[.int .i64 t, .int .i64 d]] w (MNext (last8 l) t d w) := by
  have HWO := Lib.hid (fun W h => refWorst17_any a c l W h hl hc)
  have HME := Lib.hid (fun W h => refMean17_any a c l W h hl hc hg)
  have HFIN : Hid (∀ T D W, nextS (last8 l) t d = (T, D) → Below w.heap.size w W → MNext (last8 l) t d w (.returned (.agg #[.int .i64 T, .int .i64 D])) W) := Lib.hid (fun T D W e hb => MNext.of e hb)
  have hA : Below w.heap.size w ((w.alloc (.cells #[.int .i64 t, .int .i64 d] 86)).alloc (.cells #[.int .i64 0, .int .i64 0] 86)) := bel_alloc (bel_alloc (Below.refl _ _) _) _
  have HPF := Lib.hid (show PR w ((w.alloc (.cells #[.int .i64 t, .int .i64 d] 86)).alloc (.cells #[.int .i64 0, .int .i64 0] 86)) a l t d from ⟨hr.below hA, hA, alloc_cell (new_cell rfl rfl) _, alloc_cell (new_cell rfl rfl) _, new_cell (by simp) rfl, new_cell (by simp) rfl, fun j => (frozen_old _ _ ⟨w.heap.size, j, none⟩ (by simp)).trans (frozen_new _ _ _ _), fun j => by simp⟩)
  have hll : (last8 l).length = min l.length 8 := by simp [last8]; omega
  obtain ⟨⟨t1, t2⟩, d1, d2⟩ := mayP_iff.1 hmay
  clear hr hg hA
  by_cases h8 : l.length < 8
  · have HE := Lib.hid (HFIN.out t d)
    have HN := Lib.hid (show nextS (last8 l) t d = (t, d) by unfold nextS; rw [if_pos (.inl (by omega))])
    have h8' : (l.length : Int) < 8 := by omega
    generalize MNext (last8 l) t d w = Post at *
    clear h8 HFIN hll hmay HWO HME
    go_enter Try.func46, Try.ntmps46
    go_wp2
    exact bodyPost_ret (v := .agg #[.int .i64 t, .int .i64 d]) (by simp [results, Try.results46, go_sem]) rfl (HE.out _ HN.out (by repeat (first | exact Below.refl _ _ | refine Below.setCell ?_ (by simp) _ | refine bel_alloc ?_ _)))
  · have h8' : (8 : Int) ≤ (l.length : Int) := by omega
    have h8'' : decide ((l.length : Int) < 8) = false := decide_eq_false (by omega)
    have HN := Lib.hid (show nextS (last8 l) t d = if d < needS (last8 l) t ∧ d < 6 then (t, d + 1) else if d < needS (last8 l) t ∧ t < 64 then (t + 1, d) else if needS (last8 l) t < d ∧ 1 < d ∧ meanS (last8 l) < t * (d - 1) then (t, d - 1) else (t, d) by unfold nextS; rw [if_neg (by simp [hmay]; omega)]; rfl)
    have q0 := worst_nn (last8 l)
    have hmif : (if (1048576 : Int) < worstS (last8 l) then (1048576 : Int) else worstS (last8 l)) = min (worstS (last8 l)) 1048576 := (min_if _ _).symm
    have hnd : needS (last8 l) t = (min (worstS (last8 l)) 1048576 + t - 1) / t := rfl
    have hm0 : 0 ≤ min (worstS (last8 l)) 1048576 := by omega
    have hm1 : min (worstS (last8 l)) 1048576 ≤ 1048576 := by omega
    rw [ceil_eq _ t t1 hm0] at hnd
    clear hmif
    generalize hmin : min (worstS (last8 l)) 1048576 = m at hnd hm0 hm1
    generalize worstS (last8 l) = q at *
    have hq1 : t * (m / t) ≤ m := Int.mul_ediv_self_le (by omega)
    have hd0 : 0 ≤ m / t := Int.ediv_nonneg (by omega) (by omega)
    have hd1 : m / t ≤ m := Int.ediv_le_self _ (by omega)
    have htd : m.tdiv t = m / t := Int.tdiv_eq_ediv_of_nonneg (by omega)
    have hq0 : 0 ≤ m / t * t := Int.mul_nonneg hd0 (by omega)
    rw [Int.mul_comm] at hq1
    generalize hz : m / t = z at *
    generalize hN : needS (last8 l) t = N at HN hnd
    have hnn : (z * t < m ∧ decide (z * t < m) = true ∧ N = z + 1) ∨ (m ≤ z * t ∧ decide (z * t < m) = false ∧ N = z) := by
      by_cases h : z * t < m
      · exact .inl ⟨h, decide_eq_true h, by rw [hnd, if_pos h]⟩
      · exact .inr ⟨by omega, decide_eq_false h, by rw [hnd, if_neg h]⟩
    clear hN hnd
    have hp0 : 0 ≤ t * (d - 1) := Int.mul_nonneg (by omega) (by omega)
    have hp1 : t * (d - 1) ≤ 64 * 5 := Int.mul_le_mul (by omega) (by omega) (by omega) (by omega)
    have hv1 : IntKind.i64.wrap (d - 1) = d - 1 := by rw [IntKind.wrap_i64]; omega
    have hv2 : IntKind.i64.wrap (t * (d - 1)) = t * (d - 1) := by rw [IntKind.wrap_i64]; omega
    generalize meanS (last8 l) = M at HME HN
    generalize hP : t * (d - 1) = P at HN
    have HP := Lib.hid hP
    clear hP
    have hcs : (d < N ∧ d < 6) ∨ (d < N ∧ 6 ≤ d ∧ t < 64) ∨ (d < N ∧ 6 ≤ d ∧ 64 ≤ t) ∨ (N ≤ d ∧ N < d ∧ 1 < d ∧ M < P) ∨ (N ≤ d ∧ N < d ∧ 1 < d ∧ P ≤ M) ∨ (N ≤ d ∧ N < d ∧ d ≤ 1) ∨ (N ≤ d ∧ d ≤ N) := by omega
    clear hmay hll h8
    have HR := HN
    clear HN
    rcases hnn with ⟨n1, n2, hNz⟩ | ⟨n1, n2, hNz⟩
    · rw [hNz] at HR hcs
      clear hNz
      rcases hcs with ⟨c1, c2⟩ | ⟨c1, c2, c3⟩ | ⟨c1, c2, c3⟩ | ⟨c1, c2, c3, c4⟩ | ⟨c1, c2, c3, c4⟩ | ⟨c1, c2, c3⟩ | ⟨c1, c2⟩
      · have HE := Lib.hid (HFIN.out (t) (d + 1))
        have HRR := Lib.hid (show nextS (last8 l) t d = (t, d + 1) by rw [HR.out]; repeat (first | rw [if_pos (by omega)] | rw [if_neg (by omega)]))
        generalize MNext (last8 l) t d w = Post at *
        clear HFIN HR
        have e0 : decide (d < (z + 1)) = true := decide_eq_true (by omega)
        have hcl : d ≤ z ∨ z < d := by omega
        have hcm : d ≤ z := by omega
        go_enter Try.func46, Try.ntmps46
        go_wp2_with fail
        generalize (w.alloc (.cells #[.int .i64 t, .int .i64 d] 86)).alloc (.cells #[.int .i64 0, .int .i64 0] 86) = W at HPF ⊢
        obtain ⟨-, -, x0, x1, y0, y1, fx, fy⟩ := HPF.out
        refine (HWO.out _ HPF.out.row).mono ?_
        rintro r w2 ⟨rfl, rfl⟩
        go_wp2
        exact bodyPost_ret (v := .agg #[.int .i64 (t), .int .i64 (d + 1)]) (by first | (simp [results, Try.results46, go_sem, y0, y1]; done) | (simp [results, Try.results46, go_sem, y0, y1]; decide)) rfl (HE.out _ HRR.out (by repeat (first | exact HPF.out.bel | refine Below.setCell ?_ (by simp) _ | refine bel_alloc ?_ _ | refine bel17_drewN ?_ _ | refine bel17_drew ?_)))
      · have HE := Lib.hid (HFIN.out (t + 1) (d))
        have HRR := Lib.hid (show nextS (last8 l) t d = (t + 1, d) by rw [HR.out]; repeat (first | rw [if_pos (by omega)] | rw [if_neg (by omega)]))
        generalize MNext (last8 l) t d w = Post at *
        clear HFIN HR
        have e0 : decide (d < (z + 1)) = true := decide_eq_true (by omega)
        have hcl : d ≤ z ∨ z < d := by omega
        have hcm : d ≤ z := by omega
        have e4 : (if (64 : Int) < t + 1 then (64 : Int) else t + 1) = t + 1 := if_neg (by omega)
        have e5 : min (t + 1) 64 = t + 1 := by omega
        go_enter Try.func46, Try.ntmps46
        go_wp2_with fail
        generalize (w.alloc (.cells #[.int .i64 t, .int .i64 d] 86)).alloc (.cells #[.int .i64 0, .int .i64 0] 86) = W at HPF ⊢
        obtain ⟨-, -, x0, x1, y0, y1, fx, fy⟩ := HPF.out
        refine (HWO.out _ HPF.out.row).mono ?_
        rintro r w2 ⟨rfl, rfl⟩
        go_wp2
        exact bodyPost_ret (v := .agg #[.int .i64 (t + 1), .int .i64 (d)]) (by first | (simp [results, Try.results46, go_sem, y0, y1]; done) | (simp [results, Try.results46, go_sem, y0, y1]; decide)) rfl (HE.out _ HRR.out (by repeat (first | exact HPF.out.bel | refine Below.setCell ?_ (by simp) _ | refine bel_alloc ?_ _ | refine bel17_drewN ?_ _ | refine bel17_drew ?_)))
      · have HE := Lib.hid (HFIN.out (t) (d))
        have HRR := Lib.hid (show nextS (last8 l) t d = (t, d) by rw [HR.out]; repeat (first | rw [if_pos (by omega)] | rw [if_neg (by omega)]))
        generalize MNext (last8 l) t d w = Post at *
        clear HFIN HR
        have e0 : decide (d < (z + 1)) = true := decide_eq_true (by omega)
        have hcl : d ≤ z ∨ z < d := by omega
        have hcm : d ≤ z := by omega
        obtain rfl : t = 64 := by omega
        go_enter Try.func46, Try.ntmps46
        go_wp2_with fail
        generalize (w.alloc (.cells #[.int .i64 64, .int .i64 d] 86)).alloc (.cells #[.int .i64 0, .int .i64 0] 86) = W at HPF ⊢
        obtain ⟨-, -, x0, x1, y0, y1, fx, fy⟩ := HPF.out
        refine (HWO.out _ HPF.out.row).mono ?_
        rintro r w2 ⟨rfl, rfl⟩
        go_wp2
        exact bodyPost_ret (v := .agg #[.int .i64 (64), .int .i64 (d)]) (by first | (simp [results, Try.results46, go_sem, y0, y1]; done) | (simp [results, Try.results46, go_sem, y0, y1]; decide)) rfl (HE.out _ HRR.out (by repeat (first | exact HPF.out.bel | refine Below.setCell ?_ (by simp) _ | refine bel_alloc ?_ _ | refine bel17_drewN ?_ _ | refine bel17_drew ?_)))
      · have HE := Lib.hid (HFIN.out (t) (d - 1))
        have HRR := Lib.hid (show nextS (last8 l) t d = (t, d - 1) by rw [HR.out]; repeat (first | rw [if_pos (by omega)] | rw [if_neg (by omega)]))
        generalize MNext (last8 l) t d w = Post at *
        clear HFIN HR
        have e1 : decide ((z + 1) < d) = true := decide_eq_true (by omega)
        have e2 : decide (1 < d) = true := decide_eq_true (by omega)
        have e3 : decide (M < t * (d - 1)) = true := decide_eq_true (by rw [HP.out]; exact c4)
        have hcl : d ≤ z ∨ z < d := by omega
        go_enter Try.func46, Try.ntmps46
        go_wp2_with fail
        generalize (w.alloc (.cells #[.int .i64 t, .int .i64 d] 86)).alloc (.cells #[.int .i64 0, .int .i64 0] 86) = W at HPF ⊢
        obtain ⟨-, -, x0, x1, y0, y1, fx, fy⟩ := HPF.out
        refine (HWO.out _ HPF.out.row).mono ?_
        rintro r w2 ⟨rfl, rfl⟩
        go_wp2
        go_quiet ((go_at_call 50; exact Calls.quiet_of_same ((HME.out _ (HPF.out.row.below (bel17_drewN (Below.refl _ _) _))).mono fun _ _ h => ⟨h.1, h.2.symm⟩)))
        go_wp2
        exact bodyPost_ret (v := .agg #[.int .i64 (t), .int .i64 (d - 1)]) (by first | (simp [results, Try.results46, go_sem, y0, y1]; done) | (simp [results, Try.results46, go_sem, y0, y1]; decide)) rfl (HE.out _ HRR.out (by repeat (first | exact HPF.out.bel | refine Below.setCell ?_ (by simp) _ | refine bel_alloc ?_ _ | refine bel17_drewN ?_ _ | refine bel17_drew ?_)))
      · have HE := Lib.hid (HFIN.out (t) (d))
        have HRR := Lib.hid (show nextS (last8 l) t d = (t, d) by rw [HR.out]; repeat (first | rw [if_pos (by omega)] | rw [if_neg (by omega)]))
        generalize MNext (last8 l) t d w = Post at *
        clear HFIN HR
        have e1 : decide ((z + 1) < d) = true := decide_eq_true (by omega)
        have e2 : decide (1 < d) = true := decide_eq_true (by omega)
        have e3 : decide (M < t * (d - 1)) = false := decide_eq_false (by rw [HP.out]; omega)
        have hcl : d ≤ z ∨ z < d := by omega
        go_enter Try.func46, Try.ntmps46
        go_wp2_with fail
        generalize (w.alloc (.cells #[.int .i64 t, .int .i64 d] 86)).alloc (.cells #[.int .i64 0, .int .i64 0] 86) = W at HPF ⊢
        obtain ⟨-, -, x0, x1, y0, y1, fx, fy⟩ := HPF.out
        refine (HWO.out _ HPF.out.row).mono ?_
        rintro r w2 ⟨rfl, rfl⟩
        go_wp2
        go_quiet ((go_at_call 50; exact Calls.quiet_of_same ((HME.out _ (HPF.out.row.below (bel17_drewN (Below.refl _ _) _))).mono fun _ _ h => ⟨h.1, h.2.symm⟩)))
        go_wp2
        exact bodyPost_ret (v := .agg #[.int .i64 (t), .int .i64 (d)]) (by first | (simp [results, Try.results46, go_sem, y0, y1]; done) | (simp [results, Try.results46, go_sem, y0, y1]; decide)) rfl (HE.out _ HRR.out (by repeat (first | exact HPF.out.bel | refine Below.setCell ?_ (by simp) _ | refine bel_alloc ?_ _ | refine bel17_drewN ?_ _ | refine bel17_drew ?_)))
      · exfalso; omega
      · have HE := Lib.hid (HFIN.out (t) (d))
        have HRR := Lib.hid (show nextS (last8 l) t d = (t, d) by rw [HR.out]; repeat (first | rw [if_pos (by omega)] | rw [if_neg (by omega)]))
        generalize MNext (last8 l) t d w = Post at *
        clear HFIN HR
        have e1 : decide ((z + 1) < d) = false := decide_eq_false (by omega)
        have hcl : d ≤ z ∨ z < d := by omega
        go_enter Try.func46, Try.ntmps46
        go_wp2_with fail
        generalize (w.alloc (.cells #[.int .i64 t, .int .i64 d] 86)).alloc (.cells #[.int .i64 0, .int .i64 0] 86) = W at HPF ⊢
        obtain ⟨-, -, x0, x1, y0, y1, fx, fy⟩ := HPF.out
        refine (HWO.out _ HPF.out.row).mono ?_
        rintro r w2 ⟨rfl, rfl⟩
        go_wp2
        go_quiet (fail)
        go_wp2
        exact bodyPost_ret (v := .agg #[.int .i64 (t), .int .i64 (d)]) (by first | (simp [results, Try.results46, go_sem, y0, y1]; done) | (simp [results, Try.results46, go_sem, y0, y1]; decide)) rfl (HE.out _ HRR.out (by repeat (first | exact HPF.out.bel | refine Below.setCell ?_ (by simp) _ | refine bel_alloc ?_ _ | refine bel17_drewN ?_ _ | refine bel17_drew ?_)))
    · rw [hNz] at HR hcs
      clear hNz
      rcases hcs with ⟨c1, c2⟩ | ⟨c1, c2, c3⟩ | ⟨c1, c2, c3⟩ | ⟨c1, c2, c3, c4⟩ | ⟨c1, c2, c3, c4⟩ | ⟨c1, c2, c3⟩ | ⟨c1, c2⟩
      · have HE := Lib.hid (HFIN.out (t) (d + 1))
        have HRR := Lib.hid (show nextS (last8 l) t d = (t, d + 1) by rw [HR.out]; repeat (first | rw [if_pos (by omega)] | rw [if_neg (by omega)]))
        generalize MNext (last8 l) t d w = Post at *
        clear HFIN HR
        have e0 : decide (d < z) = true := decide_eq_true (by omega)
        go_enter Try.func46, Try.ntmps46
        go_wp2_with fail
        generalize (w.alloc (.cells #[.int .i64 t, .int .i64 d] 86)).alloc (.cells #[.int .i64 0, .int .i64 0] 86) = W at HPF ⊢
        obtain ⟨-, -, x0, x1, y0, y1, fx, fy⟩ := HPF.out
        refine (HWO.out _ HPF.out.row).mono ?_
        rintro r w2 ⟨rfl, rfl⟩
        go_wp2
        exact bodyPost_ret (v := .agg #[.int .i64 (t), .int .i64 (d + 1)]) (by first | (simp [results, Try.results46, go_sem, y0, y1]; done) | (simp [results, Try.results46, go_sem, y0, y1]; decide)) rfl (HE.out _ HRR.out (by repeat (first | exact HPF.out.bel | refine Below.setCell ?_ (by simp) _ | refine bel_alloc ?_ _ | refine bel17_drewN ?_ _ | refine bel17_drew ?_)))
      · have HE := Lib.hid (HFIN.out (t + 1) (d))
        have HRR := Lib.hid (show nextS (last8 l) t d = (t + 1, d) by rw [HR.out]; repeat (first | rw [if_pos (by omega)] | rw [if_neg (by omega)]))
        generalize MNext (last8 l) t d w = Post at *
        clear HFIN HR
        have e0 : decide (d < z) = true := decide_eq_true (by omega)
        have e4 : (if (64 : Int) < t + 1 then (64 : Int) else t + 1) = t + 1 := if_neg (by omega)
        have e5 : min (t + 1) 64 = t + 1 := by omega
        go_enter Try.func46, Try.ntmps46
        go_wp2_with fail
        generalize (w.alloc (.cells #[.int .i64 t, .int .i64 d] 86)).alloc (.cells #[.int .i64 0, .int .i64 0] 86) = W at HPF ⊢
        obtain ⟨-, -, x0, x1, y0, y1, fx, fy⟩ := HPF.out
        refine (HWO.out _ HPF.out.row).mono ?_
        rintro r w2 ⟨rfl, rfl⟩
        go_wp2
        exact bodyPost_ret (v := .agg #[.int .i64 (t + 1), .int .i64 (d)]) (by first | (simp [results, Try.results46, go_sem, y0, y1]; done) | (simp [results, Try.results46, go_sem, y0, y1]; decide)) rfl (HE.out _ HRR.out (by repeat (first | exact HPF.out.bel | refine Below.setCell ?_ (by simp) _ | refine bel_alloc ?_ _ | refine bel17_drewN ?_ _ | refine bel17_drew ?_)))
      · have HE := Lib.hid (HFIN.out (t) (d))
        have HRR := Lib.hid (show nextS (last8 l) t d = (t, d) by rw [HR.out]; repeat (first | rw [if_pos (by omega)] | rw [if_neg (by omega)]))
        generalize MNext (last8 l) t d w = Post at *
        clear HFIN HR
        have e0 : decide (d < z) = true := decide_eq_true (by omega)
        obtain rfl : t = 64 := by omega
        go_enter Try.func46, Try.ntmps46
        go_wp2_with fail
        generalize (w.alloc (.cells #[.int .i64 64, .int .i64 d] 86)).alloc (.cells #[.int .i64 0, .int .i64 0] 86) = W at HPF ⊢
        obtain ⟨-, -, x0, x1, y0, y1, fx, fy⟩ := HPF.out
        refine (HWO.out _ HPF.out.row).mono ?_
        rintro r w2 ⟨rfl, rfl⟩
        go_wp2
        exact bodyPost_ret (v := .agg #[.int .i64 (64), .int .i64 (d)]) (by first | (simp [results, Try.results46, go_sem, y0, y1]; done) | (simp [results, Try.results46, go_sem, y0, y1]; decide)) rfl (HE.out _ HRR.out (by repeat (first | exact HPF.out.bel | refine Below.setCell ?_ (by simp) _ | refine bel_alloc ?_ _ | refine bel17_drewN ?_ _ | refine bel17_drew ?_)))
      · have HE := Lib.hid (HFIN.out (t) (d - 1))
        have HRR := Lib.hid (show nextS (last8 l) t d = (t, d - 1) by rw [HR.out]; repeat (first | rw [if_pos (by omega)] | rw [if_neg (by omega)]))
        generalize MNext (last8 l) t d w = Post at *
        clear HFIN HR
        have e1 : decide (z < d) = true := decide_eq_true (by omega)
        have e2 : decide (1 < d) = true := decide_eq_true (by omega)
        have e3 : decide (M < t * (d - 1)) = true := decide_eq_true (by rw [HP.out]; exact c4)
        go_enter Try.func46, Try.ntmps46
        go_wp2_with fail
        generalize (w.alloc (.cells #[.int .i64 t, .int .i64 d] 86)).alloc (.cells #[.int .i64 0, .int .i64 0] 86) = W at HPF ⊢
        obtain ⟨-, -, x0, x1, y0, y1, fx, fy⟩ := HPF.out
        refine (HWO.out _ HPF.out.row).mono ?_
        rintro r w2 ⟨rfl, rfl⟩
        go_wp2
        go_quiet ((go_at_call 50; exact Calls.quiet_of_same ((HME.out _ (HPF.out.row.below (bel17_drewN (Below.refl _ _) _))).mono fun _ _ h => ⟨h.1, h.2.symm⟩)))
        go_wp2
        exact bodyPost_ret (v := .agg #[.int .i64 (t), .int .i64 (d - 1)]) (by first | (simp [results, Try.results46, go_sem, y0, y1]; done) | (simp [results, Try.results46, go_sem, y0, y1]; decide)) rfl (HE.out _ HRR.out (by repeat (first | exact HPF.out.bel | refine Below.setCell ?_ (by simp) _ | refine bel_alloc ?_ _ | refine bel17_drewN ?_ _ | refine bel17_drew ?_)))
      · have HE := Lib.hid (HFIN.out (t) (d))
        have HRR := Lib.hid (show nextS (last8 l) t d = (t, d) by rw [HR.out]; repeat (first | rw [if_pos (by omega)] | rw [if_neg (by omega)]))
        generalize MNext (last8 l) t d w = Post at *
        clear HFIN HR
        have e1 : decide (z < d) = true := decide_eq_true (by omega)
        have e2 : decide (1 < d) = true := decide_eq_true (by omega)
        have e3 : decide (M < t * (d - 1)) = false := decide_eq_false (by rw [HP.out]; omega)
        go_enter Try.func46, Try.ntmps46
        go_wp2_with fail
        generalize (w.alloc (.cells #[.int .i64 t, .int .i64 d] 86)).alloc (.cells #[.int .i64 0, .int .i64 0] 86) = W at HPF ⊢
        obtain ⟨-, -, x0, x1, y0, y1, fx, fy⟩ := HPF.out
        refine (HWO.out _ HPF.out.row).mono ?_
        rintro r w2 ⟨rfl, rfl⟩
        go_wp2
        go_quiet ((go_at_call 50; exact Calls.quiet_of_same ((HME.out _ (HPF.out.row.below (bel17_drewN (Below.refl _ _) _))).mono fun _ _ h => ⟨h.1, h.2.symm⟩)))
        go_wp2
        exact bodyPost_ret (v := .agg #[.int .i64 (t), .int .i64 (d)]) (by first | (simp [results, Try.results46, go_sem, y0, y1]; done) | (simp [results, Try.results46, go_sem, y0, y1]; decide)) rfl (HE.out _ HRR.out (by repeat (first | exact HPF.out.bel | refine Below.setCell ?_ (by simp) _ | refine bel_alloc ?_ _ | refine bel17_drewN ?_ _ | refine bel17_drew ?_)))
      · have HE := Lib.hid (HFIN.out (t) (d))
        have HRR := Lib.hid (show nextS (last8 l) t d = (t, d) by rw [HR.out]; repeat (first | rw [if_pos (by omega)] | rw [if_neg (by omega)]))
        generalize MNext (last8 l) t d w = Post at *
        clear HFIN HR
        have e1 : decide (z < d) = true := decide_eq_true (by omega)
        have e2 : decide (1 < d) = false := decide_eq_false (by omega)
        go_enter Try.func46, Try.ntmps46
        go_wp2_with fail
        generalize (w.alloc (.cells #[.int .i64 t, .int .i64 d] 86)).alloc (.cells #[.int .i64 0, .int .i64 0] 86) = W at HPF ⊢
        obtain ⟨-, -, x0, x1, y0, y1, fx, fy⟩ := HPF.out
        refine (HWO.out _ HPF.out.row).mono ?_
        rintro r w2 ⟨rfl, rfl⟩
        go_wp2
        go_quiet (fail)
        go_wp2
        exact bodyPost_ret (v := .agg #[.int .i64 (t), .int .i64 (d)]) (by first | (simp [results, Try.results46, go_sem, y0, y1]; done) | (simp [results, Try.results46, go_sem, y0, y1]; decide)) rfl (HE.out _ HRR.out (by repeat (first | exact HPF.out.bel | refine Below.setCell ?_ (by simp) _ | refine bel_alloc ?_ _ | refine bel17_drewN ?_ _ | refine bel17_drew ?_)))
      · have HE := Lib.hid (HFIN.out (t) (d))
        have HRR := Lib.hid (show nextS (last8 l) t d = (t, d) by rw [HR.out]; repeat (first | rw [if_pos (by omega)] | rw [if_neg (by omega)]))
        generalize MNext (last8 l) t d w = Post at *
        clear HFIN HR
        have e1 : decide (z < d) = false := decide_eq_false (by omega)
        go_enter Try.func46, Try.ntmps46
        go_wp2_with fail
        generalize (w.alloc (.cells #[.int .i64 t, .int .i64 d] 86)).alloc (.cells #[.int .i64 0, .int .i64 0] 86) = W at HPF ⊢
        obtain ⟨-, -, x0, x1, y0, y1, fx, fy⟩ := HPF.out
        refine (HWO.out _ HPF.out.row).mono ?_
        rintro r w2 ⟨rfl, rfl⟩
        go_wp2
        go_quiet (fail)
        go_wp2
        exact bodyPost_ret (v := .agg #[.int .i64 (t), .int .i64 (d)]) (by first | (simp [results, Try.results46, go_sem, y0, y1]; done) | (simp [results, Try.results46, go_sem, y0, y1]; decide)) rfl (HE.out _ HRR.out (by repeat (first | exact HPF.out.bel | refine Below.setCell ?_ (by simp) _ | refine bel_alloc ?_ _ | refine bel17_drewN ?_ _ | refine bel17_drew ?_)))
end Go.Proofs.Ytlhcihjplolgiaa
