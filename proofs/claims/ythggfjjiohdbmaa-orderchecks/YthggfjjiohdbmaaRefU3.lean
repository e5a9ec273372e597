/-
  Layer 8: the document's own table: one goes.
-/
import Derived.Test.YthggfjjiohdbmaaRefU2
namespace Go.Proofs.Ythggfjjiohdbmaa
open Go.RowKit
set_option linter.unusedVariables false

theorem UnRow.take {w : World} {a : Option Addr} {l : List Un} (h : UnRow w a l) (k : Nat) : UnRow w a (l.take k) := by
  have := RecRow.take h k
  unfold UnRow
  rw [show unsI (l.take k) = (unsI l).take k by simp [unsI, List.map_take]]
  exact this
theorem UnRow.dropAt {w : World} {b off : Nat} {l : List Un} (h : UnRow w (some ⟨b, off, none⟩) l) (k : Nat) : UnRow w (some ⟨b, off + k * 6, none⟩) (l.drop k) := by
  intro h0
  rw [unsI_len, List.length_drop] at h0
  obtain ⟨b', off', e, hc⟩ := h (by rw [unsI_len]; omega)
  cases e
  refine ⟨b, off + k * 6, rfl, fun i hi j hj => ?_⟩
  rw [unsI_len, List.length_drop] at hi
  have := hc (k + i) (by rw [unsI_len]; omega) j hj
  rw [show off + k * 6 + i * 6 + j = off + (k + i) * 6 + j by omega, this]
  simp [unsI]
theorem refKill_no (a : Option Addr) (c : Nat) (us : List Un) (nx id : Int) (n : Nat) (w : World) (hl : us.length ≤ 64) (hrise : Rising us) (hr : UnRow w a us) (hn : a = none → us = []) (hc : us.length ≤ c ∧ c ≤ maxLen) (hf : FindIs us id n) (hq : foundQ us id n = false) :
    Calls Try.prog 17 #[.agg #[.slice a us.length c, .int .i64 nx], .int .i64 id] w (RPost w a us nx (.bool false)) := by
  have hB : Below w.heap.size w ((w.alloc (.cells #[.slice a us.length c, .int .i64 nx] 30)).alloc (.cells #[.slice none 0 0, .int .i64 0] 30)) := bel_alloc (bel_alloc (Below.refl _ _) _) _
  have HF := Lib.hid (refFind_any a c us nx id n _ (by omega) hrise (hr.below hB) hf)
  rw [show findR us id n = -1 by unfold findR; rw [hq]; rfl] at HF
  have HP := Lib.hid (show ∀ W, Below w.heap.size w W → RPost w a us nx (.bool false) (.returned (.tuple #[.agg #[.slice a us.length c, .int .i64 nx], .bool false])) W from fun W hb => ⟨a, c, rfl, hr.below hb, hn, hc.1, hc.2, .inl rfl, hb⟩)
  have HB := Lib.hid hB
  generalize hpost : RPost w a us nx (.bool false) = Post at HP ⊢
  clear hr hn hq hB hpost hf hrise
  go_enter Try.func17, Try.ntmps17
  go_wp2_with fail
  refine HF.out.mono ?_
  rintro r w1 ⟨rfl, hb1⟩
  have t0 : w1.cell? ⟨w.heap.size, 0, none⟩ = some (.slice a us.length c) := (hb1.cell (p := ⟨w.heap.size, 0, none⟩) (by simp; omega)).trans (by repeat' (first | exact new_cell (by first | rfl | (simp; done)) rfl | with_reducible refine alloc_cell ?_ _))
  have t1 : w1.cell? ⟨w.heap.size, 1, none⟩ = some (.int .i64 nx) := (hb1.cell (p := ⟨w.heap.size, 1, none⟩) (by simp; omega)).trans (by repeat' (first | exact new_cell (by first | rfl | (simp; done)) rfl | with_reducible refine alloc_cell ?_ _))
  have r0 : w1.cell? ⟨w.heap.size + 1, 0, none⟩ = some (.slice none 0 0) := (hb1.cell (p := ⟨w.heap.size + 1, 0, none⟩) (by simp)).trans (by repeat' (first | exact new_cell (by first | rfl | (simp; done)) rfl | with_reducible refine alloc_cell ?_ _))
  have r1 : w1.cell? ⟨w.heap.size + 1, 1, none⟩ = some (.int .i64 0) := (hb1.cell (p := ⟨w.heap.size + 1, 1, none⟩) (by simp)).trans (by repeat' (first | exact new_cell (by first | rfl | (simp; done)) rfl | with_reducible refine alloc_cell ?_ _))
  have z0 : w1.frozen? ⟨w.heap.size + 1, 0, none⟩ = false := (hb1.frozen (p := ⟨w.heap.size + 1, 0, none⟩) (by simp)).trans (by rw [show w.heap.size + 1 = (w.alloc (.cells #[.slice a us.length c, .int .i64 nx] 30)).heap.size by simp]; exact frozen_new _ _ _ _)
  have z1 : w1.frozen? ⟨w.heap.size + 1, 1, none⟩ = false := (hb1.frozen (p := ⟨w.heap.size + 1, 1, none⟩) (by simp)).trans (by rw [show w.heap.size + 1 = (w.alloc (.cells #[.slice a us.length c, .int .i64 nx] 30)).heap.size by simp]; exact frozen_new _ _ _ _)
  have hB1 : Below w.heap.size w w1 := HB.out.trans (hb1.mono HB.out.size)
  have HB2 := Lib.hid (set2r_below hB1 (show w.heap.size ≤ w.heap.size + 1 by omega) (.slice a us.length c) (.int .i64 nx))
  unfold set2r at HB2
  have hTl := block_lt_of_cell t0
  have hRl := block_lt_of_cell r0
  clear hb1 HF HB hB1
  go_wp2
  exact bodyPost_ret (v := .tuple #[.agg #[.slice a us.length c, .int .i64 nx], .bool false]) (by simp [results, Try.results17, go_sem, r0, r1]) rfl (HP.out _ HB2.out)
theorem k2b {W0 w' : World} (hb : Below W0.heap.size W0 w') {T : Nat} {t0 t1 : Value} (h : W0.cell? ⟨T, 0, none⟩ = some t0 ∧ W0.cell? ⟨T, 1, none⟩ = some t1) : w'.cell? ⟨T, 0, none⟩ = some t0 ∧ w'.cell? ⟨T, 1, none⟩ = some t1 :=
  ⟨(hb.cell (p := ⟨T, 0, none⟩) (block_lt_of_cell h.1)).trans h.1, (hb.cell (p := ⟨T, 1, none⟩) (block_lt_of_cell h.2)).trans h.2⟩
theorem k2s {w : World} {T R : Nat} {t0 t1 x y : Value} (hT : T ≠ R) (h : w.cell? ⟨T, 0, none⟩ = some t0 ∧ w.cell? ⟨T, 1, none⟩ = some t1) : ((w.setCell ⟨R, 0, none⟩ x).setCell ⟨R, 1, none⟩ y).cell? ⟨T, 0, none⟩ = some t0 ∧ ((w.setCell ⟨R, 0, none⟩ x).setCell ⟨R, 1, none⟩ y).cell? ⟨T, 1, none⟩ = some t1 :=
  ⟨cell_set2 hT h.1, cell_set2 hT h.2⟩
theorem app1n {W0 Wc : World} {a : Option Addr} {c k n : Nat} {us : List Un} {ty : TypeId} (hbel : Below W0.heap.size W0 Wc) (hmade : Wc.ownsRow 0 53 6 (.slice (some ⟨k, 0, none⟩) 0 0) 0 []) (hk : W0.heap.size ≤ k) (hr : UnRow W0 a us) (hn : a = none → us = []) (hl : us.length ≤ 1000) (hnn : us.length = n) :
    ∃ a' c' w', (Builtin.append_ #[28, 28] ty #[.slice (some ⟨k, 0, none⟩) 0 0, .slice a n c]).run Try.prog Wc = .ok (.slice a' n c') w' ∧ NewRec 53 6 W0 a' c' (unsI us) w' := by
  subst hnn
  obtain ⟨a', c', w', h1, h2, -⟩ := app1 (ty := ty) (c := c) hbel hmade hk hr hn hl
  exact ⟨a', c', w', h1, h2⟩
theorem app2n {W0 Wc : World} {a1 a2 : Option Addr} {c1 c2 n m s : Nat} {us vs : List Un} {ty : TypeId} (h : NewRec 53 6 W0 a1 c1 (unsI us) Wc) (hv : UnRow W0 a2 vs) (hn : a2 = none → vs = []) (hl : us.length + vs.length ≤ 1000) (e1 : us.length = n) (e2 : vs.length = m) (e3 : n + m = s) :
    ∃ a' c' w', (Builtin.append_ #[28, 28] ty #[.slice a1 n c1, .slice a2 m c2]).run Try.prog Wc = .ok (.slice a' s c') w' ∧ NewRec 53 6 W0 a' c' (unsI (us ++ vs)) w' := by
  subst e1 e2 e3
  exact app2 h (hv.below h.2.2) hn hl
set_option maxRecDepth 100000 in
set_option maxHeartbeats 4000000 in
theorem refKill_yes (a : Option Addr) (c : Nat) (us : List Un) (nx id : Int) (n : Nat) (w : World) (hl : us.length ≤ 64) (hrise : Rising us) (hr : UnRow w a us) (hn : a = none → us = []) (hc : us.length ≤ c ∧ c ≤ maxLen) (hf : FindIs us id n) (hq : foundQ us id n = true) :
    Calls Try.prog 17 #[.agg #[.slice a us.length c, .int .i64 nx], .int .i64 id] w (RPost w a (us.eraseIdx n) nx (.bool true)) := by
  have hB : Below w.heap.size w ((w.alloc (.cells #[.slice a us.length c, .int .i64 nx] 30)).alloc (.cells #[.slice none 0 0, .int .i64 0] 30)) := bel_alloc (bel_alloc (Below.refl _ _) _) _
  have HF := Lib.hid (refFind_any a c us nx id n _ (by omega) hrise (hr.below hB) hf)
  rw [show findR us id n = (n : Int) by unfold findR; rw [hq]; rfl] at HF
  obtain ⟨hnl, -⟩ := findIs_lt hq
  have HR := Lib.hid hr
  obtain ⟨gb, off, rfl, -⟩ := hr.at hnl
  have HB := Lib.hid hB
  have hc1 := hc.1
  have hc2 := hc.2
  unfold maxLen at hc2
  have HER := Lib.hid (List.eraseIdx_eq_take_drop_succ us n)
  have HEL := Lib.hid (show (us.eraseIdx n).length = us.length - 1 by rw [List.length_eraseIdx, if_pos hnl])
  generalize hpost : RPost w (some ⟨gb, off, none⟩) (us.eraseIdx n) nx (.bool true) = Post
  have HPOST := Lib.hid hpost
  clear hr hn hq hB hpost hf hrise hc
  go_enter Try.func17, Try.ntmps17
  go_wp2_with fail
  refine HF.out.mono ?_
  rintro r W0 ⟨rfl, hb1⟩
  have t0 : W0.cell? ⟨w.heap.size, 0, none⟩ = some (.slice (some ⟨gb, off, none⟩) us.length c) := (hb1.cell (p := ⟨w.heap.size, 0, none⟩) (by simp; omega)).trans (by repeat' (first | exact new_cell (by first | rfl | (simp; done)) rfl | with_reducible refine alloc_cell ?_ _))
  have t1 : W0.cell? ⟨w.heap.size, 1, none⟩ = some (.int .i64 nx) := (hb1.cell (p := ⟨w.heap.size, 1, none⟩) (by simp; omega)).trans (by repeat' (first | exact new_cell (by first | rfl | (simp; done)) rfl | with_reducible refine alloc_cell ?_ _))
  have r0 : W0.cell? ⟨w.heap.size + 1, 0, none⟩ = some (.slice none 0 0) := (hb1.cell (p := ⟨w.heap.size + 1, 0, none⟩) (by simp)).trans (by repeat' (first | exact new_cell (by first | rfl | (simp; done)) rfl | with_reducible refine alloc_cell ?_ _))
  have r1 : W0.cell? ⟨w.heap.size + 1, 1, none⟩ = some (.int .i64 0) := (hb1.cell (p := ⟨w.heap.size + 1, 1, none⟩) (by simp)).trans (by repeat' (first | exact new_cell (by first | rfl | (simp; done)) rfl | with_reducible refine alloc_cell ?_ _))
  have z0 : W0.frozen? ⟨w.heap.size + 1, 0, none⟩ = false := (hb1.frozen (p := ⟨w.heap.size + 1, 0, none⟩) (by simp)).trans (by rw [show w.heap.size + 1 = (w.alloc (.cells #[.slice (some ⟨gb, off, none⟩) us.length c, .int .i64 nx] 30)).heap.size by simp]; exact frozen_new _ _ _ _)
  have z1 : W0.frozen? ⟨w.heap.size + 1, 1, none⟩ = false := (hb1.frozen (p := ⟨w.heap.size + 1, 1, none⟩) (by simp)).trans (by rw [show w.heap.size + 1 = (w.alloc (.cells #[.slice (some ⟨gb, off, none⟩) us.length c, .int .i64 nx] 30)).heap.size by simp]; exact frozen_new _ _ _ _)
  have hWB : Below w.heap.size w W0 := HB.out.trans (hb1.mono HB.out.size)
  have HWB := Lib.hid hWB
  have HRW := Lib.hid (HR.out.below hWB)
  have HR1 := Lib.hid (HRW.out.take n)
  have HR2 := Lib.hid (show ∀ A, (if c = n + 1 then some (⟨gb, off, none⟩ : Addr) else some ⟨gb, off + (n + 1) * 6, none⟩) = A → UnRow W0 A (us.drop (n + 1)) ∧ (A = none → us.drop (n + 1) = []) from fun A hA => by
    by_cases hcn : c = n + 1
    · rw [if_pos hcn] at hA
      have : us.drop (n + 1) = [] := List.drop_of_length_le (by omega)
      rw [this]
      exact ⟨fun h => by simp [unsI] at h, fun _ => rfl⟩
    · rw [if_neg hcn] at hA
      subst hA
      exact ⟨HRW.out.dropAt (n + 1), fun h => by cases h⟩)
  have hT : w.heap.size < W0.heap.size := block_lt_of_cell t0
  have hRb : w.heap.size + 1 < W0.heap.size := block_lt_of_cell r0
  have hR0 : w.heap.size ≤ w.heap.size + 1 := by omega
  have hTR : w.heap.size ≠ w.heap.size + 1 := by omega
  have i1 : (0 : Int) ≤ (n : Int) := by omega
  have i2 : (n : Int) ≤ (c : Int) := by omega
  have i3 : (0 : Int) ≤ (n : Int) + 1 := by omega
  have i4 : (n : Int) + 1 ≤ (us.length : Int) := by omega
  have i5 : IntKind.i64.wrap ((n : Int) + 1) = (n : Int) + 1 := by rw [IntKind.wrap_i64]; omega
  have i6 : ((n : Int) + 1).toNat = n + 1 := by omega
  have i7 : (n : Int) ≤ (n : Int) + 1 := by omega
  have i8 : (n : Int) + 1 ≤ (c : Int) := by omega
  have e1 : (us.take n).length = n := by simp; omega
  have e2 : (us.drop (n + 1)).length = us.length - (n + 1) := by simp
  have HE1 := Lib.hid e1
  have HE2 := Lib.hid e2
  have hn64 : n ≤ 64 := by omega
  clear hWB hb1 HF HB e1 e2
  go_wp2
  generalize hRR : w.heap.size + 1 = R at r0 r1 z0 z1 hRb hR0 hTR ⊢
  clear hRR
  generalize hTT : w.heap.size = T at t0 t1 hT hTR hR0 ⊢
  have HTT := Lib.hid hTT
  clear hTT
  by_cases hcn : c = n + 1
  · have HR3 := Lib.hid (HR2.out (some ⟨gb, off, none⟩) (if_pos hcn))
    clear HR2
    go_region_held3 (fun w' => w'.cell? ⟨T, 0, none⟩ = some (.slice (some ⟨gb, off, none⟩) us.length c) ∧ w'.cell? ⟨T, 1, none⟩ = some (.int .i64 nx))
      (first | (refine k2s hTR ?_; exact k2b (W0 := W0) HN5.out.2.2 ⟨t0, t1⟩) | exact k2b (W0 := W0) (by repeat' (first | exact Below.refl _ _ | exact HN5.out.2.2 | exact HN4.out.2.2 | refine Below.drew ?_ | refine bel_alloc ?_ _)) ⟨t0, t1⟩)
      (first
        | (refine step_append_ex _ rfl (.tmp 13) (.tmp 17) 28 28 rfl _ _ (by rfl) (by rfl) n _ (app1n (W0 := W0) (by repeat' (first | exact Below.refl _ _ | refine Below.drew ?_ | refine bel_alloc ?_ _)) (by first | exact ownsRow_drew (made0 _ _ (by first | rfl | (simp; done))) | exact made0 _ _ (by first | rfl | (simp; done))) (by first | omega | (simp; done)) HR1.out (fun h => by cases h) (by rw [HE1.out]; omega) HE1.out) ?_; rintro a4 c4 w4 hn4; have HN4 := Lib.hid hn4; clear hn4)
        | (refine step_append_ex _ rfl (.tmp 18) (.tmp 23) 28 28 rfl _ _ (by rfl) (by rfl) (us.length - 1) _ (app2n (W0 := W0) (vs := us.drop (n + 1)) HN4.out HR3.out.1 HR3.out.2 (by rw [HE1.out, HE2.out]; omega) HE1.out HE2.out (by omega)) ?_; rintro a5 c5 w5 hn5; have HN5 := Lib.hid hn5; have rr0 := (hn5.2.2.cell (p := ⟨R, 0, none⟩) hRb).trans r0; have rr1 := (hn5.2.2.cell (p := ⟨R, 1, none⟩) hRb).trans r1; have zz0 := (hn5.2.2.frozen (p := ⟨R, 0, none⟩) hRb).trans z0; have zz1 := (hn5.2.2.frozen (p := ⟨R, 1, none⟩) hRb).trans z1; clear hn5))
    all_goals
      have HFIN := Lib.hid (newRec_rpost2 (w := w) (a0 := some ⟨gb, off, none⟩) (nx := nx) (q := .bool true) HWB.out HN5.out (by rw [HTT.out]; exact hR0) hRb (.slice a5 (us.length - 1) c5) (.int .i64 nx))
      rw [← HER.out, HEL.out, HPOST.out] at HFIN
      clear HN4 HN5
      go_wp2
      exact bodyPost_ret (v := .tuple #[.agg #[.slice a5 (us.length - 1) c5, .int .i64 nx], .bool true]) (by simp [results, Try.results17, go_sem, rr0, rr1]) rfl HFIN.out
  · have HR3 := Lib.hid (HR2.out (some ⟨gb, off + (n + 1) * 6, none⟩) (if_neg hcn))
    clear HR2
    go_region_held3 (fun w' => w'.cell? ⟨T, 0, none⟩ = some (.slice (some ⟨gb, off, none⟩) us.length c) ∧ w'.cell? ⟨T, 1, none⟩ = some (.int .i64 nx))
      (first | (refine k2s hTR ?_; exact k2b (W0 := W0) HN5.out.2.2 ⟨t0, t1⟩) | exact k2b (W0 := W0) (by repeat' (first | exact Below.refl _ _ | exact HN5.out.2.2 | exact HN4.out.2.2 | refine Below.drew ?_ | refine bel_alloc ?_ _)) ⟨t0, t1⟩)
      (first
        | (refine step_append_ex _ rfl (.tmp 13) (.tmp 17) 28 28 rfl _ _ (by rfl) (by rfl) n _ (app1n (W0 := W0) (by repeat' (first | exact Below.refl _ _ | refine Below.drew ?_ | refine bel_alloc ?_ _)) (by first | exact ownsRow_drew (made0 _ _ (by first | rfl | (simp; done))) | exact made0 _ _ (by first | rfl | (simp; done))) (by first | omega | (simp; done)) HR1.out (fun h => by cases h) (by rw [HE1.out]; omega) HE1.out) ?_; rintro a4 c4 w4 hn4; have HN4 := Lib.hid hn4; clear hn4)
        | (refine step_append_ex _ rfl (.tmp 18) (.tmp 23) 28 28 rfl _ _ (by rfl) (by rfl) (us.length - 1) _ (app2n (W0 := W0) (vs := us.drop (n + 1)) HN4.out HR3.out.1 HR3.out.2 (by rw [HE1.out, HE2.out]; omega) HE1.out HE2.out (by omega)) ?_; rintro a5 c5 w5 hn5; have HN5 := Lib.hid hn5; have rr0 := (hn5.2.2.cell (p := ⟨R, 0, none⟩) hRb).trans r0; have rr1 := (hn5.2.2.cell (p := ⟨R, 1, none⟩) hRb).trans r1; have zz0 := (hn5.2.2.frozen (p := ⟨R, 0, none⟩) hRb).trans z0; have zz1 := (hn5.2.2.frozen (p := ⟨R, 1, none⟩) hRb).trans z1; clear hn5))
    all_goals
      have HFIN := Lib.hid (newRec_rpost2 (w := w) (a0 := some ⟨gb, off, none⟩) (nx := nx) (q := .bool true) HWB.out HN5.out (by rw [HTT.out]; exact hR0) hRb (.slice a5 (us.length - 1) c5) (.int .i64 nx))
      rw [← HER.out, HEL.out, HPOST.out] at HFIN
      clear HN4 HN5
      go_wp2
      exact bodyPost_ret (v := .tuple #[.agg #[.slice a5 (us.length - 1) c5, .int .i64 nx], .bool true]) (by simp [results, Try.results17, go_sem, rr0, rr1]) rfl HFIN.out
end Go.Proofs.Ythggfjjiohdbmaa
