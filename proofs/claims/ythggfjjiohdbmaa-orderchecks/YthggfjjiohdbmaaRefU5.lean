/-
  Layer 8: the document's own table: a field is another one.
-/
import Derived.Test.YthggfjjiohdbmaaRefU4
namespace Go.Proofs.Ythggfjjiohdbmaa
open Go.RowKit
set_option linter.unusedVariables false

theorem set2_same0 {w : World} {R : Nat} {v x y : Value} (h : w.cell? ⟨R, 0, none⟩ = some v) : ((w.setCell ⟨R, 0, none⟩ x).setCell ⟨R, 1, none⟩ y).cell? ⟨R, 0, none⟩ = some x := by
  rw [World.cell?_setCell_other _ _ _ _ (by simp)]; exact World.cell?_setCell_same _ _ _ h
theorem set2_same1 {w : World} {R : Nat} {v x y : Value} (h : w.cell? ⟨R, 1, none⟩ = some v) : ((w.setCell ⟨R, 0, none⟩ x).setCell ⟨R, 1, none⟩ y).cell? ⟨R, 1, none⟩ = some y :=
  World.cell?_setCell_same _ _ _ ((World.cell?_setCell_other _ _ _ _ (by simp)).trans h)
theorem RPost.keep {w w1 w2 : World} {a : Option Addr} {us : List Un} {nx : Int} {q : Value} {r : Ending} (h : RPost w a us nx q r w1) (hb : Below w1.heap.size w1 w2) : RPost w a us nx q r w2 := by
  obtain ⟨a5, c5, h1, h2, h3, h4, h5, h6, h7⟩ := h
  refine ⟨a5, c5, h1, h2.below hb, h3, h4, h5, ?_, h7.trans (hb.mono h7.size)⟩
  rcases h6 with h | h
  · exact .inl h
  · exact .inr fun x hx => ⟨(h x hx).1, Nat.lt_of_lt_of_le (h x hx).2 hb.size⟩
set_option maxRecDepth 100000 in
set_option maxHeartbeats 4000000 in
theorem refSet_yes (a : Option Addr) (c : Nat) (us : List Un) (nx id x : Int) (f : Nat) (n : Nat) (w : World) (hl : us.length ≤ 64) (hrise : Rising us) (hr : UnRow w a us) (hn : a = none → us = []) (hc : us.length ≤ c ∧ c ≤ maxLen) (hf : FindIs us id n) (hq : foundQ us id n = true) (hnl : n < us.length) (h2 : 2 ≤ f) (h4 : f ≤ 4) (hm : mayN f x = true) :
    Calls Try.prog 19 #[.agg #[.slice a us.length c, .int .i64 nx], .int .i64 id, .int .i64 f, .int .i64 x] w (RPost w a (us.set n (us[n].setF f x)) nx (.bool true)) := by
  have hB : Below w.heap.size w ((w.alloc (.cells #[.slice a us.length c, .int .i64 nx] 30)).alloc (.cells #[.slice none 0 0, .int .i64 0] 30)) := bel_alloc (bel_alloc (Below.refl _ _) _) _
  have HF := Lib.hid (refFind_any a c us nx id n _ (by omega) hrise (hr.below hB) hf)
  have HB := Lib.hid hB
  rw [show findR us id n = (n : Int) by unfold findR; rw [hq]; rfl] at HF
  have dn : decide ((n : Int) < 0) = false := by simp
  have hn64 : n < 64 := by omega
  have HM := Lib.hid (fun W => refMay_any f x W (by omega))
  rw [hm] at HM
  have hx4 : f = 4 → ¬ x < 1 := fun e => by subst e; simp [mayN] at hm; omega
  have HR := Lib.hid hr
  have HN := Lib.hid hn
  have HSI := Lib.hid (show (unsI us).set n (us[n].setF f x).ints = unsI (us.set n (us[n].setF f x)) by unfold unsI; rw [List.map_set])
  generalize hpost : RPost w a (us.set n (us[n].setF f x)) nx (.bool true) = Post
  have HPOST := Lib.hid hpost
  clear hr hn hB hf hrise hc hq hm hpost
  have h3 : f = 2 ∨ f = 3 ∨ f = 4 := by omega
  rcases h3 with rfl | rfl | rfl
  · clear h2 h4 hx4
    go_enter Try.func19, Try.ntmps19
    go_wp2_with fail
    refine HF.out.mono ?_
    rintro r w1 ⟨rfl, hb1⟩
    have t0 : w1.cell? ⟨w.heap.size, 0, none⟩ = some (.slice a us.length c) := (hb1.cell (p := ⟨w.heap.size, 0, none⟩) (by simp; omega)).trans (by repeat' (first | exact new_cell (by first | rfl | (simp; done)) rfl | with_reducible refine alloc_cell ?_ _))
    have t1 : w1.cell? ⟨w.heap.size, 1, none⟩ = some (.int .i64 nx) := (hb1.cell (p := ⟨w.heap.size, 1, none⟩) (by simp; omega)).trans (by repeat' (first | exact new_cell (by first | rfl | (simp; done)) rfl | with_reducible refine alloc_cell ?_ _))
    have r0 : w1.cell? ⟨w.heap.size + 1, 0, none⟩ = some (.slice none 0 0) := (hb1.cell (p := ⟨w.heap.size + 1, 0, none⟩) (by simp)).trans (by repeat' (first | exact new_cell (by first | rfl | (simp; done)) rfl | with_reducible refine alloc_cell ?_ _))
    have r1 : w1.cell? ⟨w.heap.size + 1, 1, none⟩ = some (.int .i64 0) := (hb1.cell (p := ⟨w.heap.size + 1, 1, none⟩) (by simp)).trans (by repeat' (first | exact new_cell (by first | rfl | (simp; done)) rfl | with_reducible refine alloc_cell ?_ _))
    have z0 : w1.frozen? ⟨w.heap.size + 1, 0, none⟩ = false := (hb1.frozen (p := ⟨w.heap.size + 1, 0, none⟩) (by simp)).trans (by rw [show w.heap.size + 1 = (w.alloc (.cells #[.slice a us.length c, .int .i64 nx] 30)).heap.size by simp]; exact frozen_new _ _ _ _)
    have z1 : w1.frozen? ⟨w.heap.size + 1, 1, none⟩ = false := (hb1.frozen (p := ⟨w.heap.size + 1, 1, none⟩) (by simp)).trans (by rw [show w.heap.size + 1 = (w.alloc (.cells #[.slice a us.length c, .int .i64 nx] 30)).heap.size by simp]; exact frozen_new _ _ _ _)
    have hB1 : Below w.heap.size w w1 := HB.out.trans (hb1.mono HB.out.size)
    have hTl := block_lt_of_cell t0
    have hRl := block_lt_of_cell r0
    have HB1 := Lib.hid hB1
    obtain ⟨a4, c4, w4, hrun, hn4, -⟩ := app1 (W0 := w1) (k := w1.heap.size) (c := c) (ty := 28) (bel_alloc (Below.refl _ _) _) (made0 _ _ rfl) (Nat.le_refl _) (HR.out.below hB1) HN.out (by omega)
    obtain ⟨g4, rfl⟩ := own_someR hn4.1 (by rw [unsI_len]; omega)
    have HRUN := Lib.hid hrun
    have HN4 := Lib.hid hn4
    have hg4 : w1.heap.size ≤ g4 := hn4.2.1 _ rfl
    obtain ⟨b', off', e', hg4l, e0, e1, e2, e3, e4, e5⟩ := (show UnRow w4 (some ⟨g4, 0, none⟩) us from hn4.row (unsI_wide us) (by decide)).at hnl
    cases e'
    simp only [Nat.zero_add] at e0 e1 e2 e3 e4 e5
    have q0 : w4.frozen? ⟨g4, n * 6, none⟩ = false := hn4.1.frozenAt _
    have q1 : w4.frozen? ⟨g4, n * 6 + 1, none⟩ = false := hn4.1.frozenAt _
    have q2 : w4.frozen? ⟨g4, n * 6 + 2, none⟩ = false := hn4.1.frozenAt _
    have q3 : w4.frozen? ⟨g4, n * 6 + 3, none⟩ = false := hn4.1.frozenAt _
    have q4 : w4.frozen? ⟨g4, n * 6 + 4, none⟩ = false := hn4.1.frozenAt _
    have q5 : w4.frozen? ⟨g4, n * 6 + 5, none⟩ = false := hn4.1.frozenAt _
    have tt1 := (hn4.2.2.cell (p := ⟨w.heap.size, 1, none⟩) hTl).trans t1
    have rr0 := (hn4.2.2.cell (p := ⟨w.heap.size + 1, 0, none⟩) hRl).trans r0
    have rr1 := (hn4.2.2.cell (p := ⟨w.heap.size + 1, 1, none⟩) hRl).trans r1
    have zz0 := (hn4.2.2.frozen (p := ⟨w.heap.size + 1, 0, none⟩) hRl).trans z0
    have zz1 := (hn4.2.2.frozen (p := ⟨w.heap.size + 1, 1, none⟩) hRl).trans z1
    have hT4 := block_lt_of_cell tt1
    have hR4 := block_lt_of_cell rr0
    have hTl2 : w.heap.size < w1.heap.size := hTl
    have hRl2 : w.heap.size + 1 < w1.heap.size := hRl
    have ne1 : w.heap.size ≠ g4 := by omega
    have ne2 : w.heap.size + 1 ≠ g4 := by omega
    have HUE := Lib.hid (show us[n].setF 2 x = us[n].setF 2 x from rfl)
    generalize us[n] = u at e0 e1 e2 e3 e4 e5 HSI HPOST
    obtain ⟨u0, u1, u2, u3, u4, u5⟩ := u
    simp only at e0 e1 e2 e3 e4 e5
    have HBE0 : Below w1.heap.size w1 ((((((w4.setCell ⟨g4, n * 6, none⟩ (.int .i64 u0)).setCell ⟨g4, n * 6 + 1, none⟩ (.int .i64 u1)).setCell ⟨g4, n * 6 + 2, none⟩ (.int .i64 u2)).setCell ⟨g4, n * 6 + 3, none⟩ (.int .i64 x)).setCell ⟨g4, n * 6 + 4, none⟩ (.int .i64 u4)).setCell ⟨g4, n * 6 + 5, none⟩ (.int .i64 u5)) := (((((hn4.2.2.setCell (p := ⟨g4, n * 6, none⟩) hg4 _).setCell (p := ⟨g4, n * 6 + 1, none⟩) hg4 _).setCell (p := ⟨g4, n * 6 + 2, none⟩) hg4 _).setCell (p := ⟨g4, n * 6 + 3, none⟩) hg4 _).setCell (p := ⟨g4, n * 6 + 4, none⟩) hg4 _).setCell (p := ⟨g4, n * 6 + 5, none⟩) hg4 _
    have HBE := Lib.hid HBE0
    have fr0 := alloc_cell (set2_same0 (x := .slice (some ⟨g4, 0, none⟩) us.length c4) (y := .int .i64 nx) ((HBE0.cell (p := ⟨w.heap.size + 1, 0, none⟩) hRl).trans r0)) (.cells #[.int .i64 u0, .int .i64 u1, .int .i64 u2, .int .i64 x, .int .i64 u4, .int .i64 u5] 53)
    have fr1 := alloc_cell (set2_same1 (x := .slice (some ⟨g4, 0, none⟩) us.length c4) (y := .int .i64 nx) ((HBE0.cell (p := ⟨w.heap.size + 1, 1, none⟩) hRl).trans r1)) (.cells #[.int .i64 u0, .int .i64 u1, .int .i64 u2, .int .i64 x, .int .i64 u4, .int .i64 u5] 53)
    have HFR0 := Lib.hid fr0
    have HFR1 := Lib.hid fr1
    clear fr0 fr1 HBE0
    have HFIN := Lib.hid (show RPost w a (us.set n (Un.setF ⟨u0, u1, u2, u3, u4, u5⟩ 2 x)) nx (.bool true) (.returned (.tuple #[.agg #[.slice (some ⟨g4, 0, none⟩) us.length c4, .int .i64 nx], .bool true])) (((((((((w4.setCell ⟨g4, n * 6, none⟩ (.int .i64 u0)).setCell ⟨g4, n * 6 + 1, none⟩ (.int .i64 u1)).setCell ⟨g4, n * 6 + 2, none⟩ (.int .i64 u2)).setCell ⟨g4, n * 6 + 3, none⟩ (.int .i64 x)).setCell ⟨g4, n * 6 + 4, none⟩ (.int .i64 u4)).setCell ⟨g4, n * 6 + 5, none⟩ (.int .i64 u5)).setCell ⟨w.heap.size + 1, 0, none⟩ (.slice (some ⟨g4, 0, none⟩) us.length c4)).setCell ⟨w.heap.size + 1, 1, none⟩ (.int .i64 nx)).alloc (.cells #[.int .i64 u0, .int .i64 u1, .int .i64 u2, .int .i64 x, .int .i64 u4, .int .i64 u5] 53)) from by
      have ho := own_set6 (NewRec.own HN4.out) (unsI_wide us) n (by rw [unsI_len]; exact hnl) u0 u1 u2 x u4 u5
      have hset : (unsI us).set n [u0, u1, u2, x, u4, u5] = unsI (us.set n (Un.setF ⟨u0, u1, u2, u3, u4, u5⟩ 2 x)) := HSI.out
      rw [hset] at ho
      have hbe := HBE.out
      have hnew : NewRec 53 6 w1 (some ⟨g4, 0, none⟩) c4 (unsI (us.set n (Un.setF ⟨u0, u1, u2, u3, u4, u5⟩ 2 x))) ((((((w4.setCell ⟨g4, n * 6, none⟩ (.int .i64 u0)).setCell ⟨g4, n * 6 + 1, none⟩ (.int .i64 u1)).setCell ⟨g4, n * 6 + 2, none⟩ (.int .i64 u2)).setCell ⟨g4, n * 6 + 3, none⟩ (.int .i64 x)).setCell ⟨g4, n * 6 + 4, none⟩ (.int .i64 u4)).setCell ⟨g4, n * 6 + 5, none⟩ (.int .i64 u5)) := ⟨ho.1, ho.2, hbe⟩
      have h5 := newRec_rpost2 (w := w) (a0 := a) (nx := nx) (q := .bool true) HB1.out hnew (show w.heap.size ≤ w.heap.size + 1 by omega) hRl (.slice (some ⟨g4, 0, none⟩) us.length c4) (.int .i64 nx)
      rw [List.length_set] at h5
      exact h5.keep (bel_alloc (Below.refl _ _) _))
    rw [HPOST.out] at HFIN
    clear hb1 HF HB hB1 hrun hn4 t1 r0 r1 z0 z1 HN4 HSI
    go_wp2_with (first | (go_at_call 34; (refine (HM.out _).mono ?_); rintro e w' ⟨rfl, rfl⟩) | (at_builtin; refine wpList_append_run _ rfl (.tmp 43) (.tmp 45) 28 28 rfl _ _ rfl rfl (.slice (some ⟨g4, 0, none⟩) us.length c4) w4 HRUN.out ?_))
    have fr0 := HFR0.out
    have fr1 := HFR1.out
    exact bodyPost_ret (v := .tuple #[.agg #[.slice (some ⟨g4, 0, none⟩) us.length c4, .int .i64 nx], .bool true]) (by simp [results, Try.results19, go_sem, fr0, fr1]) rfl HFIN.out
  · clear h2 h4 hx4
    go_enter Try.func19, Try.ntmps19
    go_wp2_with fail
    refine HF.out.mono ?_
    rintro r w1 ⟨rfl, hb1⟩
    have t0 : w1.cell? ⟨w.heap.size, 0, none⟩ = some (.slice a us.length c) := (hb1.cell (p := ⟨w.heap.size, 0, none⟩) (by simp; omega)).trans (by repeat' (first | exact new_cell (by first | rfl | (simp; done)) rfl | with_reducible refine alloc_cell ?_ _))
    have t1 : w1.cell? ⟨w.heap.size, 1, none⟩ = some (.int .i64 nx) := (hb1.cell (p := ⟨w.heap.size, 1, none⟩) (by simp; omega)).trans (by repeat' (first | exact new_cell (by first | rfl | (simp; done)) rfl | with_reducible refine alloc_cell ?_ _))
    have r0 : w1.cell? ⟨w.heap.size + 1, 0, none⟩ = some (.slice none 0 0) := (hb1.cell (p := ⟨w.heap.size + 1, 0, none⟩) (by simp)).trans (by repeat' (first | exact new_cell (by first | rfl | (simp; done)) rfl | with_reducible refine alloc_cell ?_ _))
    have r1 : w1.cell? ⟨w.heap.size + 1, 1, none⟩ = some (.int .i64 0) := (hb1.cell (p := ⟨w.heap.size + 1, 1, none⟩) (by simp)).trans (by repeat' (first | exact new_cell (by first | rfl | (simp; done)) rfl | with_reducible refine alloc_cell ?_ _))
    have z0 : w1.frozen? ⟨w.heap.size + 1, 0, none⟩ = false := (hb1.frozen (p := ⟨w.heap.size + 1, 0, none⟩) (by simp)).trans (by rw [show w.heap.size + 1 = (w.alloc (.cells #[.slice a us.length c, .int .i64 nx] 30)).heap.size by simp]; exact frozen_new _ _ _ _)
    have z1 : w1.frozen? ⟨w.heap.size + 1, 1, none⟩ = false := (hb1.frozen (p := ⟨w.heap.size + 1, 1, none⟩) (by simp)).trans (by rw [show w.heap.size + 1 = (w.alloc (.cells #[.slice a us.length c, .int .i64 nx] 30)).heap.size by simp]; exact frozen_new _ _ _ _)
    have hB1 : Below w.heap.size w w1 := HB.out.trans (hb1.mono HB.out.size)
    have hTl := block_lt_of_cell t0
    have hRl := block_lt_of_cell r0
    have HB1 := Lib.hid hB1
    obtain ⟨a4, c4, w4, hrun, hn4, -⟩ := app1 (W0 := w1) (k := w1.heap.size) (c := c) (ty := 28) (bel_alloc (Below.refl _ _) _) (made0 _ _ rfl) (Nat.le_refl _) (HR.out.below hB1) HN.out (by omega)
    obtain ⟨g4, rfl⟩ := own_someR hn4.1 (by rw [unsI_len]; omega)
    have HRUN := Lib.hid hrun
    have HN4 := Lib.hid hn4
    have hg4 : w1.heap.size ≤ g4 := hn4.2.1 _ rfl
    obtain ⟨b', off', e', hg4l, e0, e1, e2, e3, e4, e5⟩ := (show UnRow w4 (some ⟨g4, 0, none⟩) us from hn4.row (unsI_wide us) (by decide)).at hnl
    cases e'
    simp only [Nat.zero_add] at e0 e1 e2 e3 e4 e5
    have q0 : w4.frozen? ⟨g4, n * 6, none⟩ = false := hn4.1.frozenAt _
    have q1 : w4.frozen? ⟨g4, n * 6 + 1, none⟩ = false := hn4.1.frozenAt _
    have q2 : w4.frozen? ⟨g4, n * 6 + 2, none⟩ = false := hn4.1.frozenAt _
    have q3 : w4.frozen? ⟨g4, n * 6 + 3, none⟩ = false := hn4.1.frozenAt _
    have q4 : w4.frozen? ⟨g4, n * 6 + 4, none⟩ = false := hn4.1.frozenAt _
    have q5 : w4.frozen? ⟨g4, n * 6 + 5, none⟩ = false := hn4.1.frozenAt _
    have tt1 := (hn4.2.2.cell (p := ⟨w.heap.size, 1, none⟩) hTl).trans t1
    have rr0 := (hn4.2.2.cell (p := ⟨w.heap.size + 1, 0, none⟩) hRl).trans r0
    have rr1 := (hn4.2.2.cell (p := ⟨w.heap.size + 1, 1, none⟩) hRl).trans r1
    have zz0 := (hn4.2.2.frozen (p := ⟨w.heap.size + 1, 0, none⟩) hRl).trans z0
    have zz1 := (hn4.2.2.frozen (p := ⟨w.heap.size + 1, 1, none⟩) hRl).trans z1
    have hT4 := block_lt_of_cell tt1
    have hR4 := block_lt_of_cell rr0
    have hTl2 : w.heap.size < w1.heap.size := hTl
    have hRl2 : w.heap.size + 1 < w1.heap.size := hRl
    have ne1 : w.heap.size ≠ g4 := by omega
    have ne2 : w.heap.size + 1 ≠ g4 := by omega
    have HUE := Lib.hid (show us[n].setF 3 x = us[n].setF 3 x from rfl)
    generalize us[n] = u at e0 e1 e2 e3 e4 e5 HSI HPOST
    obtain ⟨u0, u1, u2, u3, u4, u5⟩ := u
    simp only at e0 e1 e2 e3 e4 e5
    have HBE0 : Below w1.heap.size w1 ((((((w4.setCell ⟨g4, n * 6, none⟩ (.int .i64 u0)).setCell ⟨g4, n * 6 + 1, none⟩ (.int .i64 u1)).setCell ⟨g4, n * 6 + 2, none⟩ (.int .i64 u2)).setCell ⟨g4, n * 6 + 3, none⟩ (.int .i64 u3)).setCell ⟨g4, n * 6 + 4, none⟩ (.int .i64 x)).setCell ⟨g4, n * 6 + 5, none⟩ (.int .i64 u5)) := (((((hn4.2.2.setCell (p := ⟨g4, n * 6, none⟩) hg4 _).setCell (p := ⟨g4, n * 6 + 1, none⟩) hg4 _).setCell (p := ⟨g4, n * 6 + 2, none⟩) hg4 _).setCell (p := ⟨g4, n * 6 + 3, none⟩) hg4 _).setCell (p := ⟨g4, n * 6 + 4, none⟩) hg4 _).setCell (p := ⟨g4, n * 6 + 5, none⟩) hg4 _
    have HBE := Lib.hid HBE0
    have fr0 := alloc_cell (set2_same0 (x := .slice (some ⟨g4, 0, none⟩) us.length c4) (y := .int .i64 nx) ((HBE0.cell (p := ⟨w.heap.size + 1, 0, none⟩) hRl).trans r0)) (.cells #[.int .i64 u0, .int .i64 u1, .int .i64 u2, .int .i64 u3, .int .i64 x, .int .i64 u5] 53)
    have fr1 := alloc_cell (set2_same1 (x := .slice (some ⟨g4, 0, none⟩) us.length c4) (y := .int .i64 nx) ((HBE0.cell (p := ⟨w.heap.size + 1, 1, none⟩) hRl).trans r1)) (.cells #[.int .i64 u0, .int .i64 u1, .int .i64 u2, .int .i64 u3, .int .i64 x, .int .i64 u5] 53)
    have HFR0 := Lib.hid fr0
    have HFR1 := Lib.hid fr1
    clear fr0 fr1 HBE0
    have HFIN := Lib.hid (show RPost w a (us.set n (Un.setF ⟨u0, u1, u2, u3, u4, u5⟩ 3 x)) nx (.bool true) (.returned (.tuple #[.agg #[.slice (some ⟨g4, 0, none⟩) us.length c4, .int .i64 nx], .bool true])) (((((((((w4.setCell ⟨g4, n * 6, none⟩ (.int .i64 u0)).setCell ⟨g4, n * 6 + 1, none⟩ (.int .i64 u1)).setCell ⟨g4, n * 6 + 2, none⟩ (.int .i64 u2)).setCell ⟨g4, n * 6 + 3, none⟩ (.int .i64 u3)).setCell ⟨g4, n * 6 + 4, none⟩ (.int .i64 x)).setCell ⟨g4, n * 6 + 5, none⟩ (.int .i64 u5)).setCell ⟨w.heap.size + 1, 0, none⟩ (.slice (some ⟨g4, 0, none⟩) us.length c4)).setCell ⟨w.heap.size + 1, 1, none⟩ (.int .i64 nx)).alloc (.cells #[.int .i64 u0, .int .i64 u1, .int .i64 u2, .int .i64 u3, .int .i64 x, .int .i64 u5] 53)) from by
      have ho := own_set6 (NewRec.own HN4.out) (unsI_wide us) n (by rw [unsI_len]; exact hnl) u0 u1 u2 u3 x u5
      have hset : (unsI us).set n [u0, u1, u2, u3, x, u5] = unsI (us.set n (Un.setF ⟨u0, u1, u2, u3, u4, u5⟩ 3 x)) := HSI.out
      rw [hset] at ho
      have hbe := HBE.out
      have hnew : NewRec 53 6 w1 (some ⟨g4, 0, none⟩) c4 (unsI (us.set n (Un.setF ⟨u0, u1, u2, u3, u4, u5⟩ 3 x))) ((((((w4.setCell ⟨g4, n * 6, none⟩ (.int .i64 u0)).setCell ⟨g4, n * 6 + 1, none⟩ (.int .i64 u1)).setCell ⟨g4, n * 6 + 2, none⟩ (.int .i64 u2)).setCell ⟨g4, n * 6 + 3, none⟩ (.int .i64 u3)).setCell ⟨g4, n * 6 + 4, none⟩ (.int .i64 x)).setCell ⟨g4, n * 6 + 5, none⟩ (.int .i64 u5)) := ⟨ho.1, ho.2, hbe⟩
      have h5 := newRec_rpost2 (w := w) (a0 := a) (nx := nx) (q := .bool true) HB1.out hnew (show w.heap.size ≤ w.heap.size + 1 by omega) hRl (.slice (some ⟨g4, 0, none⟩) us.length c4) (.int .i64 nx)
      rw [List.length_set] at h5
      exact h5.keep (bel_alloc (Below.refl _ _) _))
    rw [HPOST.out] at HFIN
    clear hb1 HF HB hB1 hrun hn4 t1 r0 r1 z0 z1 HN4 HSI
    go_wp2_with (first | (go_at_call 34; (refine (HM.out _).mono ?_); rintro e w' ⟨rfl, rfl⟩) | (at_builtin; refine wpList_append_run _ rfl (.tmp 43) (.tmp 45) 28 28 rfl _ _ rfl rfl (.slice (some ⟨g4, 0, none⟩) us.length c4) w4 HRUN.out ?_))
    have fr0 := HFR0.out
    have fr1 := HFR1.out
    exact bodyPost_ret (v := .tuple #[.agg #[.slice (some ⟨g4, 0, none⟩) us.length c4, .int .i64 nx], .bool true]) (by simp [results, Try.results19, go_sem, fr0, fr1]) rfl HFIN.out
  · have dx : decide (x < 1) = false := by simpa using hx4 rfl
    clear h2 h4 hx4
    go_enter Try.func19, Try.ntmps19
    go_wp2_with fail
    refine HF.out.mono ?_
    rintro r w1 ⟨rfl, hb1⟩
    have t0 : w1.cell? ⟨w.heap.size, 0, none⟩ = some (.slice a us.length c) := (hb1.cell (p := ⟨w.heap.size, 0, none⟩) (by simp; omega)).trans (by repeat' (first | exact new_cell (by first | rfl | (simp; done)) rfl | with_reducible refine alloc_cell ?_ _))
    have t1 : w1.cell? ⟨w.heap.size, 1, none⟩ = some (.int .i64 nx) := (hb1.cell (p := ⟨w.heap.size, 1, none⟩) (by simp; omega)).trans (by repeat' (first | exact new_cell (by first | rfl | (simp; done)) rfl | with_reducible refine alloc_cell ?_ _))
    have r0 : w1.cell? ⟨w.heap.size + 1, 0, none⟩ = some (.slice none 0 0) := (hb1.cell (p := ⟨w.heap.size + 1, 0, none⟩) (by simp)).trans (by repeat' (first | exact new_cell (by first | rfl | (simp; done)) rfl | with_reducible refine alloc_cell ?_ _))
    have r1 : w1.cell? ⟨w.heap.size + 1, 1, none⟩ = some (.int .i64 0) := (hb1.cell (p := ⟨w.heap.size + 1, 1, none⟩) (by simp)).trans (by repeat' (first | exact new_cell (by first | rfl | (simp; done)) rfl | with_reducible refine alloc_cell ?_ _))
    have z0 : w1.frozen? ⟨w.heap.size + 1, 0, none⟩ = false := (hb1.frozen (p := ⟨w.heap.size + 1, 0, none⟩) (by simp)).trans (by rw [show w.heap.size + 1 = (w.alloc (.cells #[.slice a us.length c, .int .i64 nx] 30)).heap.size by simp]; exact frozen_new _ _ _ _)
    have z1 : w1.frozen? ⟨w.heap.size + 1, 1, none⟩ = false := (hb1.frozen (p := ⟨w.heap.size + 1, 1, none⟩) (by simp)).trans (by rw [show w.heap.size + 1 = (w.alloc (.cells #[.slice a us.length c, .int .i64 nx] 30)).heap.size by simp]; exact frozen_new _ _ _ _)
    have hB1 : Below w.heap.size w w1 := HB.out.trans (hb1.mono HB.out.size)
    have hTl := block_lt_of_cell t0
    have hRl := block_lt_of_cell r0
    have HB1 := Lib.hid hB1
    obtain ⟨a4, c4, w4, hrun, hn4, -⟩ := app1 (W0 := w1) (k := w1.heap.size) (c := c) (ty := 28) (bel_alloc (Below.refl _ _) _) (made0 _ _ rfl) (Nat.le_refl _) (HR.out.below hB1) HN.out (by omega)
    obtain ⟨g4, rfl⟩ := own_someR hn4.1 (by rw [unsI_len]; omega)
    have HRUN := Lib.hid hrun
    have HN4 := Lib.hid hn4
    have hg4 : w1.heap.size ≤ g4 := hn4.2.1 _ rfl
    obtain ⟨b', off', e', hg4l, e0, e1, e2, e3, e4, e5⟩ := (show UnRow w4 (some ⟨g4, 0, none⟩) us from hn4.row (unsI_wide us) (by decide)).at hnl
    cases e'
    simp only [Nat.zero_add] at e0 e1 e2 e3 e4 e5
    have q0 : w4.frozen? ⟨g4, n * 6, none⟩ = false := hn4.1.frozenAt _
    have q1 : w4.frozen? ⟨g4, n * 6 + 1, none⟩ = false := hn4.1.frozenAt _
    have q2 : w4.frozen? ⟨g4, n * 6 + 2, none⟩ = false := hn4.1.frozenAt _
    have q3 : w4.frozen? ⟨g4, n * 6 + 3, none⟩ = false := hn4.1.frozenAt _
    have q4 : w4.frozen? ⟨g4, n * 6 + 4, none⟩ = false := hn4.1.frozenAt _
    have q5 : w4.frozen? ⟨g4, n * 6 + 5, none⟩ = false := hn4.1.frozenAt _
    have tt1 := (hn4.2.2.cell (p := ⟨w.heap.size, 1, none⟩) hTl).trans t1
    have rr0 := (hn4.2.2.cell (p := ⟨w.heap.size + 1, 0, none⟩) hRl).trans r0
    have rr1 := (hn4.2.2.cell (p := ⟨w.heap.size + 1, 1, none⟩) hRl).trans r1
    have zz0 := (hn4.2.2.frozen (p := ⟨w.heap.size + 1, 0, none⟩) hRl).trans z0
    have zz1 := (hn4.2.2.frozen (p := ⟨w.heap.size + 1, 1, none⟩) hRl).trans z1
    have hT4 := block_lt_of_cell tt1
    have hR4 := block_lt_of_cell rr0
    have hTl2 : w.heap.size < w1.heap.size := hTl
    have hRl2 : w.heap.size + 1 < w1.heap.size := hRl
    have ne1 : w.heap.size ≠ g4 := by omega
    have ne2 : w.heap.size + 1 ≠ g4 := by omega
    have HUE := Lib.hid (show us[n].setF 4 x = us[n].setF 4 x from rfl)
    generalize us[n] = u at e0 e1 e2 e3 e4 e5 HSI HPOST
    obtain ⟨u0, u1, u2, u3, u4, u5⟩ := u
    simp only at e0 e1 e2 e3 e4 e5
    have HBE0 : Below w1.heap.size w1 ((((((w4.setCell ⟨g4, n * 6, none⟩ (.int .i64 u0)).setCell ⟨g4, n * 6 + 1, none⟩ (.int .i64 u1)).setCell ⟨g4, n * 6 + 2, none⟩ (.int .i64 u2)).setCell ⟨g4, n * 6 + 3, none⟩ (.int .i64 u3)).setCell ⟨g4, n * 6 + 4, none⟩ (.int .i64 u4)).setCell ⟨g4, n * 6 + 5, none⟩ (.int .i64 x)) := (((((hn4.2.2.setCell (p := ⟨g4, n * 6, none⟩) hg4 _).setCell (p := ⟨g4, n * 6 + 1, none⟩) hg4 _).setCell (p := ⟨g4, n * 6 + 2, none⟩) hg4 _).setCell (p := ⟨g4, n * 6 + 3, none⟩) hg4 _).setCell (p := ⟨g4, n * 6 + 4, none⟩) hg4 _).setCell (p := ⟨g4, n * 6 + 5, none⟩) hg4 _
    have HBE := Lib.hid HBE0
    have fr0 := alloc_cell (set2_same0 (x := .slice (some ⟨g4, 0, none⟩) us.length c4) (y := .int .i64 nx) ((HBE0.cell (p := ⟨w.heap.size + 1, 0, none⟩) hRl).trans r0)) (.cells #[.int .i64 u0, .int .i64 u1, .int .i64 u2, .int .i64 u3, .int .i64 u4, .int .i64 x] 53)
    have fr1 := alloc_cell (set2_same1 (x := .slice (some ⟨g4, 0, none⟩) us.length c4) (y := .int .i64 nx) ((HBE0.cell (p := ⟨w.heap.size + 1, 1, none⟩) hRl).trans r1)) (.cells #[.int .i64 u0, .int .i64 u1, .int .i64 u2, .int .i64 u3, .int .i64 u4, .int .i64 x] 53)
    have HFR0 := Lib.hid fr0
    have HFR1 := Lib.hid fr1
    clear fr0 fr1 HBE0
    have HFIN := Lib.hid (show RPost w a (us.set n (Un.setF ⟨u0, u1, u2, u3, u4, u5⟩ 4 x)) nx (.bool true) (.returned (.tuple #[.agg #[.slice (some ⟨g4, 0, none⟩) us.length c4, .int .i64 nx], .bool true])) (((((((((w4.setCell ⟨g4, n * 6, none⟩ (.int .i64 u0)).setCell ⟨g4, n * 6 + 1, none⟩ (.int .i64 u1)).setCell ⟨g4, n * 6 + 2, none⟩ (.int .i64 u2)).setCell ⟨g4, n * 6 + 3, none⟩ (.int .i64 u3)).setCell ⟨g4, n * 6 + 4, none⟩ (.int .i64 u4)).setCell ⟨g4, n * 6 + 5, none⟩ (.int .i64 x)).setCell ⟨w.heap.size + 1, 0, none⟩ (.slice (some ⟨g4, 0, none⟩) us.length c4)).setCell ⟨w.heap.size + 1, 1, none⟩ (.int .i64 nx)).alloc (.cells #[.int .i64 u0, .int .i64 u1, .int .i64 u2, .int .i64 u3, .int .i64 u4, .int .i64 x] 53)) from by
      have ho := own_set6 (NewRec.own HN4.out) (unsI_wide us) n (by rw [unsI_len]; exact hnl) u0 u1 u2 u3 u4 x
      have hset : (unsI us).set n [u0, u1, u2, u3, u4, x] = unsI (us.set n (Un.setF ⟨u0, u1, u2, u3, u4, u5⟩ 4 x)) := HSI.out
      rw [hset] at ho
      have hbe := HBE.out
      have hnew : NewRec 53 6 w1 (some ⟨g4, 0, none⟩) c4 (unsI (us.set n (Un.setF ⟨u0, u1, u2, u3, u4, u5⟩ 4 x))) ((((((w4.setCell ⟨g4, n * 6, none⟩ (.int .i64 u0)).setCell ⟨g4, n * 6 + 1, none⟩ (.int .i64 u1)).setCell ⟨g4, n * 6 + 2, none⟩ (.int .i64 u2)).setCell ⟨g4, n * 6 + 3, none⟩ (.int .i64 u3)).setCell ⟨g4, n * 6 + 4, none⟩ (.int .i64 u4)).setCell ⟨g4, n * 6 + 5, none⟩ (.int .i64 x)) := ⟨ho.1, ho.2, hbe⟩
      have h5 := newRec_rpost2 (w := w) (a0 := a) (nx := nx) (q := .bool true) HB1.out hnew (show w.heap.size ≤ w.heap.size + 1 by omega) hRl (.slice (some ⟨g4, 0, none⟩) us.length c4) (.int .i64 nx)
      rw [List.length_set] at h5
      exact h5.keep (bel_alloc (Below.refl _ _) _))
    rw [HPOST.out] at HFIN
    clear hb1 HF HB hB1 hrun hn4 t1 r0 r1 z0 z1 HN4 HSI
    go_wp2_with (first | (go_at_call 34; (refine (HM.out _).mono ?_); rintro e w' ⟨rfl, rfl⟩) | (at_builtin; refine wpList_append_run _ rfl (.tmp 43) (.tmp 45) 28 28 rfl _ _ rfl rfl (.slice (some ⟨g4, 0, none⟩) us.length c4) w4 HRUN.out ?_))
    have fr0 := HFR0.out
    have fr1 := HFR1.out
    exact bodyPost_ret (v := .tuple #[.agg #[.slice (some ⟨g4, 0, none⟩) us.length c4, .int .i64 nx], .bool true]) (by simp [results, Try.results19, go_sem, fr0, fr1]) rfl HFIN.out
end Go.Proofs.Ythggfjjiohdbmaa
