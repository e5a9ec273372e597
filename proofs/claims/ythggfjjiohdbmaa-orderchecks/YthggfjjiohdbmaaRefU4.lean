/-
  Layer 8: the document's own table: a field is another one.
-/
import Derived.Test.YthggfjjiohdbmaaRefU3
import Derived.Test.YthggfjjiohdbmaaRecArgs
namespace Go.Proofs.Ythggfjjiohdbmaa
open Go.RowKit
set_option linter.unusedVariables false

theorem RPost.set2 {w w1 w2 : World} {a : Option Addr} {us : List Un} {nx : Int} {q : Value} {r : Ending} {R : Nat} (h : RPost w1 a us nx q r w2) (hb : Below w.heap.size w w1) (ha : ∀ x, a = some x → x.block < w.heap.size) (hR1 : w.heap.size ≤ R) (hR2 : R < w1.heap.size) (x0 x1 : Value) : RPost w a us nx q r ((w2.setCell ⟨R, 0, none⟩ x0).setCell ⟨R, 1, none⟩ x1) := by
  obtain ⟨a5, c5, h1, h2, h3, h4, h5, h6, h7⟩ := h
  have ht := set2r_touch w2 R x0 x1
  have hbb := set2r_below (hb.trans (h7.mono hb.size)) hR1 x0 x1
  unfold set2r at ht hbb
  refine ⟨a5, c5, h1, h2.touch ht (fun x hx e => ?_), h3, h4, h5, ?_, hbb⟩
  · rcases h6 with h | h
    · rw [h] at hx; have := ha x hx; omega
    · have := (h x hx).1; omega
  · rcases h6 with h | h
    · exact .inl h
    · exact .inr fun x hx => ⟨Nat.le_trans hb.size (h x hx).1, Nat.lt_of_lt_of_le (h x hx).2 ht.size⟩
set_option maxRecDepth 100000 in
set_option maxHeartbeats 2000000 in
theorem refSet_no (a : Option Addr) (c : Nat) (us : List Un) (nx id f x : Int) (n : Nat) (w : World) (hl : us.length ≤ 64) (hrise : Rising us) (hr : UnRow w a us) (hn : a = none → us = []) (hc : us.length ≤ c ∧ c ≤ maxLen) (hf : FindIs us id n) (hno : foundQ us id n = false ∨ f < 2 ∨ 4 < f ∨ (¬ (f = 4 ∧ x < 1) ∧ mayN f.toNat x = false)) :
    Calls Try.prog 19 #[.agg #[.slice a us.length c, .int .i64 nx], .int .i64 id, .int .i64 f, .int .i64 x] w (RPost w a us nx (.bool false)) := by
  have hB : Below w.heap.size w ((w.alloc (.cells #[.slice a us.length c, .int .i64 nx] 30)).alloc (.cells #[.slice none 0 0, .int .i64 0] 30)) := bel_alloc (bel_alloc (Below.refl _ _) _) _
  have HF := Lib.hid (refFind_any a c us nx id n _ (by omega) hrise (hr.below hB) hf)
  have HB := Lib.hid hB
  have HP := Lib.hid (show ∀ W, Below w.heap.size w W → RPost w a us nx (.bool false) (.returned (.tuple #[.agg #[.slice a us.length c, .int .i64 nx], .bool false])) W from fun W hb => ⟨a, c, rfl, hr.below hb, hn, hc.1, hc.2, .inl rfl, hb⟩)
  generalize hpost : RPost w a us nx (.bool false) = Post at HP ⊢
  clear hr hn hB hpost hf hrise hc
  unfold findR at HF
  cases hq : foundQ us id n
  · rw [hq] at HF
    simp only [Bool.false_eq_true, if_false] at HF
    clear hno hq
    go_enter Try.func19, Try.ntmps19
    go_wp2_with fail
    refine HF.out.mono ?_
    rintro r w1 ⟨rfl, hb1⟩
    have t0 : w1.cell? ⟨w.heap.size, 0, none⟩ = some (.slice a us.length c) := (hb1.cell (p := ⟨w.heap.size, 0, none⟩) (by simp; omega)).trans (by repeat' (first | exact new_cell (by first | rfl | (simp; done)) rfl | with_reducible refine alloc_cell ?_ _))
    have t1 : w1.cell? ⟨w.heap.size, 1, none⟩ = some (.int .i64 nx) := (hb1.cell (p := ⟨w.heap.size, 1, none⟩) (by simp; omega)).trans (by repeat' (first | exact new_cell (by first | rfl | (simp; done)) rfl | with_reducible refine alloc_cell ?_ _))
    have r0 : w1.cell? ⟨w.heap.size + 1, 0, none⟩ = some (.slice none 0 0) := (hb1.cell (p := ⟨w.heap.size + 1, 0, none⟩) (by simp)).trans (by repeat' (first | exact new_cell (by first | rfl | (simp; done)) rfl | with_reducible refine alloc_cell ?_ _))
    have r1 : w1.cell? ⟨w.heap.size + 1, 1, none⟩ = some (.int .i64 0) := (hb1.cell (p := ⟨w.heap.size + 1, 1, none⟩) (by simp)).trans (by repeat' (first | exact new_cell (by first | rfl | (simp; done)) rfl | with_reducible refine alloc_cell ?_ _))
    have z0 : w1.frozen? ⟨w.heap.size + 1, 0, none⟩ = false := (hb1.frozen (p := ⟨w.heap.size + 1, 0, none⟩) (by simp)).trans (by rw [show w.heap.size + 1 = (w.alloc (.cells #[.slice a us.length c, .int .i64 nx] 30)).heap.size by simp]; exact frozen_new _ _ _ _)
    have z1 : w1.frozen? ⟨w.heap.size + 1, 1, none⟩ = false := (hb1.frozen (p := ⟨w.heap.size + 1, 1, none⟩) (by simp)).trans (by rw [show w.heap.size + 1 = (w.alloc (.cells #[.slice a us.length c, .int .i64 nx] 30)).heap.size by simp]; exact frozen_new _ _ _ _)
    have hB1 : Below w.heap.size w w1 := HB.out.trans (hb1.mono HB.out.size)
    have hTl := block_lt_of_cell t0
    have hRl := block_lt_of_cell r0
    have HB2 := Lib.hid (set2r_below hB1 (show w.heap.size ≤ w.heap.size + 1 by omega) (.slice a us.length c) (.int .i64 nx))
    unfold set2r at HB2
    clear hb1 HF HB hB1
    go_wp2
    exact bodyPost_ret (v := .tuple #[.agg #[.slice a us.length c, .int .i64 nx], .bool false]) (by simp [results, Try.results19, go_sem, r0, r1]) rfl (HP.out _ HB2.out)
  · rw [hq] at HF hno
    simp only [if_true, Bool.true_eq_false, false_or] at HF hno
    obtain ⟨hnl, -⟩ := findIs_lt hq
    have dn : decide ((n : Int) < 0) = false := by simp
    have hn64 : n < 64 := by omega
    clear hq hnl
    by_cases hf2 : f < 2
    · have d2 : decide (f < 2) = true := by simpa using hf2
      clear hno hf2
      go_enter Try.func19, Try.ntmps19
      go_wp2_with fail
      refine HF.out.mono ?_
      rintro r w1 ⟨rfl, hb1⟩
      have t0 : w1.cell? ⟨w.heap.size, 0, none⟩ = some (.slice a us.length c) := (hb1.cell (p := ⟨w.heap.size, 0, none⟩) (by simp; omega)).trans (by repeat' (first | exact new_cell (by first | rfl | (simp; done)) rfl | with_reducible refine alloc_cell ?_ _))
      have t1 : w1.cell? ⟨w.heap.size, 1, none⟩ = some (.int .i64 nx) := (hb1.cell (p := ⟨w.heap.size, 1, none⟩) (by simp; omega)).trans (by repeat' (first | exact new_cell (by first | rfl | (simp; done)) rfl | with_reducible refine alloc_cell ?_ _))
      have r0 : w1.cell? ⟨w.heap.size + 1, 0, none⟩ = some (.slice none 0 0) := (hb1.cell (p := ⟨w.heap.size + 1, 0, none⟩) (by simp)).trans (by repeat' (first | exact new_cell (by first | rfl | (simp; done)) rfl | with_reducible refine alloc_cell ?_ _))
      have r1 : w1.cell? ⟨w.heap.size + 1, 1, none⟩ = some (.int .i64 0) := (hb1.cell (p := ⟨w.heap.size + 1, 1, none⟩) (by simp)).trans (by repeat' (first | exact new_cell (by first | rfl | (simp; done)) rfl | with_reducible refine alloc_cell ?_ _))
      have z0 : w1.frozen? ⟨w.heap.size + 1, 0, none⟩ = false := (hb1.frozen (p := ⟨w.heap.size + 1, 0, none⟩) (by simp)).trans (by rw [show w.heap.size + 1 = (w.alloc (.cells #[.slice a us.length c, .int .i64 nx] 30)).heap.size by simp]; exact frozen_new _ _ _ _)
      have z1 : w1.frozen? ⟨w.heap.size + 1, 1, none⟩ = false := (hb1.frozen (p := ⟨w.heap.size + 1, 1, none⟩) (by simp)).trans (by rw [show w.heap.size + 1 = (w.alloc (.cells #[.slice a us.length c, .int .i64 nx] 30)).heap.size by simp]; exact frozen_new _ _ _ _)
      have hB1 : Below w.heap.size w w1 := HB.out.trans (hb1.mono HB.out.size)
      have hTl := block_lt_of_cell t0
      have hRl := block_lt_of_cell r0
      have HB2 := Lib.hid (set2r_below hB1 (show w.heap.size ≤ w.heap.size + 1 by omega) (.slice a us.length c) (.int .i64 nx))
      unfold set2r at HB2
      clear hb1 HF HB hB1
      go_wp2
      exact bodyPost_ret (v := .tuple #[.agg #[.slice a us.length c, .int .i64 nx], .bool false]) (by simp [results, Try.results19, go_sem, r0, r1]) rfl (HP.out _ HB2.out)
    · have d2 : decide (f < 2) = false := by simpa using hf2
      by_cases hf4 : 4 < f
      · have d4 : decide (4 < f) = true := by simpa using hf4
        clear hno hf2 hf4
        go_enter Try.func19, Try.ntmps19
        go_wp2_with fail
        refine HF.out.mono ?_
        rintro r w1 ⟨rfl, hb1⟩
        have t0 : w1.cell? ⟨w.heap.size, 0, none⟩ = some (.slice a us.length c) := (hb1.cell (p := ⟨w.heap.size, 0, none⟩) (by simp; omega)).trans (by repeat' (first | exact new_cell (by first | rfl | (simp; done)) rfl | with_reducible refine alloc_cell ?_ _))
        have t1 : w1.cell? ⟨w.heap.size, 1, none⟩ = some (.int .i64 nx) := (hb1.cell (p := ⟨w.heap.size, 1, none⟩) (by simp; omega)).trans (by repeat' (first | exact new_cell (by first | rfl | (simp; done)) rfl | with_reducible refine alloc_cell ?_ _))
        have r0 : w1.cell? ⟨w.heap.size + 1, 0, none⟩ = some (.slice none 0 0) := (hb1.cell (p := ⟨w.heap.size + 1, 0, none⟩) (by simp)).trans (by repeat' (first | exact new_cell (by first | rfl | (simp; done)) rfl | with_reducible refine alloc_cell ?_ _))
        have r1 : w1.cell? ⟨w.heap.size + 1, 1, none⟩ = some (.int .i64 0) := (hb1.cell (p := ⟨w.heap.size + 1, 1, none⟩) (by simp)).trans (by repeat' (first | exact new_cell (by first | rfl | (simp; done)) rfl | with_reducible refine alloc_cell ?_ _))
        have z0 : w1.frozen? ⟨w.heap.size + 1, 0, none⟩ = false := (hb1.frozen (p := ⟨w.heap.size + 1, 0, none⟩) (by simp)).trans (by rw [show w.heap.size + 1 = (w.alloc (.cells #[.slice a us.length c, .int .i64 nx] 30)).heap.size by simp]; exact frozen_new _ _ _ _)
        have z1 : w1.frozen? ⟨w.heap.size + 1, 1, none⟩ = false := (hb1.frozen (p := ⟨w.heap.size + 1, 1, none⟩) (by simp)).trans (by rw [show w.heap.size + 1 = (w.alloc (.cells #[.slice a us.length c, .int .i64 nx] 30)).heap.size by simp]; exact frozen_new _ _ _ _)
        have hB1 : Below w.heap.size w w1 := HB.out.trans (hb1.mono HB.out.size)
        have hTl := block_lt_of_cell t0
        have hRl := block_lt_of_cell r0
        have HB2 := Lib.hid (set2r_below hB1 (show w.heap.size ≤ w.heap.size + 1 by omega) (.slice a us.length c) (.int .i64 nx))
        unfold set2r at HB2
        clear hb1 HF HB hB1
        go_wp2
        exact bodyPost_ret (v := .tuple #[.agg #[.slice a us.length c, .int .i64 nx], .bool false]) (by simp [results, Try.results19, go_sem, r0, r1]) rfl (HP.out _ HB2.out)
      · have d4 : decide (4 < f) = false := by simpa using hf4
        have hf' : ¬ (f = 4 ∧ x < 1) ∧ mayN f.toNat x = false := by rcases hno with h | h | h; exact absurd h hf2; exact absurd h hf4; exact h
        have HM := Lib.hid (fun W => refMay_any f.toNat x W (by omega))
        rw [hf'.2] at HM
        obtain ⟨fn, rfl⟩ := Int.eq_ofNat_of_zero_le (show 0 ≤ f by omega)
        simp only [Int.toNat_natCast] at HM
        by_cases h4 : fn = 4
        · subst h4
          have hx : ¬ x < 1 := fun h => hf'.1 ⟨rfl, h⟩
          have dx : decide (x < 1) = false := by simpa using hx
          clear hno hf' hf2 hf4 d2 d4 hx
          go_enter Try.func19, Try.ntmps19
          go_wp2_with fail
          refine HF.out.mono ?_
          rintro r w1 ⟨rfl, hb1⟩
          have t0 : w1.cell? ⟨w.heap.size, 0, none⟩ = some (.slice a us.length c) := (hb1.cell (p := ⟨w.heap.size, 0, none⟩) (by simp; omega)).trans (by repeat' (first | exact new_cell (by first | rfl | (simp; done)) rfl | with_reducible refine alloc_cell ?_ _))
          have t1 : w1.cell? ⟨w.heap.size, 1, none⟩ = some (.int .i64 nx) := (hb1.cell (p := ⟨w.heap.size, 1, none⟩) (by simp; omega)).trans (by repeat' (first | exact new_cell (by first | rfl | (simp; done)) rfl | with_reducible refine alloc_cell ?_ _))
          have r0 : w1.cell? ⟨w.heap.size + 1, 0, none⟩ = some (.slice none 0 0) := (hb1.cell (p := ⟨w.heap.size + 1, 0, none⟩) (by simp)).trans (by repeat' (first | exact new_cell (by first | rfl | (simp; done)) rfl | with_reducible refine alloc_cell ?_ _))
          have r1 : w1.cell? ⟨w.heap.size + 1, 1, none⟩ = some (.int .i64 0) := (hb1.cell (p := ⟨w.heap.size + 1, 1, none⟩) (by simp)).trans (by repeat' (first | exact new_cell (by first | rfl | (simp; done)) rfl | with_reducible refine alloc_cell ?_ _))
          have z0 : w1.frozen? ⟨w.heap.size + 1, 0, none⟩ = false := (hb1.frozen (p := ⟨w.heap.size + 1, 0, none⟩) (by simp)).trans (by rw [show w.heap.size + 1 = (w.alloc (.cells #[.slice a us.length c, .int .i64 nx] 30)).heap.size by simp]; exact frozen_new _ _ _ _)
          have z1 : w1.frozen? ⟨w.heap.size + 1, 1, none⟩ = false := (hb1.frozen (p := ⟨w.heap.size + 1, 1, none⟩) (by simp)).trans (by rw [show w.heap.size + 1 = (w.alloc (.cells #[.slice a us.length c, .int .i64 nx] 30)).heap.size by simp]; exact frozen_new _ _ _ _)
          have hB1 : Below w.heap.size w w1 := HB.out.trans (hb1.mono HB.out.size)
          have hTl := block_lt_of_cell t0
          have hRl := block_lt_of_cell r0
          have HB2 := Lib.hid (set2r_below hB1 (show w.heap.size ≤ w.heap.size + 1 by omega) (.slice a us.length c) (.int .i64 nx))
          unfold set2r at HB2
          clear hb1 HF HB hB1
          go_wp2_with (go_at_call 34; (refine (HM.out _).mono ?_); rintro e w' ⟨rfl, rfl⟩)
          exact bodyPost_ret (v := .tuple #[.agg #[.slice a us.length c, .int .i64 nx], .bool false]) (by simp [results, Try.results19, go_sem, r0, r1]) rfl (HP.out _ HB2.out)
        · have h4b : ((fn : Int) == 4) = false := by simp; omega
          clear hno hf' h4
          go_enter Try.func19, Try.ntmps19
          go_wp2_with fail
          refine HF.out.mono ?_
          rintro r w1 ⟨rfl, hb1⟩
          have t0 : w1.cell? ⟨w.heap.size, 0, none⟩ = some (.slice a us.length c) := (hb1.cell (p := ⟨w.heap.size, 0, none⟩) (by simp; omega)).trans (by repeat' (first | exact new_cell (by first | rfl | (simp; done)) rfl | with_reducible refine alloc_cell ?_ _))
          have t1 : w1.cell? ⟨w.heap.size, 1, none⟩ = some (.int .i64 nx) := (hb1.cell (p := ⟨w.heap.size, 1, none⟩) (by simp; omega)).trans (by repeat' (first | exact new_cell (by first | rfl | (simp; done)) rfl | with_reducible refine alloc_cell ?_ _))
          have r0 : w1.cell? ⟨w.heap.size + 1, 0, none⟩ = some (.slice none 0 0) := (hb1.cell (p := ⟨w.heap.size + 1, 0, none⟩) (by simp)).trans (by repeat' (first | exact new_cell (by first | rfl | (simp; done)) rfl | with_reducible refine alloc_cell ?_ _))
          have r1 : w1.cell? ⟨w.heap.size + 1, 1, none⟩ = some (.int .i64 0) := (hb1.cell (p := ⟨w.heap.size + 1, 1, none⟩) (by simp)).trans (by repeat' (first | exact new_cell (by first | rfl | (simp; done)) rfl | with_reducible refine alloc_cell ?_ _))
          have z0 : w1.frozen? ⟨w.heap.size + 1, 0, none⟩ = false := (hb1.frozen (p := ⟨w.heap.size + 1, 0, none⟩) (by simp)).trans (by rw [show w.heap.size + 1 = (w.alloc (.cells #[.slice a us.length c, .int .i64 nx] 30)).heap.size by simp]; exact frozen_new _ _ _ _)
          have z1 : w1.frozen? ⟨w.heap.size + 1, 1, none⟩ = false := (hb1.frozen (p := ⟨w.heap.size + 1, 1, none⟩) (by simp)).trans (by rw [show w.heap.size + 1 = (w.alloc (.cells #[.slice a us.length c, .int .i64 nx] 30)).heap.size by simp]; exact frozen_new _ _ _ _)
          have hB1 : Below w.heap.size w w1 := HB.out.trans (hb1.mono HB.out.size)
          have hTl := block_lt_of_cell t0
          have hRl := block_lt_of_cell r0
          have HB2 := Lib.hid (set2r_below hB1 (show w.heap.size ≤ w.heap.size + 1 by omega) (.slice a us.length c) (.int .i64 nx))
          unfold set2r at HB2
          clear hb1 HF HB hB1
          go_wp2_with (go_at_call 34; (refine (HM.out _).mono ?_); rintro e w' ⟨rfl, rfl⟩)
          exact bodyPost_ret (v := .tuple #[.agg #[.slice a us.length c, .int .i64 nx], .bool false]) (by simp [results, Try.results19, go_sem, r0, r1]) rfl (HP.out _ HB2.out)
set_option maxRecDepth 100000 in
set_option maxHeartbeats 2000000 in
theorem refSet_kill (a : Option Addr) (c : Nat) (us : List Un) (nx id x : Int) (n : Nat) (w : World) (hl : us.length ≤ 64) (hrise : Rising us) (hr : UnRow w a us) (hn : a = none → us = []) (hc : us.length ≤ c ∧ c ≤ maxLen) (hf : FindIs us id n) (hq : foundQ us id n = true) (hx : x < 1) :
    Calls Try.prog 19 #[.agg #[.slice a us.length c, .int .i64 nx], .int .i64 id, .int .i64 4, .int .i64 x] w (RPost w a (us.eraseIdx n) nx (.bool true)) := by
  have hB : Below w.heap.size w ((w.alloc (.cells #[.slice a us.length c, .int .i64 nx] 30)).alloc (.cells #[.slice none 0 0, .int .i64 0] 30)) := bel_alloc (bel_alloc (Below.refl _ _) _) _
  have HF := Lib.hid (refFind_any a c us nx id n _ (by omega) hrise (hr.below hB) hf)
  have HB := Lib.hid hB
  have HK := Lib.hid (fun (W : World) (hb : Below w.heap.size w W) => refKill_yes a c us nx id n W hl hrise (hr.below hb) hn hc hf hq)
  rw [show findR us id n = (n : Int) by unfold findR; rw [hq]; rfl] at HF
  have dn : decide ((n : Int) < 0) = false := by simp
  have dx : decide (x < 1) = true := by simpa using hx
  obtain ⟨hnl, -⟩ := findIs_lt hq
  have hn64 : n < 64 := by omega
  have HAL := Lib.hid (show ∀ x, a = some x → x.block < w.heap.size from fun x hx => by
    obtain ⟨gb, off, e, hlt, -⟩ := hr.at hnl
    rw [e] at hx
    cases hx
    exact hlt)
  generalize hpost : RPost w a (us.eraseIdx n) nx (.bool true) = Post
  have HPOST := Lib.hid hpost
  clear hr hn hB hf hrise hc hq hx hnl hpost
  go_enter Try.func19, Try.ntmps19
  go_wp2_with fail
  refine HF.out.mono ?_
  rintro r w1 ⟨rfl, hb1⟩
  have t0 : w1.cell? ⟨w.heap.size, 0, none⟩ = some (.slice a us.length c) := (hb1.cell (p := ⟨w.heap.size, 0, none⟩) (by simp; omega)).trans (by repeat' (first | exact new_cell (by first | rfl | (simp; done)) rfl | with_reducible refine alloc_cell ?_ _))
  have t1 : w1.cell? ⟨w.heap.size, 1, none⟩ = some (.int .i64 nx) := (hb1.cell (p := ⟨w.heap.size, 1, none⟩) (by simp; omega)).trans (by repeat' (first | exact new_cell (by first | rfl | (simp; done)) rfl | with_reducible refine alloc_cell ?_ _))
  have r0 : w1.cell? ⟨w.heap.size + 1, 0, none⟩ = some (.slice none 0 0) := (hb1.cell (p := ⟨w.heap.size + 1, 0, none⟩) (by simp)).trans (by repeat' (first | exact new_cell (by first | rfl | (simp; done)) rfl | with_reducible refine alloc_cell ?_ _))
  have r1 : w1.cell? ⟨w.heap.size + 1, 1, none⟩ = some (.int .i64 0) := (hb1.cell (p := ⟨w.heap.size + 1, 1, none⟩) (by simp)).trans (by repeat' (first | exact new_cell (by first | rfl | (simp; done)) rfl | with_reducible refine alloc_cell ?_ _))
  have z0 : w1.frozen? ⟨w.heap.size + 1, 0, none⟩ = false := (hb1.frozen (p := ⟨w.heap.size + 1, 0, none⟩) (by simp)).trans (by rw [show w.heap.size + 1 = (w.alloc (.cells #[.slice a us.length c, .int .i64 nx] 30)).heap.size by simp]; exact frozen_new _ _ _ _)
  have z1 : w1.frozen? ⟨w.heap.size + 1, 1, none⟩ = false := (hb1.frozen (p := ⟨w.heap.size + 1, 1, none⟩) (by simp)).trans (by rw [show w.heap.size + 1 = (w.alloc (.cells #[.slice a us.length c, .int .i64 nx] 30)).heap.size by simp]; exact frozen_new _ _ _ _)
  have hB1 : Below w.heap.size w w1 := HB.out.trans (hb1.mono HB.out.size)
  have hTl := block_lt_of_cell t0
  have hRl := block_lt_of_cell r0
  have HB1 := Lib.hid hB1
  clear hb1 HF HB hB1
  go_wp2_with fail
  refine (HK.out w1 HB1.out).mono ?_
  rintro r w2 hp
  have HFIN := Lib.hid (fun x0 x1 => hp.set2 HB1.out HAL.out (show w.heap.size ≤ w.heap.size + 1 by omega) hRl x0 x1)
  obtain ⟨a5, c5, rfl, h2, h3, h4, h5, h6, h7⟩ := hp
  rw [HPOST.out] at HFIN
  have rr0 := (h7.cell (p := ⟨w.heap.size + 1, 0, none⟩) hRl).trans r0
  have rr1 := (h7.cell (p := ⟨w.heap.size + 1, 1, none⟩) hRl).trans r1
  have zz0 := (h7.frozen (p := ⟨w.heap.size + 1, 0, none⟩) hRl).trans z0
  have zz1 := (h7.frozen (p := ⟨w.heap.size + 1, 1, none⟩) hRl).trans z1
  have hRl2 := block_lt_of_cell rr0
  clear h2 h3 h4 h5 h6 h7 t0 t1 r0 r1 z0 z1 HK
  go_wp2
  exact bodyPost_ret (v := .tuple #[.agg #[.slice a5 (us.eraseIdx n).length c5, .int .i64 nx], .bool true]) (by simp [results, Try.results19, go_sem, rr0, rr1]) rfl (HFIN.out _ _)
theorem own_set6 {e : TypeId} {B g c : Nat} {w : World} {ls : List (List Int)} (h : OwnRec e 6 B (some ⟨g, 0, none⟩) c ls w) (hw : Wide 6 ls) (i : Nat) (hi : i < ls.length) (v0 v1 v2 v3 v4 v5 : Int) :
    OwnRec e 6 B (some ⟨g, 0, none⟩) c (ls.set i [v0, v1, v2, v3, v4, v5]) ((((((w.setCell ⟨g, i * 6, none⟩ (.int .i64 v0)).setCell ⟨g, i * 6 + 1, none⟩ (.int .i64 v1)).setCell ⟨g, i * 6 + 2, none⟩ (.int .i64 v2)).setCell ⟨g, i * 6 + 3, none⟩ (.int .i64 v3)).setCell ⟨g, i * 6 + 4, none⟩ (.int .i64 v4)).setCell ⟨g, i * 6 + 5, none⟩ (.int .i64 v5)) := by
  have hl : ls[i].length = 6 := hw _ (List.getElem_mem hi)
  have step : ∀ (W : World) (x : List Int) (hx : x.length = 6) (j : Nat) (hj : j < 6) (v : Int), OwnRec e 6 B (some ⟨g, 0, none⟩) c (ls.set i x) W → OwnRec e 6 B (some ⟨g, 0, none⟩) c (ls.set i (x.set j v)) (W.setCell ⟨g, i * 6 + j, none⟩ (.int .i64 v)) := by
    intro W x hx j hj v hW
    have h1 := hW.set (wide_set hw i x hx) i (by simpa using hi) j hj v
    rw [List.getElem_set_self, List.set_set] at h1
    exact h1
  have s0 : OwnRec e 6 B (some ⟨g, 0, none⟩) c (ls.set i ls[i]) w := by rw [List.set_getElem_self]; exact h
  have s1 := step _ _ hl 0 (by decide) v0 s0
  have s2 := step _ _ (by simpa using hl) 1 (by decide) v1 s1
  have s3 := step _ _ (by simpa using hl) 2 (by decide) v2 s2
  have s4 := step _ _ (by simpa using hl) 3 (by decide) v3 s3
  have s5 := step _ _ (by simpa using hl) 4 (by decide) v4 s4
  have s6 := step _ _ (by simpa using hl) 5 (by decide) v5 s5
  have e6 : (((((ls[i].set 0 v0).set 1 v1).set 2 v2).set 3 v3).set 4 v4).set 5 v5 = [v0, v1, v2, v3, v4, v5] := by
    obtain ⟨a, b, c, d, e, f, h⟩ := list_6 hl
    rw [h]; rfl
  rw [e6] at s6
  exact s6
end Go.Proofs.Ythggfjjiohdbmaa
