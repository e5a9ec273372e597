/-
  Layer 18: the answers that the document fixes.
-/
import Derived.Test.YtcbadcbnknmdnaaDoorRos8
namespace Go.Proofs.YtcbadcbnknmdnaaDoor
open Go.RowKit
set_option linter.unusedVariables false

theorem awake18_of : ofP [0, 1, 2] = 7 := by decide
theorem awake18_yes : withP 7 0 [⟨3, 2, [0, 1]⟩] = (3, 1, 0) := by decide +kernel
theorem awake18_no : withP 7 0 [⟨3, 2, [0]⟩] = (7, 0, 15) := by decide +kernel
theorem ch_one18 {w W : World} {v : Value} {c : Chg} (hb : Below w.heap.size w W) (a : Option Addr) (n : Nat) (h : ActL w (.slice a c.v.length n) c.v) : ChIs W [[.int .i64 c.k, .int .i64 c.p, .slice a c.v.length n]] [c] :=
  ⟨rfl, fun i h1 h2 => by
    obtain rfl : i = 0 := by simpa using h1
    exact ⟨a, n, rfl, h.below hb⟩⟩
set_option maxRecDepth 100000 in
set_option maxHeartbeats 4000000 in
theorem awake18_any (w : World) : Calls Tryd.prog 5 #[] w fun r w' => r = .returned (.bool true) ∧ Below w.heap.size w w' := by
  have HOF := Lib.hid (fun W a (h : IntRow .i64 W a [0, 1, 2]) => rof_any a 3 [0, 1, 2] W h (by decide))
  have HW1 := Lib.hid (fun (W : World) (x : Option Addr) (a : Option Addr) (h : ChIs W [[.int .i64 3, .int .i64 2, .slice x 2 2]] [⟨3, 2, [0, 1]⟩]) (hr : VRow 3 W a [[.int .i64 3, .int .i64 2, .slice x 2 2]]) => rwith_any 7 0 a 1 _ _ W (by decide) (by decide) hr h ⟨by decide, by decide⟩ 1 rfl)
  have HW2 := Lib.hid (fun (W : World) (x : Option Addr) (a : Option Addr) (h : ChIs W [[.int .i64 3, .int .i64 2, .slice x 1 1]] [⟨3, 2, [0]⟩]) (hr : VRow 3 W a [[.int .i64 3, .int .i64 2, .slice x 1 1]]) => rwith_any 7 0 a 1 _ _ W (by decide) (by decide) hr h ⟨by decide, by decide⟩ 1 rfl)
  unfold WithPost at HW1 HW2
  rw [awake18_yes] at HW1
  rw [awake18_no] at HW2
  rw [awake18_of] at HOF
  simp only at HW1 HW2
  have HLEN := Lib.hid (fun W => rlen_any 3 1 W (by decide))
  have HH1 := Lib.hid (fun W => rhas_any 3 1 1 W (by decide))
  have HH2 := Lib.hid (fun W => rhas_any 3 1 2 W (by decide))
  have HEP := Lib.hid (fun W => repoch_any 3 1 W)
  rw [show lenP 3 = 2 from by decide] at HLEN
  rw [show hasP 3 1 = true from by decide] at HH1
  rw [show hasP 3 2 = false from by decide] at HH2
  unfold rosV at HOF HW1 HW2 HLEN HH1 HH2 HEP
  go_enter Tryd.func5, Tryd.ntmps5
  go_wp2_with fail
  refine (HOF.out _ _ (row_new18 _ _ [0, 1, 2] _ rfl _ rfl)).mono ?_
  rintro r w1 ⟨rfl, hb1⟩
  have HB1 := Lib.hid ((bel_alloc (Below.refl _ _) _ : Below w.heap.size w _).trans (hb1.mono (by simp)))
  clear hb1
  go_wp2_with fail
  have ha1 := act_new18 w1 3 [0, 1] #[.int .i64 0, .int .i64 1] rfl _ rfl 2 2 rfl (by decide) (by decide)
  have hA1 : Below w1.heap.size w1 (w1.alloc (.cells #[.int .i64 0, .int .i64 1] 3)) := bel_alloc (Below.refl _ _) _
  have hci := ch_one18 (v := .bool true) (c := ⟨3, 2, [0, 1]⟩) (bel_alloc (Below.refl _ _) (.cells #[.int .i64 3, .int .i64 2, .slice (some ⟨w1.heap.size, 0, none⟩) 2 2] 34)) (some ⟨w1.heap.size, 0, none⟩) 2 ha1
  refine (HW1.out _ _ _ hci (vrow_new18 _ _ 3 _ hci.wide _ rfl _ (by simp))).mono ?_
  rintro r w2 ⟨rfl, hb2⟩
  have HB2 := Lib.hid (HB1.out.trans ((bel_alloc (bel_alloc (Below.refl _ w1) (.cells #[.int .i64 0, .int .i64 1] 3)) _ |>.trans (hb2.mono (by first | (simp; done) | (simp; omega)))).mono HB1.out.size))
  clear hb2 ha1 hA1 hci HB1
  go_wp2_with fail
  have x0 : (w2.alloc (.cells #[.int .u32 3, .int .i64 1] 27)).cell? ⟨w2.heap.size, 0, none⟩ = some (.int .u32 3) := new_cell rfl rfl
  have x1 : (w2.alloc (.cells #[.int .u32 3, .int .i64 1] 27)).cell? ⟨w2.heap.size, 1, none⟩ = some (.int .i64 1) := new_cell rfl rfl
  have HB3 := Lib.hid (bel_alloc HB2.out (.cells #[.int .u32 3, .int .i64 1] 27))
  have hsz : (w2.alloc (.cells #[.int .u32 3, .int .i64 1] 27)).heap.size = w2.heap.size + 1 := by simp
  generalize w2.heap.size = X at x0 x1 hsz ⊢
  generalize w2.alloc (.cells #[.int .u32 3, .int .i64 1] 27) = w3 at x0 x1 hsz HB3 ⊢
  have hX : X < w3.heap.size := by omega
  clear HB2
  refine (HOF.out _ _ (row_new18 _ _ [0, 1, 2] _ rfl _ hsz.symm)).mono ?_
  clear hsz
  rintro r w4 ⟨rfl, hb4⟩
  have HK4 := Lib.hid ((bel_alloc (Below.refl _ w3) (.cells #[.int .i64 0, .int .i64 1, .int .i64 2] 3)).trans (hb4.mono (by simp)))
  clear hb4
  go_wp2_with fail
  have ha1 := act_new18 w4 3 [0] #[.int .i64 0] rfl _ rfl 1 1 rfl (by decide) (by decide)
  have hci := ch_one18 (v := .bool true) (c := ⟨3, 2, [0]⟩) (bel_alloc (Below.refl _ _) (.cells #[.int .i64 3, .int .i64 2, .slice (some ⟨w4.heap.size, 0, none⟩) 1 1] 34)) (some ⟨w4.heap.size, 0, none⟩) 1 ha1
  refine (HW2.out _ _ _ hci (vrow_new18 _ _ 3 _ hci.wide _ rfl _ (by simp))).mono ?_
  rintro r w5 ⟨rfl, hb5⟩
  have HK5 := Lib.hid (HK4.out.trans ((bel_alloc (bel_alloc (Below.refl _ w4) (.cells #[.int .i64 0] 3)) _ |>.trans (hb5.mono (by first | (simp; done) | (simp; omega)))).mono HK4.out.size))
  clear hb5 ha1 hci HK4
  have HK6 := Lib.hid (bel_alloc HK5.out (.cells #[.int .u32 7, .int .i64 0] 27))
  have y0 := (HK6.out.cell (p := ⟨X, 0, none⟩) hX).trans x0
  have y1 := (HK6.out.cell (p := ⟨X, 1, none⟩) hX).trans x1
  have hX6 := block_lt_of_cell y0
  simp only at hX6
  go_wp2_with fail
  refine (HLEN.out _).mono ?_
  rintro r w7 ⟨rfl, hb7⟩
  have HK7 := Lib.hid (HK6.out.trans (hb7.mono HK6.out.size))
  clear hb7 y0 y1 hX6 HK6 HK5
  have y0 := (HK7.out.cell (p := ⟨X, 0, none⟩) hX).trans x0
  have y1 := (HK7.out.cell (p := ⟨X, 1, none⟩) hX).trans x1
  have hX6 := block_lt_of_cell y0
  simp only at hX6
  go_wp2_with fail
  refine (HH1.out _).mono ?_
  rintro r w8 ⟨rfl, hb7⟩
  have HK8 := Lib.hid (HK7.out.trans (hb7.mono HK7.out.size))
  clear hb7 y0 y1 hX6 HK7
  have y0 := (HK8.out.cell (p := ⟨X, 0, none⟩) hX).trans x0
  have y1 := (HK8.out.cell (p := ⟨X, 1, none⟩) hX).trans x1
  have hX6 := block_lt_of_cell y0
  simp only at hX6
  go_wp2_with fail
  refine (HH2.out _).mono ?_
  rintro r w9 ⟨rfl, hb7⟩
  have HK9 := Lib.hid (HK8.out.trans (hb7.mono HK8.out.size))
  clear hb7 y0 y1 hX6 HK8
  have y0 := (HK9.out.cell (p := ⟨X, 0, none⟩) hX).trans x0
  have y1 := (HK9.out.cell (p := ⟨X, 1, none⟩) hX).trans x1
  have hX6 := block_lt_of_cell y0
  simp only at hX6
  go_wp2_with fail
  refine (HEP.out _).mono ?_
  rintro r w10 ⟨rfl, hb7⟩
  have HK10 := Lib.hid (HB3.out.trans ((HK9.out.trans (hb7.mono HK9.out.size)).mono HB3.out.size))
  clear hb7 y0 y1 hX6 HK9
  go_wp2
  go_ret
  exact ⟨rfl, HK10.out⟩
end Go.Proofs.YtcbadcbnknmdnaaDoor
