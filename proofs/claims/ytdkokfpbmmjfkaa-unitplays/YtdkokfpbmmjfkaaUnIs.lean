/-
  Layer 8: the law's comparison of a table with the document's.
-/
import Derived.Test.YtdkokfpbmmjfkaaRefUText
import Derived.Test.YtdkokfpbmmjfkaaAwake8
namespace Go.Proofs.Ytdkokfpbmmjfkaa
open Go.RowKit
set_option linter.unusedVariables false

theorem find_at {us : List Un} (h : Rising us) (k : Nat) (hk : k < us.length) : FindIs us us[k].id k := by
  refine ⟨by omega, fun j hj => ⟨fun hlt => ?_, fun hlt => h j k hj hk hlt⟩⟩
  rcases Nat.lt_trichotomy j k with e | e | e
  · exact e
  · subst e; omega
  · have := h k j hk hj e; omega
set_option maxRecDepth 100000 in
set_option maxHeartbeats 4000000 in
theorem is_any (K0 : Nat → Prop) (b : Nat) (us : List Un) (g : Int) (a : Option Addr) (c : Nat) (w : World) (h : DoMem K0 b us g a c w) :
    Calls Try.prog 15 #[.pointer (some ⟨b, 0, none⟩), .agg #[.slice a us.length c, .int .i64 (g + 1)]] w fun r w' => r = .returned (.int .i64 0) ∧ Below w.heap.size w w' := by
  have hok := h.tab.ok
  have HOK := Lib.hid hok
  have h64 := hok.1
  have hg0 := hok.2.2.2.1
  have hg1 := hok.2.2.2.2
  have HLE := Lib.hid (fun W (hh : DoMem K0 b us g a c W) => tabLen_any b us g W hh.tab)
  have HNX := Lib.hid (fun W (hh : DoMem K0 b us g a c W) => tabNext_any b us g W hh.tab)
  have HTX := Lib.hid (fun W (hh : DoMem K0 b us g a c W) => tabText_any b us g W hh.tab)
  have HRX := Lib.hid (fun W (hh : DoMem K0 b us g a c W) => refTabText_any a c us g W hok hh.rt)
  have HNT := Lib.hid (fun k W (hh : DoMem K0 b us g a c W) => tabNth_any b us g k W hh.tab)
  have HAL := Lib.hid (fun W (hh : DoMem K0 b us g a c W) => tabAll_any b us g W hh.tab)
  have HM0 := Lib.hid h
  have n1 : nthN us (-1) = 0 := by simp [nthN]
  have n2 : nthN us (us.length : Int) = 0 := by simp [nthN]
  have HN1 := Lib.hid (HNT.out (-1))
  have HN2 := Lib.hid (HNT.out (us.length : Int))
  rw [n1] at HN1
  rw [n2] at HN2
  clear h hok n1 n2
  generalize bs (tabB us g) = T at HTX HRX
  generalize hul : us.length = n at HLE HRX HAL HN2 h64 ⊢
  have HN := Lib.hid hul
  clear hul
  have HM1 := Lib.hid (HM0.out.keep (bel_alloc (Below.refl _ w) (.cells #[.slice a n c, .int .i64 (g + 1)] 28)))
  have HB1 := Lib.hid (bel_alloc (Below.refl _ w) (.cells #[.slice a n c, .int .i64 (g + 1)] 28))
  have x0 : (w.alloc (.cells #[.slice a n c, .int .i64 (g + 1)] 28)).cell? ⟨w.heap.size, 0, none⟩ = some (.slice a n c) := by simp
  have x1 : (w.alloc (.cells #[.slice a n c, .int .i64 (g + 1)] 28)).cell? ⟨w.heap.size, 1, none⟩ = some (.int .i64 (g + 1)) := by simp
  go_enter Try.func15, Try.ntmps15
  go_wp2_with fail
  refine (HAL.out _ HM1.out).mono ?_
  rintro r w1 ⟨a', c', rfl, hr1, hb1⟩
  have HR1 := Lib.hid hr1
  obtain ⟨y0, y1⟩ := keep2c hb1 ⟨x0, x1⟩
  have HMc := Lib.hid ((HM1.out.keep hb1).keep (w' := w1.drew) (Below.refl _ w1).drew)
  have HBc := Lib.hid (HB1.out.trans (hb1.mono HB1.out.size)).drew
  have HRc := Lib.hid (show UnRow w1.drew a' us from hr1)
  have hXl := block_lt_of_cell y0
  simp only at hXl
  clear hr1 hb1 x0 x1 HM1 HB1 HAL HR1
  generalize w.heap.size = X at y0 y1 hXl ⊢
  go_upto_region 2 with (fail)
  go_region_held3 (fun w' => w'.cell? ⟨X, 0, none⟩ = some (.slice a n c) ∧ w'.cell? ⟨X, 1, none⟩ = some (.int .i64 (g + 1)))
    (first | (refine keep2c hbK ?_; assumption) | assumption | exact ⟨y0, y1⟩)
    (first
      | (go_at_call 52; refine (HLE.out _ HMc.out).mono ?_; rintro e wK ⟨rfl, rfl⟩)
      | (go_at_call 53; refine (HNX.out _ HMc.out).mono ?_; rintro e wK ⟨rfl, rfl⟩)
      | (go_at_call 61; (first | with_reducible refine (HN1.out _ HMc.out).mono ?_ | with_reducible refine (HN2.out _ HMc.out).mono ?_ | refine (HN2.out _ HMc.out).mono ?_); rintro e wK ⟨rfl, rfl⟩)
      | (go_at_call 23; refine (HTX.out _ HMc.out).mono ?_; rintro e wK ⟨rfl, hbK⟩; have HRc := Lib.hid (UnRow.below HRc.out hbK); have HMc := Lib.hid (HMc.out.keep hbK); have HBc := Lib.hid (HBc.out.trans (hbK.mono HBc.out.size)))
      | (go_at_call 60; refine (HRX.out _ HMc.out).mono ?_; rintro e wK ⟨rfl, hbK⟩; have HRc := Lib.hid (UnRow.below HRc.out hbK); have HMc := Lib.hid (HMc.out.keep hbK); have HBc := Lib.hid (HBc.out.trans (hbK.mono HBc.out.size))))
  all_goals
    have z0 : wK.cell? ⟨X, 0, none⟩ = some (.slice a n c) := (show wK.cell? ⟨X, 0, none⟩ = some (.slice a n c) ∧ wK.cell? ⟨X, 1, none⟩ = some (.int .i64 (g + 1)) by assumption).1
    have hzl := block_lt_of_cell z0
    simp only at hzl
    have HMz := Lib.hid HMc.out
    have HBz := Lib.hid HBc.out
    have HRz := Lib.hid HRc.out
    clear HLE HNX HTX HRX HN1 HN2 y0 y1 hXl HM0
    go_wp2
    go_loopw [55] (fun iv wr => ∃ k : Nat, k ≤ n ∧ iv = .int .i64 k ∧ Hid (DoMem K0 b us g a c wr) ∧ Hid (Below w.heap.size w wr) ∧ Hid (UnRow wr a' us)) (fun iv _ => n - (intOf iv).toNat)
    case atStart => exact ⟨0, by omega, rfl, HMz, HBz, HRz⟩
    case round =>
      obtain ⟨k, hk, rfl, HM, HB, HR⟩ := hrel
      by_cases hlt : k < n
      · have hlu : k < us.length := by rw [HN.out]; exact hlt
        obtain ⟨gb, off, rfl, hgb, c0, c1, c2, c3, c4, c5⟩ := HM.out.rt.row.at hlu
        obtain ⟨gb', off', rfl, hgb', d0, d1, d2, d3, d4, d5⟩ := HR.out.at hlu
        have hun := fun W (hh : DoMem K0 b us g (some ⟨gb, off, none⟩) c W) => tabUnit_some b us g us[k].id k W hh.tab (find_at HOK.out.2.1 k hlu) hlu rfl
        have hnt := fun W (hh : DoMem K0 b us g (some ⟨gb, off, none⟩) c W) => HNT.out (k : Int) W hh
        rw [show nthN us (k : Int) = us[k].id by simp [nthN, hlu]; omega] at hnt
        have hne := run_neq us[k] us[k]
        rw [show unQ us[k] us[k] = true from (unQ_iff _ _).2 rfl] at hne
        generalize us[k] = u at c0 c1 c2 c3 c4 c5 d0 d1 d2 d3 d4 d5 hun hnt hne
        obtain ⟨u0, u1, u2, u3, u4, u5⟩ := u
        unfold unV at hun hne
        simp only [Bool.not_true] at c0 c1 c2 c3 c4 c5 d0 d1 d2 d3 d4 d5 hun hnt hne
        have HUN := Lib.hid hun
        have HNH := Lib.hid hnt
        have hk0 : (0 : Int) ≤ (k : Int) := by omega
        have hk1 : (k : Int) < (n : Int) := by omega
        have HM1 := Lib.hid (HM.out.keep (bel_alloc (Below.refl _ wr) (.cells #[.int .i64 u0, .int .i64 u1, .int .i64 u2, .int .i64 u3, .int .i64 u4, .int .i64 u5] 113)))
        have HB1 := Lib.hid (bel_alloc HB.out (.cells #[.int .i64 u0, .int .i64 u1, .int .i64 u2, .int .i64 u3, .int .i64 u4, .int .i64 u5] 113))
        have HR1 := Lib.hid (HR.out.below (bel_alloc (Below.refl _ wr) (.cells #[.int .i64 u0, .int .i64 u1, .int .i64 u2, .int .i64 u3, .int .i64 u4, .int .i64 u5] 113)))
        clear hun hnt HM HB HR HNT
        go_wp2_with fail
        refine (HUN.out _ HM1.out).mono ?_
        rintro r w2 ⟨rfl, hb2⟩
        have p0 : w2.cell? ⟨wr.heap.size, 0, none⟩ = some (.int .i64 u0) := (hb2.cell (p := ⟨wr.heap.size, 0, none⟩) (by simp)).trans (by simp)
        have p1 : w2.cell? ⟨wr.heap.size, 1, none⟩ = some (.int .i64 u1) := (hb2.cell (p := ⟨wr.heap.size, 1, none⟩) (by simp)).trans (by simp)
        have p2 : w2.cell? ⟨wr.heap.size, 2, none⟩ = some (.int .i64 u2) := (hb2.cell (p := ⟨wr.heap.size, 2, none⟩) (by simp)).trans (by simp)
        have p3 : w2.cell? ⟨wr.heap.size, 3, none⟩ = some (.int .i64 u3) := (hb2.cell (p := ⟨wr.heap.size, 3, none⟩) (by simp)).trans (by simp)
        have p4 : w2.cell? ⟨wr.heap.size, 4, none⟩ = some (.int .i64 u4) := (hb2.cell (p := ⟨wr.heap.size, 4, none⟩) (by simp)).trans (by simp)
        have p5 : w2.cell? ⟨wr.heap.size, 5, none⟩ = some (.int .i64 u5) := (hb2.cell (p := ⟨wr.heap.size, 5, none⟩) (by simp)).trans (by simp)
        have e0 := hb2.cell (p := ⟨gb', off' + k * 6, none⟩) (by simp; omega) |>.trans (alloc_cell d0 (.cells #[.int .i64 u0, .int .i64 u1, .int .i64 u2, .int .i64 u3, .int .i64 u4, .int .i64 u5] 113))
        have e1 := hb2.cell (p := ⟨gb', off' + k * 6 + 1, none⟩) (by simp; omega) |>.trans (alloc_cell d1 (.cells #[.int .i64 u0, .int .i64 u1, .int .i64 u2, .int .i64 u3, .int .i64 u4, .int .i64 u5] 113))
        have e2 := hb2.cell (p := ⟨gb', off' + k * 6 + 2, none⟩) (by simp; omega) |>.trans (alloc_cell d2 (.cells #[.int .i64 u0, .int .i64 u1, .int .i64 u2, .int .i64 u3, .int .i64 u4, .int .i64 u5] 113))
        have e3 := hb2.cell (p := ⟨gb', off' + k * 6 + 3, none⟩) (by simp; omega) |>.trans (alloc_cell d3 (.cells #[.int .i64 u0, .int .i64 u1, .int .i64 u2, .int .i64 u3, .int .i64 u4, .int .i64 u5] 113))
        have e4 := hb2.cell (p := ⟨gb', off' + k * 6 + 4, none⟩) (by simp; omega) |>.trans (alloc_cell d4 (.cells #[.int .i64 u0, .int .i64 u1, .int .i64 u2, .int .i64 u3, .int .i64 u4, .int .i64 u5] 113))
        have e5 := hb2.cell (p := ⟨gb', off' + k * 6 + 5, none⟩) (by simp; omega) |>.trans (alloc_cell d5 (.cells #[.int .i64 u0, .int .i64 u1, .int .i64 u2, .int .i64 u3, .int .i64 u4, .int .i64 u5] 113))
        have HM2 := Lib.hid ((HM1.out.keep hb2).keep (bel_alloc (Below.refl _ w2) (.cells #[.int .i64 u0, .int .i64 u1, .int .i64 u2, .int .i64 u3, .int .i64 u4, .int .i64 u5] 35)))
        have HB2 := Lib.hid (bel_alloc (HB1.out.trans (hb2.mono HB1.out.size)) (.cells #[.int .i64 u0, .int .i64 u1, .int .i64 u2, .int .i64 u3, .int .i64 u4, .int .i64 u5] 35))
        have HR2 := Lib.hid ((HR1.out.below hb2).below (bel_alloc (Below.refl _ w2) (.cells #[.int .i64 u0, .int .i64 u1, .int .i64 u2, .int .i64 u3, .int .i64 u4, .int .i64 u5] 35)))
        have hYl := block_lt_of_cell p0
        have hgl := block_lt_of_cell e0
        simp only at hYl hgl
        generalize wr.heap.size = Y at p0 p1 p2 p3 p4 p5 hYl ⊢
        clear hb2 HUN HM1 HB1 HR1 c0 c1 c2 c3 c4 c5 d0 d1 d2 d3 d4 d5
        go_upto_region 8 with (fail)
        have HM3 := Lib.hid (HM2.out.keep (w' := (w2.alloc (.cells #[.int .i64 u0, .int .i64 u1, .int .i64 u2, .int .i64 u3, .int .i64 u4, .int .i64 u5] 35)).drew) (Below.refl _ (w2.alloc (.cells #[.int .i64 u0, .int .i64 u1, .int .i64 u2, .int .i64 u3, .int .i64 u4, .int .i64 u5] 35))).drew)
        have HB3 := Lib.hid HB2.out.drew
        have HR3 := Lib.hid (show UnRow (w2.alloc (.cells #[.int .i64 u0, .int .i64 u1, .int .i64 u2, .int .i64 u3, .int .i64 u4, .int .i64 u5] 35)).drew (some ⟨gb', off', none⟩) us from HR2.out)
        have S1 : (w2.alloc (.cells #[.int .i64 u0, .int .i64 u1, .int .i64 u2, .int .i64 u3, .int .i64 u4, .int .i64 u5] 35)).cell? ⟨Y, 0, none⟩ = some (.int .i64 u0) ∧ (w2.alloc (.cells #[.int .i64 u0, .int .i64 u1, .int .i64 u2, .int .i64 u3, .int .i64 u4, .int .i64 u5] 35)).cell? ⟨Y, 1, none⟩ = some (.int .i64 u1) ∧ (w2.alloc (.cells #[.int .i64 u0, .int .i64 u1, .int .i64 u2, .int .i64 u3, .int .i64 u4, .int .i64 u5] 35)).cell? ⟨Y, 2, none⟩ = some (.int .i64 u2) ∧ (w2.alloc (.cells #[.int .i64 u0, .int .i64 u1, .int .i64 u2, .int .i64 u3, .int .i64 u4, .int .i64 u5] 35)).cell? ⟨Y, 3, none⟩ = some (.int .i64 u3) ∧ (w2.alloc (.cells #[.int .i64 u0, .int .i64 u1, .int .i64 u2, .int .i64 u3, .int .i64 u4, .int .i64 u5] 35)).cell? ⟨Y, 4, none⟩ = some (.int .i64 u4) ∧ (w2.alloc (.cells #[.int .i64 u0, .int .i64 u1, .int .i64 u2, .int .i64 u3, .int .i64 u4, .int .i64 u5] 35)).cell? ⟨Y, 5, none⟩ = some (.int .i64 u5) := ⟨alloc_cell p0 _, alloc_cell p1 _, alloc_cell p2 _, alloc_cell p3 _, alloc_cell p4 _, alloc_cell p5 _⟩
        have S2 : (w2.alloc (.cells #[.int .i64 u0, .int .i64 u1, .int .i64 u2, .int .i64 u3, .int .i64 u4, .int .i64 u5] 35)).cell? ⟨gb', off' + k * 6, none⟩ = some (.int .i64 u0) ∧ (w2.alloc (.cells #[.int .i64 u0, .int .i64 u1, .int .i64 u2, .int .i64 u3, .int .i64 u4, .int .i64 u5] 35)).cell? ⟨gb', off' + k * 6 + 1, none⟩ = some (.int .i64 u1) ∧ (w2.alloc (.cells #[.int .i64 u0, .int .i64 u1, .int .i64 u2, .int .i64 u3, .int .i64 u4, .int .i64 u5] 35)).cell? ⟨gb', off' + k * 6 + 2, none⟩ = some (.int .i64 u2) ∧ (w2.alloc (.cells #[.int .i64 u0, .int .i64 u1, .int .i64 u2, .int .i64 u3, .int .i64 u4, .int .i64 u5] 35)).cell? ⟨gb', off' + k * 6 + 3, none⟩ = some (.int .i64 u3) ∧ (w2.alloc (.cells #[.int .i64 u0, .int .i64 u1, .int .i64 u2, .int .i64 u3, .int .i64 u4, .int .i64 u5] 35)).cell? ⟨gb', off' + k * 6 + 4, none⟩ = some (.int .i64 u4) ∧ (w2.alloc (.cells #[.int .i64 u0, .int .i64 u1, .int .i64 u2, .int .i64 u3, .int .i64 u4, .int .i64 u5] 35)).cell? ⟨gb', off' + k * 6 + 5, none⟩ = some (.int .i64 u5) := ⟨alloc_cell e0 _, alloc_cell e1 _, alloc_cell e2 _, alloc_cell e3 _, alloc_cell e4 _, alloc_cell e5 _⟩
        have S3 : (w2.alloc (.cells #[.int .i64 u0, .int .i64 u1, .int .i64 u2, .int .i64 u3, .int .i64 u4, .int .i64 u5] 35)).cell? ⟨w2.heap.size, 0, none⟩ = some (.int .i64 u0) ∧ (w2.alloc (.cells #[.int .i64 u0, .int .i64 u1, .int .i64 u2, .int .i64 u3, .int .i64 u4, .int .i64 u5] 35)).cell? ⟨w2.heap.size, 1, none⟩ = some (.int .i64 u1) ∧ (w2.alloc (.cells #[.int .i64 u0, .int .i64 u1, .int .i64 u2, .int .i64 u3, .int .i64 u4, .int .i64 u5] 35)).cell? ⟨w2.heap.size, 2, none⟩ = some (.int .i64 u2) ∧ (w2.alloc (.cells #[.int .i64 u0, .int .i64 u1, .int .i64 u2, .int .i64 u3, .int .i64 u4, .int .i64 u5] 35)).cell? ⟨w2.heap.size, 3, none⟩ = some (.int .i64 u3) ∧ (w2.alloc (.cells #[.int .i64 u0, .int .i64 u1, .int .i64 u2, .int .i64 u3, .int .i64 u4, .int .i64 u5] 35)).cell? ⟨w2.heap.size, 4, none⟩ = some (.int .i64 u4) ∧ (w2.alloc (.cells #[.int .i64 u0, .int .i64 u1, .int .i64 u2, .int .i64 u3, .int .i64 u4, .int .i64 u5] 35)).cell? ⟨w2.heap.size, 5, none⟩ = some (.int .i64 u5) := ⟨by simp, by simp, by simp, by simp, by simp, by simp⟩
        clear p0 p1 p2 p3 p4 p5 e0 e1 e2 e3 e4 e5 HM2 HB2 HR2
        generalize w2.alloc (.cells #[.int .i64 u0, .int .i64 u1, .int .i64 u2, .int .i64 u3, .int .i64 u4, .int .i64 u5] 35) = W3 at S1 S2 S3 HM3 HB3 HR3 ⊢
        generalize w2.heap.size = Z at S3 ⊢
        go_region_held3 (fun w' => (w'.cell? ⟨Y, 0, none⟩ = some (.int .i64 u0) ∧ w'.cell? ⟨Y, 1, none⟩ = some (.int .i64 u1) ∧ w'.cell? ⟨Y, 2, none⟩ = some (.int .i64 u2) ∧ w'.cell? ⟨Y, 3, none⟩ = some (.int .i64 u3) ∧ w'.cell? ⟨Y, 4, none⟩ = some (.int .i64 u4) ∧ w'.cell? ⟨Y, 5, none⟩ = some (.int .i64 u5)) ∧ (w'.cell? ⟨gb', off' + k * 6, none⟩ = some (.int .i64 u0) ∧ w'.cell? ⟨gb', off' + k * 6 + 1, none⟩ = some (.int .i64 u1) ∧ w'.cell? ⟨gb', off' + k * 6 + 2, none⟩ = some (.int .i64 u2) ∧ w'.cell? ⟨gb', off' + k * 6 + 3, none⟩ = some (.int .i64 u3) ∧ w'.cell? ⟨gb', off' + k * 6 + 4, none⟩ = some (.int .i64 u4) ∧ w'.cell? ⟨gb', off' + k * 6 + 5, none⟩ = some (.int .i64 u5)) ∧ (w'.cell? ⟨Z, 0, none⟩ = some (.int .i64 u0) ∧ w'.cell? ⟨Z, 1, none⟩ = some (.int .i64 u1) ∧ w'.cell? ⟨Z, 2, none⟩ = some (.int .i64 u2) ∧ w'.cell? ⟨Z, 3, none⟩ = some (.int .i64 u3) ∧ w'.cell? ⟨Z, 4, none⟩ = some (.int .i64 u4) ∧ w'.cell? ⟨Z, 5, none⟩ = some (.int .i64 u5)))
          (first | assumption | exact ⟨S1, S2, S3⟩)
          (first | (go_at_call 61; refine (HNH.out _ HM3.out).mono ?_; rintro e wK ⟨rfl, rfl⟩))
        all_goals
          go_wp2
          go_roundw
          case rel => exact ⟨k + 1, by omega, by go_num, HM3, HB3, HR3⟩
          case measure => simp [intOf]; omega
      · obtain rfl : k = n := by omega
        go_wp2
        go_ret
        exact ⟨rfl, HB.out⟩
end Go.Proofs.Ytdkokfpbmmjfkaa
