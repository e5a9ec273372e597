/-
  The walk of the law RecordReads.
-/
import Derived.Test.YtcbadcbnknmdnaaRec13
namespace Go.Proofs.Ytcbadcbnknmdnaa
open Go.RowKit
set_option linter.unusedVariables false

theorem recNil_same (w : World) : RecIs w ⟨0, [], 0, 0, []⟩ none [] none [] := nil_recIs w
theorem bs_back (s : ByteArray) (l : List UInt8) (h : s.data.toList = l) : bs l = s := by subst h; simp [bs]
set_option maxRecDepth 100000 in
set_option maxHeartbeats 4000000 in
theorem recordReads_walk (w : World) (a0 : ByteArray) (w0 : a0.size ≤ maxLen) :
    Calls Try.prog 4 #[.string a0] w fun e w' => e = .returned (.bool true) ∧ Below w.heap.size w w' := by
  have HAW := Lib.hid (fun W => awake20_any W)
  go_enter Try.func4, Try.ntmps4
  go_wp2_with fail
  refine (cut_any a0 200 _ w0 (by decide)).mono ?_
  rintro e w' ⟨rfl, rfl⟩
  have hs := cutB_le a0 200
  generalize cutB a0 200 = s at hs ⊢
  have hs9 : s.size ≤ 1000000000 := by omega
  have hok : StOk (s.data.toList, 0) := ⟨fun h => absurd rfl h, by simpa using hs9⟩
  have HSD := Lib.hid (show bs s.data.toList = s by simp [bs])
  have hPA := fun W => recParse_any s W hs9
  have hRR := fun W => refRecRead_any (s.data.toList, 0) W hok
  simp only [HSD.out] at hRR
  have hdom := recQ_dom s.data.toList
  have hspell := recQ_spell s.data.toList
  have hnil := recC.nil s.data.toList
  have hq1 : (endS (recS (s.data.toList, 0)).1).2 = 0 → recQ s.data.toList = recT (recS (s.data.toList, 0)) := fun h => (recP_ok h).trans (recT_ok h).symm
  have hq2 : (endS (recS (s.data.toList, 0)).1).2 ≠ 0 → recQ s.data.toList = ⟨0, [], 0, 0, []⟩ := fun h => recP_no h
  unfold RpPost at hPA
  unfold RdPost at hRR
  generalize recQ s.data.toList = Q at hPA hdom hspell hq1 hq2
  generalize recS (s.data.toList, 0) = T at hPA hRR hspell hnil hq1 hq2
  generalize recT T = g at hRR hq1
  obtain ⟨⟨l, e⟩, T2⟩ := T
  simp only at hPA hRR hspell hnil hq1 hq2
  have HEND := Lib.hid (fun W => refEnd_any l e W hnil)
  generalize (endS (l, e)).2 = E at hPA hspell hq1 hq2 HEND
  unfold recV at hPA hRR
  have HPA := Lib.hid hPA
  have HRR := Lib.hid hRR
  have HDOM := Lib.hid hdom
  have HSP := Lib.hid (fun h => bs_back s _ (hspell h))
  clear hPA hRR hdom hspell hnil hok
  have HQ1 := Lib.hid hq1
  have HQ2 := Lib.hid hq2
  clear hq1 hq2
  go_wp2_with fail
  refine (HPA.out _).mono ?_
  rintro r w1 ⟨a, c, ls, a2, c2, ls2, rfl, hb1, hin⟩
  have HIN := Lib.hid hin.out.now
  have HB1 := Lib.hid hb1
  clear hb1 hin HPA
  have hA := bel_alloc (Below.refl _ w1) (.cells #[.int .i64 Q.t, .slice a ls.length c, .int .i64 Q.tk, .int .i64 Q.dl, .slice a2 ls2.length c2] 34)
  have HX : Hid (Cs (w1.alloc (.cells #[.int .i64 Q.t, .slice a ls.length c, .int .i64 Q.tk, .int .i64 Q.dl, .slice a2 ls2.length c2] 34)) w1.heap.size [.int .i64 Q.t, .slice a ls.length c, .int .i64 Q.tk, .int .i64 Q.dl, .slice a2 ls2.length c2]) := Lib.hid (Cs.new rfl rfl)
  have HIN := Lib.hid (HIN.out.below hA)
  have HB2 := Lib.hid (HB1.out.trans (hA.mono HB1.out.size))
  clear hA HB1
  go_wp2_with fail
  generalize w1.alloc (.cells #[.int .i64 Q.t, .slice a ls.length c, .int .i64 Q.tk, .int .i64 Q.dl, .slice a2 ls2.length c2] 34) = W2 at HX HIN HB2 ⊢
  generalize w1.heap.size = P at HX ⊢
  refine (HRR.out _).mono ?_
  rintro r w3 ⟨b, n, d, ms, b2, n2, d2, ms2, rfl, hb3, hin2⟩
  have HIN2 := Lib.hid hin2.out.2.2.now
  have HL := Lib.hid (And.intro hin2.out.1 hin2.out.2.1)
  have HX3 := Lib.hid (HX.out.below hb3)
  have HIN3 := Lib.hid (HIN.out.below hb3)
  have HB3 := Lib.hid (HB2.out.trans (hb3.mono HB2.out.size))
  clear hb3 hin2 HRR HX HIN HB2
  have e1 : (w3.alloc (.cells #[.string (bs l), .int .i64 (e : Nat)] 57)).heap.size = w3.heap.size + 1 := by simp
  have hA := bel_alloc (bel_alloc (Below.refl _ w3) (.cells #[.string (bs l), .int .i64 (e : Nat)] 57)) (.cells #[.int .i64 g.t, .slice b n d, .int .i64 g.tk, .int .i64 g.dl, .slice b2 n2 d2] 46)
  have HX4 := Lib.hid (HX3.out.below hA)
  have HIN4 := Lib.hid (HIN3.out.below hA)
  have HJN4 := Lib.hid (HIN2.out.below hA)
  have HB4 := Lib.hid (HB3.out.trans (hA.mono HB3.out.size))
  have HY4 : Hid (Cs ((w3.alloc (.cells #[.string (bs l), .int .i64 (e : Nat)] 57)).alloc (.cells #[.int .i64 g.t, .slice b n d, .int .i64 g.tk, .int .i64 g.dl, .slice b2 n2 d2] 46)) (w3.heap.size + 1) [.int .i64 g.t, .slice b n d, .int .i64 g.tk, .int .i64 g.dl, .slice b2 n2 d2]) := Lib.hid (Cs.new e1.symm rfl)
  have HFZ : Hid (∀ j, ((w3.alloc (.cells #[.string (bs l), .int .i64 (e : Nat)] 57)).alloc (.cells #[.int .i64 g.t, .slice b n d, .int .i64 g.tk, .int .i64 g.dl, .slice b2 n2 d2] 46)).frozen? ⟨w3.heap.size + 1, j, none⟩ = false) := Lib.hid (fun j => by rw [← e1]; exact frozen_new _ _ _ _)
  have i0 : ((w3.alloc (.cells #[.string (bs l), .int .i64 (e : Nat)] 57)).alloc (.cells #[.int .i64 g.t, .slice b n d, .int .i64 g.tk, .int .i64 g.dl, .slice b2 n2 d2] 46)).cell? ⟨w3.heap.size, 0, none⟩ = some (.string (bs l)) := alloc_cell (new_cell rfl rfl) _
  have i1 : ((w3.alloc (.cells #[.string (bs l), .int .i64 (e : Nat)] 57)).alloc (.cells #[.int .i64 g.t, .slice b n d, .int .i64 g.tk, .int .i64 g.dl, .slice b2 n2 d2] 46)).cell? ⟨w3.heap.size, 1, none⟩ = some (.int .i64 (e : Nat)) := alloc_cell (new_cell rfl rfl) _
  have HPY := Lib.hid (show ¬ P = w3.heap.size + 1 by
    have h1 := block_lt_of_cell (show w3.cell? ⟨P, 0, none⟩ = some (.int .i64 Q.t) from HX3.out 0 (by simp))
    simp only at h1
    omega)
  have HWY := Lib.hid (show w.heap.size ≤ w3.heap.size + 1 by have := HB3.out.size; omega)
  clear hA e1 HX3 HIN3 HIN2 HB3
  go_upto_region 4 with (fail)
  generalize (w3.alloc (.cells #[.string (bs l), .int .i64 (e : Nat)] 57)).alloc (.cells #[.int .i64 g.t, .slice b n d, .int .i64 g.tk, .int .i64 g.dl, .slice b2 n2 d2] 46) = W4 at HX4 HIN4 HJN4 HB4 HY4 HFZ i0 i1 ⊢
  generalize w3.heap.size + 1 = Y at HY4 HFZ HPY HWY ⊢
  generalize w3.heap.size = I at i0 i1 ⊢
  have hI := block_lt_of_cell i0
  simp only at hI
  go_wp2_with fail
  refine (HEND.out _).mono ?_
  rintro r w5 ⟨rfl, hb5⟩
  have HX5 := Lib.hid (HX4.out.below hb5)
  have HY5 := Lib.hid (HY4.out.below hb5)
  have HIN5 := Lib.hid (HIN4.out.below hb5)
  have HJN5 := Lib.hid (HJN4.out.below hb5)
  have HB5 := Lib.hid (HB4.out.trans (hb5.mono HB4.out.size))
  have hYl : Y < W4.heap.size := block_lt_of_cell (show W4.cell? ⟨Y, 0, none⟩ = some (.int .i64 g.t) from HY4.out 0 (by simp))
  have HF5 := Lib.hid (fun j => (hb5.frozen (p := ⟨Y, j, none⟩) hYl).trans (HFZ.out j))
  clear hYl
  clear hb5 HX4 HY4 HIN4 HJN4 HB4 HFZ HEND i0 i1 hI
  by_cases hE : E = 0
  · subst hE
    obtain rfl := HQ1.out rfl
    have hl1 := HIN5.out.1.2.1
    have hl2 := HIN5.out.2.2.1
    have hm1 : n = Q.ch.length := HL.out.1.trans HJN5.out.1.2.1
    have hm2 : n2 = Q.pl.length := HL.out.2.trans HJN5.out.2.2.1
    rw [hl1, hl2] at HX5
    rw [hm1, hm2] at HY5
    have HSA := Lib.hid (fun W (hW : Below w5.heap.size w5 W) => recSame_any Q a Q.ch.length c ls a2 Q.pl.length c2 ls2 b d ms b2 d2 ms2 W (HIN5.out.below hW) (HJN5.out.below hW) rfl rfl (fun q hq => by have := (HDOM.out.2.2.1.2 q hq).2.2.2.2.1; omega) (fun q hq => by have := (HDOM.out.2.2.2.2.2.2.2.2 q hq).2.2.1; omega) (by have := HDOM.out.2.2.1.1; omega) (by have := HDOM.out.2.2.2.2.2.2.2.1; omega))
    have HTX := Lib.hid (fun W (hW : Below w5.heap.size w5 W) => recText_any Q a Q.ch.length c ls a2 Q.pl.length c2 ls2 W (HIN5.out.below hW) HDOM.out hl1.symm hl2.symm)
    rw [HSP.out rfl] at HTX
    unfold recV at HSA HTX
    rw [hl1, hl2, hm1, hm2]
    clear hl1 hl2 hm1 hm2 HQ1 HQ2 HL
    generalize Q.ch.length = N1 at HX5 HY5 HSA HTX ⊢
    generalize Q.pl.length = N2 at HX5 HY5 HSA HTX ⊢
    go_wp2_with fail
    refine (HAW.out _).mono ?_
    rintro r w6 ⟨rfl, hb6⟩
    have HX6 := Lib.hid (HX5.out.below hb6)
    have HY6 := Lib.hid (HY5.out.below hb6)
    have HW6 := Lib.hid hb6
    clear hb6
    have x0 : w6.cell? ⟨P, 0, none⟩ = some (.int .i64 Q.t) := HX6.out 0 (by simp)
    have x1 : w6.cell? ⟨P, 1, none⟩ = some (.slice a N1 c) := HX6.out 1 (by simp)
    have x2 : w6.cell? ⟨P, 2, none⟩ = some (.int .i64 Q.tk) := HX6.out 2 (by simp)
    have x3 : w6.cell? ⟨P, 3, none⟩ = some (.int .i64 Q.dl) := HX6.out 3 (by simp)
    have x4 : w6.cell? ⟨P, 4, none⟩ = some (.slice a2 N2 c2) := HX6.out 4 (by simp)
    have y0 : w6.cell? ⟨Y, 0, none⟩ = some (.int .i64 Q.t) := HY6.out 0 (by simp)
    have y1 : w6.cell? ⟨Y, 1, none⟩ = some (.slice b N1 d) := HY6.out 1 (by simp)
    have y2 : w6.cell? ⟨Y, 2, none⟩ = some (.int .i64 Q.tk) := HY6.out 2 (by simp)
    have y3 : w6.cell? ⟨Y, 3, none⟩ = some (.int .i64 Q.dl) := HY6.out 3 (by simp)
    have y4 : w6.cell? ⟨Y, 4, none⟩ = some (.slice b2 N2 d2) := HY6.out 4 (by simp)
    have hP := block_lt_of_cell x0
    have hY := block_lt_of_cell y0
    simp only at hP hY
    go_wp2_with fail
    refine (HSA.out _ HW6.out).mono ?_
    rintro r w7 ⟨rfl, hb7⟩
    have HX7 := Lib.hid (HX6.out.below hb7)
    have HW7 := Lib.hid (HW6.out.trans (hb7.mono HW6.out.size))
    clear hb7 x0 x1 x2 x3 x4 y0 y1 y2 y3 y4 hP hY HX6 HY6 HW6 HX5 HY5
    have x0 : w7.cell? ⟨P, 0, none⟩ = some (.int .i64 Q.t) := HX7.out 0 (by simp)
    have x1 : w7.cell? ⟨P, 1, none⟩ = some (.slice a N1 c) := HX7.out 1 (by simp)
    have x2 : w7.cell? ⟨P, 2, none⟩ = some (.int .i64 Q.tk) := HX7.out 2 (by simp)
    have x3 : w7.cell? ⟨P, 3, none⟩ = some (.int .i64 Q.dl) := HX7.out 3 (by simp)
    have x4 : w7.cell? ⟨P, 4, none⟩ = some (.slice a2 N2 c2) := HX7.out 4 (by simp)
    have hP := block_lt_of_cell x0
    simp only at hP
    go_wp2_with fail
    refine (HTX.out _ HW7.out).mono ?_
    rintro r w8 ⟨rfl, hb8⟩
    have HB8 := Lib.hid (HB5.out.trans ((HW7.out.trans (hb8.mono HW7.out.size)).mono HB5.out.size))
    clear hb8
    go_wp2
    go_ret
    exact ⟨rfl, HB8.out⟩
  · have heb : ((E : Int) == 0) = false := by rw [beq_eq_false_iff_ne]; omega
    have heb2 : ((E : Int) != 0) = true := by simp; omega
    have hei : ¬ (E : Int) = 0 := by omega
    obtain rfl := HQ2.out hE
    have hl1 : ls.length = 0 := HIN5.out.1.2.1
    have hl2 : ls2.length = 0 := HIN5.out.2.2.1
    rw [hl1, hl2] at HX5
    rw [hl1, hl2]
    have HZ5 := Lib.hid HIN5.out
    have y0 : w5.cell? ⟨Y, 0, none⟩ = some (.int .i64 g.t) := HY5.out 0 (by simp)
    have y1 : w5.cell? ⟨Y, 1, none⟩ = some (.slice b n d) := HY5.out 1 (by simp)
    have y2 : w5.cell? ⟨Y, 2, none⟩ = some (.int .i64 g.tk) := HY5.out 2 (by simp)
    have y3 : w5.cell? ⟨Y, 3, none⟩ = some (.int .i64 g.dl) := HY5.out 3 (by simp)
    have y4 : w5.cell? ⟨Y, 4, none⟩ = some (.slice b2 n2 d2) := HY5.out 4 (by simp)
    have f0 := HF5.out 0
    have f1 := HF5.out 1
    have f2 := HF5.out 2
    have f3 := HF5.out 3
    have f4 := HF5.out 4
    have hY := block_lt_of_cell y0
    simp only at hY
    have ht := touch5 w5 Y (.int .i64 0) (.slice none 0 0) (.int .i64 0) (.int .i64 0) (.slice none 0 0)
    have HX6 := Lib.hid (HX5.out.touch ht (fun e => HPY.out e))
    have HY6 : Hid (Cs (((((w5.setCell ⟨Y, 0, none⟩ (.int .i64 0)).setCell ⟨Y, 1, none⟩ (.slice none 0 0)).setCell ⟨Y, 2, none⟩ (.int .i64 0)).setCell ⟨Y, 3, none⟩ (.int .i64 0)).setCell ⟨Y, 4, none⟩ (.slice none 0 0)) Y zeroR) := Lib.hid (by
      have h := ((((HY5.out.set (i := 0) (by simp) (.int .i64 0)).set (i := 1) (by simp) (.slice none 0 0)).set (i := 2) (by simp) (.int .i64 0)).set (i := 3) (by simp) (.int .i64 0)).set (i := 4) (by simp) (.slice none 0 0)
      exact h)
    have HB6 := Lib.hid (HB5.out.trans (ht.below (show w.heap.size ≤ w5.heap.size from HB5.out.size) (fun k hk e => by have := HWY.out; omega)))
    clear ht HIN5 HJN5 HX5 HY5 HB5 HF5 HQ1 HQ2 HSP HDOM hl1 hl2
    go_wp2_with fail
    generalize ((((w5.setCell ⟨Y, 0, none⟩ (.int .i64 0)).setCell ⟨Y, 1, none⟩ (.slice none 0 0)).setCell ⟨Y, 2, none⟩ (.int .i64 0)).setCell ⟨Y, 3, none⟩ (.int .i64 0)).setCell ⟨Y, 4, none⟩ (.slice none 0 0) = W6 at HX6 HY6 HB6 ⊢
    clear y0 y1 y2 y3 y4 f0 f1 f2 f3 f4 hY HZ5
    refine (HAW.out _).mono ?_
    rintro r w6 ⟨rfl, hb6⟩
    have HX7 := Lib.hid (HX6.out.below hb6)
    have HY7 := Lib.hid (HY6.out.below hb6)
    have HB7 := Lib.hid (HB6.out.trans (hb6.mono HB6.out.size))
    clear hb6 HX6 HY6 HB6
    have HSA := Lib.hid (fun W => recSame_any ⟨0, [], 0, 0, []⟩ a 0 c [] a2 0 c2 [] none 0 [] none 0 [] W ⟨⟨fun h => by simp at h, ChIs.nil W⟩, fun h => by simp at h, PlIs.nil W⟩ (nil_recIs W) rfl rfl (by simp) (by simp) (by decide) (by decide))
    unfold recV at HSA
    have x0 : w6.cell? ⟨P, 0, none⟩ = some (.int .i64 0) := HX7.out 0 (by simp)
    have x1 : w6.cell? ⟨P, 1, none⟩ = some (.slice a 0 c) := HX7.out 1 (by simp)
    have x2 : w6.cell? ⟨P, 2, none⟩ = some (.int .i64 0) := HX7.out 2 (by simp)
    have x3 : w6.cell? ⟨P, 3, none⟩ = some (.int .i64 0) := HX7.out 3 (by simp)
    have x4 : w6.cell? ⟨P, 4, none⟩ = some (.slice a2 0 c2) := HX7.out 4 (by simp)
    have y0 : w6.cell? ⟨Y, 0, none⟩ = some (.int .i64 0) := HY7.out 0 (by decide)
    have y1 : w6.cell? ⟨Y, 1, none⟩ = some (.slice none 0 0) := HY7.out 1 (by decide)
    have y2 : w6.cell? ⟨Y, 2, none⟩ = some (.int .i64 0) := HY7.out 2 (by decide)
    have y3 : w6.cell? ⟨Y, 3, none⟩ = some (.int .i64 0) := HY7.out 3 (by decide)
    have y4 : w6.cell? ⟨Y, 4, none⟩ = some (.slice none 0 0) := HY7.out 4 (by decide)
    have hP := block_lt_of_cell x0
    have hY := block_lt_of_cell y0
    simp only at hP hY
    go_wp2_with fail
    refine (HSA.out _).mono ?_
    rintro r w7 ⟨rfl, hb7⟩
    have HB8 := Lib.hid (HB7.out.trans (hb7.mono HB7.out.size))
    clear hb7
    go_wp2
    go_ret
    exact ⟨rfl, HB8.out⟩
end Go.Proofs.Ytcbadcbnknmdnaa
