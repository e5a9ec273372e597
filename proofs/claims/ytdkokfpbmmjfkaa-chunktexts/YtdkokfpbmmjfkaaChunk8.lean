/-
  Layer 11: the document's reading of a piece.
-/
import Derived.Test.YtdkokfpbmmjfkaaChunk7
import Derived.Test.YtdkokfpbmmjfkaaRefParse
import Derived.Deep.RegionLaw
namespace Go.Proofs.Ytdkokfpbmmjfkaa
open Go.RowKit
set_option linter.unusedVariables false

theorem stxS_stOk {st : St} (h : StOk st) : StOk (stxS 100 st).1 := by
  show StOk (rawS (countS st 100).1 ((countS st 100).2 : Int)).1
  have h2 := countS_stOk (most := 100) h
  unfold rawS
  split
  · exact failS_stOk h2
  · refine ⟨fun he => ?_, ?_⟩
    · have := h2.1 he
      simp [this]
    · have := h2.2
      simp only [List.length_drop]; omega
def set7 (w : World) (X : Nat) (y0 y1 x0 x1 x2 x3 x4 : Value) : World := (((((((w.setCell ⟨X + 1, 0, none⟩ y0).setCell ⟨X + 1, 1, none⟩ y1).setCell ⟨X + 1 + 1, 0, none⟩ x0).setCell ⟨X + 1 + 1, 1, none⟩ x1).setCell ⟨X + 1 + 1, 2, none⟩ x2).setCell ⟨X + 1 + 1, 3, none⟩ x3).setCell ⟨X + 1 + 1, 4, none⟩ x4)
theorem set7_below {w wr : World} (h : Below w.heap.size w wr) (y0 y1 x0 x1 x2 x3 x4 : Value) : Below w.heap.size w (set7 wr w.heap.size y0 y1 x0 x1 x2 x3 x4) := by
  have a1 : w.heap.size ≤ w.heap.size + 1 := by omega
  have a2 : w.heap.size ≤ w.heap.size + 1 + 1 := by omega
  exact ((((((h.setCell (p := ⟨w.heap.size + 1, 0, none⟩) a1 _).setCell (p := ⟨w.heap.size + 1, 1, none⟩) a1 _).setCell (p := ⟨w.heap.size + 1 + 1, 0, none⟩) a2 _).setCell (p := ⟨w.heap.size + 1 + 1, 1, none⟩) a2 _).setCell (p := ⟨w.heap.size + 1 + 1, 2, none⟩) a2 _).setCell (p := ⟨w.heap.size + 1 + 1, 3, none⟩) a2 _).setCell (p := ⟨w.heap.size + 1 + 1, 4, none⟩) a2 _
set_option maxRecDepth 100000 in
set_option maxHeartbeats 2000000 in
theorem refPcRead_any (st : St) (w : World) (h : StOk st) : Calls Try.prog 46 #[.agg #[.string (bs st.1), .int .i64 (st.2 : Nat)]] w fun r w' => r = .returned (.tuple #[.agg #[.string (bs (pieceS st).1.1), .int .i64 ((pieceS st).1.2 : Nat)], pcV (pcOr (pieceS st))]) ∧ Below w.heap.size w w' := by
  have hS := pcG_eq (cntS 1099511627776) (cntS 65536) numS (cntS 65536) (stxS 100) st
  rw [← show pieceS st = pcG (cntS 1099511627776) (cntS 65536) numS (cntS 65536) (stxS 100) st from rfl] at hS
  have hC1 := fun W => refTakeCount_any st.1 st.2 1099511627776 W (by decide) (by decide) h.2 h.1
  rw [show countS (st.1, st.2) 1099511627776 = cntS 1099511627776 st from rfl] at hC1
  have k1 := (cntR 1099511627776 (by decide)).ok st h
  generalize pieceS st = res at hS ⊢
  obtain ⟨l0, e0⟩ := st
  simp only at hC1 ⊢
  generalize cntS 1099511627776 (l0, e0) = t1 at hC1 hS k1
  obtain ⟨s1, n1⟩ := t1
  simp only [inV_eq] at hC1
  simp only at hS k1
  have hC2 := fun W => refTakeCount_any s1.1 s1.2 65536 W (by decide) (by decide) k1.2 k1.1
  rw [show countS (s1.1, s1.2) 65536 = cntS 65536 s1 from rfl] at hC2
  have k2 := (cntR 65536 (by decide)).ok s1 k1
  generalize cntS 65536 s1 = t2 at hC2 hS k2
  obtain ⟨s2, n2⟩ := t2
  simp only [inV_eq] at hC2
  simp only at hS k2
  have hC3 := fun W => refTakeNum_any s2.1 s2.2 W k2.2 k2.1
  rw [show (s2.1, s2.2) = s2 from rfl] at hC3
  have k3 := numS_stOk k2
  generalize numS s2 = t3 at hC3 hS k3
  obtain ⟨s3, n3⟩ := t3
  simp only [inV_eq] at hC3
  simp only at hS k3
  have hC4 := fun W => refTakeCount_any s3.1 s3.2 65536 W (by decide) (by decide) k3.2 k3.1
  rw [show countS (s3.1, s3.2) 65536 = cntS 65536 s3 from rfl] at hC4
  have k4 := (cntR 65536 (by decide)).ok s3 k3
  generalize cntS 65536 s3 = t4 at hC4 hS k4
  obtain ⟨s4, n4⟩ := t4
  simp only [inV_eq] at hC4
  simp only at hS k4
  have hC5 := fun W => refTakeStr_any s4.1 s4.2 100 W (by decide) (by decide) k4.2 k4.1
  rw [show strS (s4.1, s4.2) 100 = stxS 100 s4 from rfl] at hC5
  have k5 := stxS_stOk k4
  have hl5 : (stxS 100 s4).2.length ≤ 1000000 := stxS_len s4
  generalize stxS 100 s4 = t5 at hC5 hS hl5 k5
  obtain ⟨s5, tx⟩ := t5
  simp only [inV_eq] at hC5
  simp only at hS hl5 k5
  have HC1 := Lib.hid hC1
  have HC2 := Lib.hid hC2
  have HC3 := Lib.hid hC3
  have HC4 := Lib.hid hC4
  have HC5 := Lib.hid hC5
  have HS := Lib.hid hS
  have HB0 := Lib.hid (Bx.new w #[.string (bs l0), .int .i64 (e0 : Nat)] #[.string ⟨#[]⟩, .int .i64 0] #[.int .i64 0, .int .i64 0, .int .u64 0, .int .i64 0, .string ⟨#[]⟩] 46 46 71)
  clear hC1 hC2 hC3 hC4 hC5 hS h k1 k2 k3 k4
  go_enter Try.func46, Try.ntmps46
  go_wp2_with fail
  refine (HC1.out _).mono ?_
  rintro r w1 ⟨rfl, hb1⟩
  have HB1 := Lib.hid (HB0.out.keep hb1)
  have HX1 := Lib.hid (HB1.out.set1 (.string (bs s1.1)) (.int .i64 (s1.2 : Nat)))
  have a0 := (HB1.out.c1 0).trans rfl
  have a1 := (HB1.out.c1 1).trans rfl
  have g0 := HB1.out.f1 0
  have g1 := HB1.out.f1 1
  have hz := HB1.out.sz
  have hzw : w.heap.size < w1.heap.size := by omega
  clear hb1 HB0 HB1 HC1
  go_wp2_with fail
  clear a0 a1 g0 g1 hz hzw
  refine (HC2.out _).mono ?_
  rintro r w2 ⟨rfl, hb2⟩
  have HB2 := Lib.hid (HX1.out.keep hb2)
  have HX2 := Lib.hid (HB2.out.set1 (.string (bs s2.1)) (.int .i64 (s2.2 : Nat)))
  have a0 := (HB2.out.c1 0).trans rfl
  have a1 := (HB2.out.c1 1).trans rfl
  have g0 := HB2.out.f1 0
  have g1 := HB2.out.f1 1
  have hz := HB2.out.sz
  have hzw : w.heap.size < w2.heap.size := by omega
  clear hb2 HX1 HB2 HC2
  go_wp2_with fail
  clear a0 a1 g0 g1 hz hzw
  refine (HC3.out _).mono ?_
  rintro r w3 ⟨rfl, hb3⟩
  have HB3 := Lib.hid (HX2.out.keep hb3)
  have HX3 := Lib.hid (HB3.out.set1 (.string (bs s3.1)) (.int .i64 (s3.2 : Nat)))
  have a0 := (HB3.out.c1 0).trans rfl
  have a1 := (HB3.out.c1 1).trans rfl
  have g0 := HB3.out.f1 0
  have g1 := HB3.out.f1 1
  have hz := HB3.out.sz
  have hzw : w.heap.size < w3.heap.size := by omega
  clear hb3 HX2 HB3 HC3
  go_wp2_with fail
  clear a0 a1 g0 g1 hz hzw
  refine (HC4.out _).mono ?_
  rintro r w4 ⟨rfl, hb4⟩
  have HB4 := Lib.hid (HX3.out.keep hb4)
  have HX4 := Lib.hid (HB4.out.set1 (.string (bs s4.1)) (.int .i64 (s4.2 : Nat)))
  have a0 := (HB4.out.c1 0).trans rfl
  have a1 := (HB4.out.c1 1).trans rfl
  have g0 := HB4.out.f1 0
  have g1 := HB4.out.f1 1
  have hz := HB4.out.sz
  have hzw : w.heap.size < w4.heap.size := by omega
  clear hb4 HX3 HB4 HC4
  go_wp2_with fail
  clear a0 a1 g0 g1 hz hzw
  refine (HC5.out _).mono ?_
  rintro r w5 ⟨rfl, hb5⟩
  have HB5 := Lib.hid (HX4.out.keep hb5)
  have HX5 := Lib.hid (HB5.out.set1 (.string (bs s5.1)) (.int .i64 (s5.2 : Nat)))
  have a0 := (HB5.out.c1 0).trans rfl
  have a1 := (HB5.out.c1 1).trans rfl
  have g0 := HB5.out.f1 0
  have g1 := HB5.out.f1 1
  have hz := HB5.out.sz
  have hzw : w.heap.size < w5.heap.size := by omega
  clear hb5 HX4 HB5 HC5
  obtain ⟨l5, e5⟩ := s5
  have hP : ((w5.setCell ⟨w.heap.size, 0, none⟩ (.string (bs l5))).setCell ⟨w.heap.size, 1, none⟩ (.int .i64 (e5 : Nat))).heap.size = w5.heap.size := by simp
  have HM6 : Hid (Bx w (((w5.setCell ⟨w.heap.size, 0, none⟩ (.string (bs l5))).setCell ⟨w.heap.size, 1, none⟩ (.int .i64 (e5 : Nat))).alloc (.cells #[.int .i64 (n1 : Int), .int .i64 (n2 : Int), .int .u64 (n3 : Int), .int .i64 (n4 : Int), .string (bs tx)] 71)) #[.string (bs l5), .int .i64 (e5 : Nat)] #[.string ⟨#[]⟩, .int .i64 0] #[.int .i64 0, .int .i64 0, .int .u64 0, .int .i64 0, .string ⟨#[]⟩] ∧ PBox w5.heap.size (.int .i64 (n1 : Int)) (.int .i64 (n2 : Int)) (.int .u64 (n3 : Int)) (.int .i64 (n4 : Int)) (.string (bs tx)) (((w5.setCell ⟨w.heap.size, 0, none⟩ (.string (bs l5))).setCell ⟨w.heap.size, 1, none⟩ (.int .i64 (e5 : Nat))).alloc (.cells #[.int .i64 (n1 : Int), .int .i64 (n2 : Int), .int .u64 (n3 : Int), .int .i64 (n4 : Int), .string (bs tx)] 71))) := Lib.hid ⟨HX5.out.keep (bel_alloc (Below.refl _ _) _), PBox.new _ _ hP _ _ _ _ _ _⟩
  go_upto_region 7 with (fail)
  clear a0 a1 g0 g1 hzw HX5 hP
  generalize (((w5.setCell ⟨w.heap.size, 0, none⟩ (.string (bs l5))).setCell ⟨w.heap.size, 1, none⟩ (.int .i64 (e5 : Nat))).alloc (.cells #[.int .i64 (n1 : Int), .int .i64 (n2 : Int), .int .u64 (n3 : Int), .int .i64 (n4 : Int), .string (bs tx)] 71)) = W6 at HM6 ⊢
  generalize hPw : w5.heap.size = P at HM6 hz ⊢
  have HCK := Lib.hid (fun W => refPcCheck_any ⟨(n1 : Int), (n2 : Int), n3, (n4 : Int), tx⟩ W hl5)
  generalize checkP ⟨(n1 : Int), (n2 : Int), n3, (n4 : Int), tx⟩ = ce at HCK HS
  unfold pcV at HCK
  simp only at HCK
  have i0 := (HM6.out.1.c1 0).trans rfl
  have i1 := (HM6.out.1.c1 1).trans rfl
  have hsz := HM6.out.1.sz
  have hsz0 : w.heap.size < W6.heap.size := by omega
  by_cases he5 : e5 = 0
  · subst he5
    have v0 := HM6.out.2.c0
    have v1 := HM6.out.2.c1
    have v2 := HM6.out.2.c2
    have v3 := HM6.out.2.c3
    have v4 := HM6.out.2.c4
    have hPl := HM6.out.2.lt
    have hF := fun W => refFail_any l5 0 ce W
    generalize failS (l5, 0) ce = s6 at hF HS
    obtain ⟨l6, e6⟩ := s6
    simp only [inV_eq] at hF
    have HF := Lib.hid hF
    clear hF
    have HMd : Hid (Bx w W6.drew #[.string (bs l5), .int .i64 ((0 : Nat) : Int)] #[.string ⟨#[]⟩, .int .i64 0] #[.int .i64 0, .int .i64 0, .int .u64 0, .int .i64 0, .string ⟨#[]⟩] ∧ PBox P (.int .i64 (n1 : Int)) (.int .i64 (n2 : Int)) (.int .u64 (n3 : Int)) (.int .i64 (n4 : Int)) (.string (bs tx)) W6.drew) := Lib.hid ⟨HM6.out.1.keep (w' := W6.drew) (Below.refl _ _).drew, HM6.out.2.touch (touch_of_below (S := fun _ => False) (w' := W6.drew) (Below.refl _ _).drew) id⟩
    clear HM6
    go_upto_region 8 with (fail)
    go_region_law (first
      | (go_simp; go_at_call 41; refine (HCK.out _).mono ?_; rintro e wK ⟨rfl, hbK⟩; have HMk := Lib.hid (show _ ∧ _ from ⟨HMd.out.1.keep hbK, HMd.out.2.touch (touch_of_below (S := fun _ => False) hbK) id⟩); have j0 := (HMk.out.1.c1 0).trans rfl; have j1 := (HMk.out.1.c1 1).trans rfl; have hsk := HMk.out.1.sz; have hsk0 : w.heap.size < wK.heap.size := by omega)
      | (go_simp; go_at_call 67; refine (HF.out _).mono ?_; rintro e wF ⟨rfl, hbF⟩; have HMf := Lib.hid (show _ ∧ _ from ⟨HMk.out.1.keep hbF, HMk.out.2.touch (touch_of_below (S := fun _ => False) hbF) id⟩); have m0 := (HMf.out.1.c1 0).trans rfl; have m1 := (HMf.out.1.c1 1).trans rfl; have mf0 := HMf.out.1.f1 0; have mf1 := HMf.out.1.f1 1; have hsf := HMf.out.1.sz; have hsf0 : w.heap.size < wF.heap.size := by omega))
    all_goals
      have HMz : Hid (Bx w ((wF.setCell ⟨w.heap.size, 0, none⟩ (.string (bs l6))).setCell ⟨w.heap.size, 1, none⟩ (.int .i64 (e6 : Nat))) #[.string (bs l6), .int .i64 (e6 : Nat)] #[.string ⟨#[]⟩, .int .i64 0] #[.int .i64 0, .int .i64 0, .int .u64 0, .int .i64 0, .string ⟨#[]⟩] ∧ PBox P (.int .i64 (n1 : Int)) (.int .i64 (n2 : Int)) (.int .u64 (n3 : Int)) (.int .i64 (n4 : Int)) (.string (bs tx)) ((wF.setCell ⟨w.heap.size, 0, none⟩ (.string (bs l6))).setCell ⟨w.heap.size, 1, none⟩ (.int .i64 (e6 : Nat)))) := Lib.hid ⟨HMf.out.1.set1 _ _, HMf.out.2.touch (((Touch.refl (fun k => k = w.heap.size) wF).setCell (p := ⟨w.heap.size, 0, none⟩) (fun _ => rfl) _).setCell (p := ⟨w.heap.size, 1, none⟩) (fun _ => rfl) _) (by show ¬ P = w.heap.size; omega)⟩
      clear m0 m1 mf0 mf1 hsf hsf0 HMf j0 j1 hsk hsk0 HMk HMd v0 v1 v2 v3 v4 hPl i0 i1 hsz hsz0
      go_upto_region 9 with (fail)
      generalize (wF.setCell ⟨w.heap.size, 0, none⟩ (.string (bs l6))).setCell ⟨w.heap.size, 1, none⟩ (.int .i64 (e6 : Nat)) = Wz at HMz ⊢
      by_cases he6 : e6 = 0
      · subst he6
        have HR := Lib.hid (show res.1 = (l6, 0) ∧ pcOr res = ⟨(n1 : Int), (n2 : Int), n3, (n4 : Int), tx⟩ from ⟨by rw [HS.out], by rw [HS.out]; rfl⟩)
        clear HS
        have i0 := (HMz.out.1.c1 0).trans rfl
        have i1 := (HMz.out.1.c1 1).trans rfl
        have p0 := (HMz.out.1.c2 0).trans rfl
        have p1 := (HMz.out.1.c2 1).trans rfl
        have q0 := (HMz.out.1.c3 0).trans rfl
        have q1 := (HMz.out.1.c3 1).trans rfl
        have q2 := (HMz.out.1.c3 2).trans rfl
        have q3 := (HMz.out.1.c3 3).trans rfl
        have q4 := (HMz.out.1.c3 4).trans rfl
        have d0 := HMz.out.1.f2 0
        have d1 := HMz.out.1.f2 1
        have z0 := HMz.out.1.f3 0
        have z1 := HMz.out.1.f3 1
        have z2 := HMz.out.1.f3 2
        have z3 := HMz.out.1.f3 3
        have z4 := HMz.out.1.f3 4
        have hs9 := HMz.out.1.sz
        have hs8 : w.heap.size + 1 < Wz.heap.size := by omega
        have hs7 : w.heap.size < Wz.heap.size := by omega
        have v0 := HMz.out.2.c0
        have v1 := HMz.out.2.c1
        have v2 := HMz.out.2.c2
        have v3 := HMz.out.2.c3
        have v4 := HMz.out.2.c4
        have hPl := HMz.out.2.lt
        have HFN := Lib.hid (set7_below HMz.out.1.bel (.string (bs l6)) (.int .i64 (0 : Nat)) (.int .i64 (n1 : Int)) (.int .i64 (n2 : Int)) (.int .u64 (n3 : Int)) (.int .i64 (n4 : Int)) (.string (bs tx)))
        unfold set7 at HFN
        clear HMz
        go_wp2_with fail
        go_region
        all_goals
          go_wp2
          refine bodyPost_ret (v := .tuple #[.agg #[.string (bs l6), .int .i64 (0 : Nat)], .agg #[.int .i64 (n1 : Int), .int .i64 (n2 : Int), .int .u64 (n3 : Int), .int .i64 (n4 : Int), .string (bs tx)]]) (by simp [results, Try.results46, go_sem, p0, p1, q0, q1, q2, q3, q4]) rfl ⟨?_, ?_⟩
          · rw [HR.out.1, HR.out.2]; rfl
          · exact HFN.out.drew
      · have heb : ((e6 : Int) != 0) = true := by simp; omega
        have HR := Lib.hid (show res.1 = (l6, e6) ∧ pcV (pcOr res) = .agg #[.int .i64 0, .int .i64 0, .int .u64 0, .int .i64 0, .string ⟨#[]⟩] from ⟨by rw [HS.out], by rw [HS.out]; simp only [pcOr]; rw [if_neg he6]; rfl⟩)
        clear HS he6
        have i0 := (HMz.out.1.c1 0).trans rfl
        have i1 := (HMz.out.1.c1 1).trans rfl
        have p0 := (HMz.out.1.c2 0).trans rfl
        have p1 := (HMz.out.1.c2 1).trans rfl
        have q0 := (HMz.out.1.c3 0).trans rfl
        have q1 := (HMz.out.1.c3 1).trans rfl
        have q2 := (HMz.out.1.c3 2).trans rfl
        have q3 := (HMz.out.1.c3 3).trans rfl
        have q4 := (HMz.out.1.c3 4).trans rfl
        have d0 := HMz.out.1.f2 0
        have d1 := HMz.out.1.f2 1
        have z0 := HMz.out.1.f3 0
        have z1 := HMz.out.1.f3 1
        have z2 := HMz.out.1.f3 2
        have z3 := HMz.out.1.f3 3
        have z4 := HMz.out.1.f3 4
        have hs9 := HMz.out.1.sz
        have hs8 : w.heap.size + 1 < Wz.heap.size := by omega
        have hs7 : w.heap.size < Wz.heap.size := by omega
        have HFN := Lib.hid (set7_below HMz.out.1.bel (.string (bs l6)) (.int .i64 (e6 : Nat)) (.int .i64 0) (.int .i64 0) (.int .u64 0) (.int .i64 0) (.string ⟨#[]⟩))
        unfold set7 at HFN
        clear HMz
        go_wp2
        refine bodyPost_ret (v := .tuple #[.agg #[.string (bs l6), .int .i64 (e6 : Nat)], .agg #[.int .i64 0, .int .i64 0, .int .u64 0, .int .i64 0, .string ⟨#[]⟩]]) (by simp [results, Try.results46, go_sem, p0, p1, q0, q1, q2, q3, q4]) rfl ⟨?_, ?_⟩
        · rw [HR.out.1, HR.out.2]
        · exact HFN.out
  · have heb : ((e5 : Int) == 0) = false := by simp; omega
    have heb2 : ((e5 : Int) != 0) = true := by simp; omega
    have HR := Lib.hid (show res.1 = (l5, e5) ∧ pcV (pcOr res) = .agg #[.int .i64 0, .int .i64 0, .int .u64 0, .int .i64 0, .string ⟨#[]⟩] from by
      have hst : failS (l5, e5) ce = (l5, e5) := by unfold failS; rw [if_neg (fun hc => he5 hc.1)]
      rw [hst] at HS
      exact ⟨by rw [HS.out], by rw [HS.out]; simp only [pcOr]; rw [if_neg he5]; rfl⟩)
    clear HS he5 i0 i1 hsz hsz0
    generalize W6 = Wz at HM6 ⊢
    have HMz := Lib.hid HM6.out
    clear HM6
    have i0 := (HMz.out.1.c1 0).trans rfl
    have i1 := (HMz.out.1.c1 1).trans rfl
    have p0 := (HMz.out.1.c2 0).trans rfl
    have p1 := (HMz.out.1.c2 1).trans rfl
    have q0 := (HMz.out.1.c3 0).trans rfl
    have q1 := (HMz.out.1.c3 1).trans rfl
    have q2 := (HMz.out.1.c3 2).trans rfl
    have q3 := (HMz.out.1.c3 3).trans rfl
    have q4 := (HMz.out.1.c3 4).trans rfl
    have d0 := HMz.out.1.f2 0
    have d1 := HMz.out.1.f2 1
    have z0 := HMz.out.1.f3 0
    have z1 := HMz.out.1.f3 1
    have z2 := HMz.out.1.f3 2
    have z3 := HMz.out.1.f3 3
    have z4 := HMz.out.1.f3 4
    have hs9 := HMz.out.1.sz
    have hs8 : w.heap.size + 1 < Wz.heap.size := by omega
    have hs7 : w.heap.size < Wz.heap.size := by omega
    have HFN := Lib.hid (set7_below HMz.out.1.bel (.string (bs l5)) (.int .i64 (e5 : Nat)) (.int .i64 0) (.int .i64 0) (.int .u64 0) (.int .i64 0) (.string ⟨#[]⟩))
    unfold set7 at HFN
    clear HMz
    go_wp2
    refine bodyPost_ret (v := .tuple #[.agg #[.string (bs l5), .int .i64 (e5 : Nat)], .agg #[.int .i64 0, .int .i64 0, .int .u64 0, .int .i64 0, .string ⟨#[]⟩]]) (by simp [results, Try.results46, go_sem, p0, p1, q0, q1, q2, q3, q4]) rfl ⟨?_, ?_⟩
    · rw [HR.out.1, HR.out.2]
    · exact HFN.out
end Go.Proofs.Ytdkokfpbmmjfkaa
