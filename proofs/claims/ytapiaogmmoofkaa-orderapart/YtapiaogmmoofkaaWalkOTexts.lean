/-
  The walk of the law OrderTexts.
-/
import Derived.Test.YtapiaogmmoofkaaOrdTidy
namespace Go.Proofs.Ytapiaogmmoofkaa
open Go.RowKit
set_option linter.unusedVariables false

theorem batchB_len {m : List Ord} (h : BatchDom m) : (batchB m).length ≤ 1000 := by
  have h1 := ordsB_len (l := m) (fun o ho => ordDom_in (h.2 o ho))
  have h2 := countsB_len (ns := [(m.length : Int)]) (by intro x hx; have := h.1; simp at hx; omega)
  have h3 := h.1
  unfold batchB
  rw [List.length_append]
  simp at h2
  omega
/-- At most so many of them. -/
theorem OrdArg.cut {w : World} {a : Option Addr} {len cap : Nat} {l : List Ord} (h : OrdArg w a len cap l) (n : Nat) : ∃ k M, (k = len ∧ ¬ n < len ∨ k = n ∧ n < len ∧ ∃ x, a = some x) ∧ M.length = k ∧ k ≤ n ∧ k ≤ cap ∧ OrdRow w a M ∧ (a = none → M = []) ∧ (∀ o ∈ M, OrdOk o) := by
  obtain ⟨rfl, h2, h3, h4, h5, h6⟩ := h
  by_cases hn : n < l.length
  · refine ⟨n, l.take n, .inr ⟨rfl, hn, ?_⟩, by simp; omega, by omega, by omega, h4.take n, fun e => (by rw [h5 e]; simp), fun o ho => h6 o (List.mem_of_mem_take ho)⟩
    cases a with
    | none => rw [h5 rfl] at hn; simp at hn
    | some x => exact ⟨x, rfl⟩
  · exact ⟨l.length, l, .inl ⟨rfl, hn⟩, rfl, by omega, h2, h4, h5, h6⟩
set_option maxRecDepth 100000 in
set_option maxHeartbeats 4000000 in
theorem orderTexts_walk (w : World) (a : Option Addr) (len cap : Nat) (l : List Ord) (h : OrdArg w a len cap l) (tidy : Bool) :
    Calls Try.prog 9 #[.slice a len cap, .bool tidy] w fun e w' => e = .returned (.bool true) ∧ Below w.heap.size w w' := by
  have hcm := h.2.2.1
  unfold maxLen at hcm
  have hlc := h.2.1
  obtain ⟨k, M0, hk, hlm, hk10, hkc, hrow, hnil, hok⟩ := h.cut 10
  have HROW := Lib.hid hrow
  have HLM0 := Lib.hid hlm
  have HAW := Lib.hid (awake9_any w)
  clear h hrow hlm hnil hok
  cases tidy
  · rcases hk with ⟨rfl, h10⟩ | ⟨rfl, h10, x, rfl⟩
    · obtain ⟨M, rfl⟩ : ∃ M, M = M0 := ⟨_, rfl⟩
      go_enter Try.func9, Try.ntmps9
      go_wp2_with fail
      refine HAW.out.mono ?_
      rintro e w1 ⟨rfl, hb1⟩
      have HB := Lib.hid hb1
      have HRW := Lib.hid (HROW.out.below hb1)
      have HLM := Lib.hid HLM0.out
      clear hb1 HAW HROW HLM0
      have HCK := Lib.hid (batchCheck_any a cap M w1 (by have := HLM.out; omega) HRW.out)
      rw [HLM.out] at HCK
      go_wp2_with fail
      refine HCK.out.mono ?_
      rintro r wa ⟨rfl, hba⟩
      have HBA := Lib.hid (HB.out.trans (hba.mono HB.out.size))
      have HRA := Lib.hid (HRW.out.below hba)
      have HTO := Lib.hid (ordTold_any a cap M wa (by have := HLM.out; omega) HRA.out)
      rw [HLM.out] at HTO
      clear hba HCK HB HRW
      go_wp2_with fail
      refine HTO.out.mono ?_
      rintro r wb ⟨ab, cb, rfl, hnb⟩
      have HBB := Lib.hid (HBA.out.trans (hnb.bel.mono HBA.out.size))
      have HRB := Lib.hid (HRA.out.below hnb.bel)
      have HCA := Lib.hid (checkAll_any ab cb M wb (by have := HLM.out; omega) hnb.row)
      rw [HLM.out] at HCA
      clear hnb HTO HBA HRA
      go_wp2_with fail
      refine HCA.out.mono ?_
      rintro r wc ⟨rfl, hbc⟩
      have HBC := Lib.hid (HBB.out.trans (hbc.mono HBB.out.size))
      have HRC := Lib.hid (HRB.out.below hbc)
      clear hbc HCA HBB HRB
      by_cases hn : batchN M = 0
      · have HDM := Lib.hid (batchN_dom hn)
        rw [hn]
        clear hn
        have HT1 := Lib.hid (ordText_any a cap M wc HRC.out (fun o ho => ordDom_in (HDM.out.2 o ho)) HDM.out.1)
        rw [HLM.out] at HT1
        go_wp2_with fail
        refine HT1.out.mono ?_
        rintro r wd ⟨rfl, hbd⟩
        have HBD := Lib.hid (HBC.out.trans (hbd.mono HBC.out.size))
        have HRD := Lib.hid (HRC.out.below hbd)
        have HPA := Lib.hid (ordParse_any (batchB M) wd (Nat.le_trans (batchB_len HDM.out) (by decide)))
        rw [parseO_back M HDM.out] at HPA
        clear hbd HT1 HBC HRC
        go_wp2_with fail
        refine HPA.out.mono ?_
        rintro r we ⟨ae, ce, rfl, hre, hbe⟩
        have HBE := Lib.hid (HBD.out.trans (hbe.mono HBD.out.size))
        have HRE := Lib.hid (HRD.out.below hbe)
        have HPE := Lib.hid hre
        have HT2 := Lib.hid (ordText_any a cap M we HRE.out (fun o ho => ordDom_in (HDM.out.2 o ho)) HDM.out.1)
        rw [HLM.out] at HT2
        clear hbe hre HPA HBD HRD
        simp only [HLM.out]
        go_wp2_with fail
        refine HT2.out.mono ?_
        rintro r wf ⟨rfl, hbf⟩
        have HBF := Lib.hid (HBE.out.trans (hbf.mono HBE.out.size))
        have HRF := Lib.hid (HRE.out.below hbf)
        have HPF := Lib.hid (HPE.out.below hbf)
        have HTO2 := Lib.hid (ordTold_any a cap M wf (by have := HLM.out; omega) HRF.out)
        rw [HLM.out] at HTO2
        clear hbf HT2 HBE HRE HPE
        go_wp2_with fail
        refine HTO2.out.mono ?_
        rintro r wg ⟨ag, cg, rfl, hng⟩
        have HBG := Lib.hid (HBF.out.trans (hng.bel.mono HBF.out.size))
        have HRG := Lib.hid (HRF.out.below hng.bel)
        have HPG := Lib.hid (HPF.out.below hng.bel)
        have HRT := Lib.hid (refOrdText_any ag cg M wg hng.row (fun o ho => ordDom_in (HDM.out.2 o ho)) HDM.out.1)
        rw [HLM.out] at HRT
        clear hng HTO2 HBF HRF HPF
        go_wp2_with fail
        refine HRT.out.mono ?_
        rintro r wh ⟨rfl, hbh⟩
        have HBH := Lib.hid (HBG.out.trans (hbh.mono HBG.out.size))
        have HRH := Lib.hid (HRG.out.below hbh)
        have HPH := Lib.hid (HPG.out.below hbh)
        have HTO3 := Lib.hid (ordTold_any a cap M wh (by have := HLM.out; omega) HRH.out)
        rw [HLM.out] at HTO3
        clear hbh HRT HBG HRG HPG
        generalize bs (batchB M) = S
        have hss : (S.toList == S.toList) = true := by simp
        go_wp2_with fail
        refine HTO3.out.mono ?_
        rintro r wi ⟨ai, ci, rfl, hni⟩
        have HBI := Lib.hid (HBH.out.trans (hni.bel.mono HBH.out.size))
        have HSA := Lib.hid (ordSame_any ae ce M ai ci M wi (by have := HLM.out; omega) (by have := HLM.out; omega) (HPH.out.below hni.bel) hni.row)
        rw [HLM.out] at HSA
        clear hni HTO3 HBH HRH HPH
        go_wp2_with fail
        refine HSA.out.mono ?_
        rintro r wj ⟨z, rfl, -, hz, hbj⟩
        have hz0 := hz.2 rfl
        subst hz0
        have HBJ := Lib.hid (HBI.out.trans (hbj.mono HBI.out.size))
        clear hbj hz HSA HBI
        go_wp2
        go_ret
        exact ⟨rfl, HBJ.out⟩
      · generalize batchN M = y at hn ⊢
        have hyb : ((y : Int) != 0) = true := by simp; omega
        have hyy : ((y : Int) != (y : Int)) = false := by simp
        clear hn
        go_wp2
        go_ret
        exact ⟨rfl, HBC.out⟩
    · obtain ⟨M, rfl⟩ : ∃ M, M = M0 := ⟨_, rfl⟩
      go_enter Try.func9, Try.ntmps9
      go_wp2_with fail
      refine HAW.out.mono ?_
      rintro e w1 ⟨rfl, hb1⟩
      have HB := Lib.hid hb1
      have HRW := Lib.hid (HROW.out.below hb1)
      have HLM := Lib.hid HLM0.out
      clear hb1 HAW HROW HLM0
      have HCK := Lib.hid (batchCheck_any (some x) cap M w1 (by have := HLM.out; omega) HRW.out)
      rw [HLM.out] at HCK
      go_wp2_with fail
      refine HCK.out.mono ?_
      rintro r wa ⟨rfl, hba⟩
      have HBA := Lib.hid (HB.out.trans (hba.mono HB.out.size))
      have HRA := Lib.hid (HRW.out.below hba)
      have HTO := Lib.hid (ordTold_any (some x) cap M wa (by have := HLM.out; omega) HRA.out)
      rw [HLM.out] at HTO
      clear hba HCK HB HRW
      go_wp2_with fail
      refine HTO.out.mono ?_
      rintro r wb ⟨ab, cb, rfl, hnb⟩
      have HBB := Lib.hid (HBA.out.trans (hnb.bel.mono HBA.out.size))
      have HRB := Lib.hid (HRA.out.below hnb.bel)
      have HCA := Lib.hid (checkAll_any ab cb M wb (by have := HLM.out; omega) hnb.row)
      rw [HLM.out] at HCA
      clear hnb HTO HBA HRA
      go_wp2_with fail
      refine HCA.out.mono ?_
      rintro r wc ⟨rfl, hbc⟩
      have HBC := Lib.hid (HBB.out.trans (hbc.mono HBB.out.size))
      have HRC := Lib.hid (HRB.out.below hbc)
      clear hbc HCA HBB HRB
      by_cases hn : batchN M = 0
      · have HDM := Lib.hid (batchN_dom hn)
        rw [hn]
        clear hn
        have HT1 := Lib.hid (ordText_any (some x) cap M wc HRC.out (fun o ho => ordDom_in (HDM.out.2 o ho)) HDM.out.1)
        rw [HLM.out] at HT1
        go_wp2_with fail
        refine HT1.out.mono ?_
        rintro r wd ⟨rfl, hbd⟩
        have HBD := Lib.hid (HBC.out.trans (hbd.mono HBC.out.size))
        have HRD := Lib.hid (HRC.out.below hbd)
        have HPA := Lib.hid (ordParse_any (batchB M) wd (Nat.le_trans (batchB_len HDM.out) (by decide)))
        rw [parseO_back M HDM.out] at HPA
        clear hbd HT1 HBC HRC
        go_wp2_with fail
        refine HPA.out.mono ?_
        rintro r we ⟨ae, ce, rfl, hre, hbe⟩
        have HBE := Lib.hid (HBD.out.trans (hbe.mono HBD.out.size))
        have HRE := Lib.hid (HRD.out.below hbe)
        have HPE := Lib.hid hre
        have HT2 := Lib.hid (ordText_any (some x) cap M we HRE.out (fun o ho => ordDom_in (HDM.out.2 o ho)) HDM.out.1)
        rw [HLM.out] at HT2
        clear hbe hre HPA HBD HRD
        simp only [HLM.out]
        go_wp2_with fail
        refine HT2.out.mono ?_
        rintro r wf ⟨rfl, hbf⟩
        have HBF := Lib.hid (HBE.out.trans (hbf.mono HBE.out.size))
        have HRF := Lib.hid (HRE.out.below hbf)
        have HPF := Lib.hid (HPE.out.below hbf)
        have HTO2 := Lib.hid (ordTold_any (some x) cap M wf (by have := HLM.out; omega) HRF.out)
        rw [HLM.out] at HTO2
        clear hbf HT2 HBE HRE HPE
        go_wp2_with fail
        refine HTO2.out.mono ?_
        rintro r wg ⟨ag, cg, rfl, hng⟩
        have HBG := Lib.hid (HBF.out.trans (hng.bel.mono HBF.out.size))
        have HRG := Lib.hid (HRF.out.below hng.bel)
        have HPG := Lib.hid (HPF.out.below hng.bel)
        have HRT := Lib.hid (refOrdText_any ag cg M wg hng.row (fun o ho => ordDom_in (HDM.out.2 o ho)) HDM.out.1)
        rw [HLM.out] at HRT
        clear hng HTO2 HBF HRF HPF
        go_wp2_with fail
        refine HRT.out.mono ?_
        rintro r wh ⟨rfl, hbh⟩
        have HBH := Lib.hid (HBG.out.trans (hbh.mono HBG.out.size))
        have HRH := Lib.hid (HRG.out.below hbh)
        have HPH := Lib.hid (HPG.out.below hbh)
        have HTO3 := Lib.hid (ordTold_any (some x) cap M wh (by have := HLM.out; omega) HRH.out)
        rw [HLM.out] at HTO3
        clear hbh HRT HBG HRG HPG
        generalize bs (batchB M) = S
        have hss : (S.toList == S.toList) = true := by simp
        go_wp2_with fail
        refine HTO3.out.mono ?_
        rintro r wi ⟨ai, ci, rfl, hni⟩
        have HBI := Lib.hid (HBH.out.trans (hni.bel.mono HBH.out.size))
        have HSA := Lib.hid (ordSame_any ae ce M ai ci M wi (by have := HLM.out; omega) (by have := HLM.out; omega) (HPH.out.below hni.bel) hni.row)
        rw [HLM.out] at HSA
        clear hni HTO3 HBH HRH HPH
        go_wp2_with fail
        refine HSA.out.mono ?_
        rintro r wj ⟨z, rfl, -, hz, hbj⟩
        have hz0 := hz.2 rfl
        subst hz0
        have HBJ := Lib.hid (HBI.out.trans (hbj.mono HBI.out.size))
        clear hbj hz HSA HBI
        go_wp2
        go_ret
        exact ⟨rfl, HBJ.out⟩
      · generalize batchN M = y at hn ⊢
        have hyb : ((y : Int) != 0) = true := by simp; omega
        have hyy : ((y : Int) != (y : Int)) = false := by simp
        clear hn
        go_wp2
        go_ret
        exact ⟨rfl, HBC.out⟩
  · rcases hk with ⟨rfl, h10⟩ | ⟨rfl, h10, x, rfl⟩
    · go_enter Try.func9, Try.ntmps9
      go_wp2_with fail
      refine HAW.out.mono ?_
      rintro e w1 ⟨rfl, hb1⟩
      have HB := Lib.hid hb1
      have HRW := Lib.hid (HROW.out.below hb1)
      have HLM := Lib.hid HLM0.out
      clear hb1 HAW HROW HLM0
      have HTD := Lib.hid (ordTidy_any a cap M0 w1 (by have := HLM.out; omega) HRW.out)
      rw [HLM.out] at HTD
      go_wp2_with fail
      refine HTD.out.mono ?_
      rintro e w2 ⟨M, a5, c5, rfl, hdm, hnw⟩
      have HDM := Lib.hid hdm
      have HB2 := Lib.hid (HB.out.trans (hnw.bel.mono HB.out.size))
      have HRW2 := Lib.hid hnw.row
      clear hdm hnw HTD HB HRW HLM
      generalize hn5 : M.length = n5
      have HLM := Lib.hid hn5
      have hn8 : n5 ≤ 8 := by have := HDM.out.1; omega
      clear hn5
      have HB := HB2
      have HRW := HRW2
      clear HB2 HRW2
      have HCK := Lib.hid (batchCheck_any a5 c5 M w2 (by have := HLM.out; omega) HRW.out)
      rw [HLM.out] at HCK
      go_wp2_with fail
      refine HCK.out.mono ?_
      rintro r wa ⟨rfl, hba⟩
      have HBA := Lib.hid (HB.out.trans (hba.mono HB.out.size))
      have HRA := Lib.hid (HRW.out.below hba)
      have HTO := Lib.hid (ordTold_any a5 c5 M wa (by have := HLM.out; omega) HRA.out)
      rw [HLM.out] at HTO
      clear hba HCK HB HRW
      go_wp2_with fail
      refine HTO.out.mono ?_
      rintro r wb ⟨ab, cb, rfl, hnb⟩
      have HBB := Lib.hid (HBA.out.trans (hnb.bel.mono HBA.out.size))
      have HRB := Lib.hid (HRA.out.below hnb.bel)
      have HCA := Lib.hid (checkAll_any ab cb M wb (by have := HLM.out; omega) hnb.row)
      rw [HLM.out] at HCA
      clear hnb HTO HBA HRA
      go_wp2_with fail
      refine HCA.out.mono ?_
      rintro r wc ⟨rfl, hbc⟩
      have HBC := Lib.hid (HBB.out.trans (hbc.mono HBB.out.size))
      have HRC := Lib.hid (HRB.out.below hbc)
      clear hbc HCA HBB HRB
      rw [batchN_of HDM.out]
      have HT1 := Lib.hid (ordText_any a5 c5 M wc HRC.out (fun o ho => ordDom_in (HDM.out.2 o ho)) HDM.out.1)
      rw [HLM.out] at HT1
      go_wp2_with fail
      refine HT1.out.mono ?_
      rintro r wd ⟨rfl, hbd⟩
      have HBD := Lib.hid (HBC.out.trans (hbd.mono HBC.out.size))
      have HRD := Lib.hid (HRC.out.below hbd)
      have HPA := Lib.hid (ordParse_any (batchB M) wd (Nat.le_trans (batchB_len HDM.out) (by decide)))
      rw [parseO_back M HDM.out] at HPA
      clear hbd HT1 HBC HRC
      go_wp2_with fail
      refine HPA.out.mono ?_
      rintro r we ⟨ae, ce, rfl, hre, hbe⟩
      have HBE := Lib.hid (HBD.out.trans (hbe.mono HBD.out.size))
      have HRE := Lib.hid (HRD.out.below hbe)
      have HPE := Lib.hid hre
      have HT2 := Lib.hid (ordText_any a5 c5 M we HRE.out (fun o ho => ordDom_in (HDM.out.2 o ho)) HDM.out.1)
      rw [HLM.out] at HT2
      clear hbe hre HPA HBD HRD
      simp only [HLM.out]
      go_wp2_with fail
      refine HT2.out.mono ?_
      rintro r wf ⟨rfl, hbf⟩
      have HBF := Lib.hid (HBE.out.trans (hbf.mono HBE.out.size))
      have HRF := Lib.hid (HRE.out.below hbf)
      have HPF := Lib.hid (HPE.out.below hbf)
      have HTO2 := Lib.hid (ordTold_any a5 c5 M wf (by have := HLM.out; omega) HRF.out)
      rw [HLM.out] at HTO2
      clear hbf HT2 HBE HRE HPE
      go_wp2_with fail
      refine HTO2.out.mono ?_
      rintro r wg ⟨ag, cg, rfl, hng⟩
      have HBG := Lib.hid (HBF.out.trans (hng.bel.mono HBF.out.size))
      have HRG := Lib.hid (HRF.out.below hng.bel)
      have HPG := Lib.hid (HPF.out.below hng.bel)
      have HRT := Lib.hid (refOrdText_any ag cg M wg hng.row (fun o ho => ordDom_in (HDM.out.2 o ho)) HDM.out.1)
      rw [HLM.out] at HRT
      clear hng HTO2 HBF HRF HPF
      go_wp2_with fail
      refine HRT.out.mono ?_
      rintro r wh ⟨rfl, hbh⟩
      have HBH := Lib.hid (HBG.out.trans (hbh.mono HBG.out.size))
      have HRH := Lib.hid (HRG.out.below hbh)
      have HPH := Lib.hid (HPG.out.below hbh)
      have HTO3 := Lib.hid (ordTold_any a5 c5 M wh (by have := HLM.out; omega) HRH.out)
      rw [HLM.out] at HTO3
      clear hbh HRT HBG HRG HPG
      generalize bs (batchB M) = S
      have hss : (S.toList == S.toList) = true := by simp
      go_wp2_with fail
      refine HTO3.out.mono ?_
      rintro r wi ⟨ai, ci, rfl, hni⟩
      have HBI := Lib.hid (HBH.out.trans (hni.bel.mono HBH.out.size))
      have HSA := Lib.hid (ordSame_any ae ce M ai ci M wi (by have := HLM.out; omega) (by have := HLM.out; omega) (HPH.out.below hni.bel) hni.row)
      rw [HLM.out] at HSA
      clear hni HTO3 HBH HRH HPH
      go_wp2_with fail
      refine HSA.out.mono ?_
      rintro r wj ⟨z, rfl, -, hz, hbj⟩
      have hz0 := hz.2 rfl
      subst hz0
      have HBJ := Lib.hid (HBI.out.trans (hbj.mono HBI.out.size))
      clear hbj hz HSA HBI
      go_wp2
      go_ret
      exact ⟨rfl, HBJ.out⟩
    · go_enter Try.func9, Try.ntmps9
      go_wp2_with fail
      refine HAW.out.mono ?_
      rintro e w1 ⟨rfl, hb1⟩
      have HB := Lib.hid hb1
      have HRW := Lib.hid (HROW.out.below hb1)
      have HLM := Lib.hid HLM0.out
      clear hb1 HAW HROW HLM0
      have HTD := Lib.hid (ordTidy_any (some x) cap M0 w1 (by have := HLM.out; omega) HRW.out)
      rw [HLM.out] at HTD
      go_wp2_with fail
      refine HTD.out.mono ?_
      rintro e w2 ⟨M, a5, c5, rfl, hdm, hnw⟩
      have HDM := Lib.hid hdm
      have HB2 := Lib.hid (HB.out.trans (hnw.bel.mono HB.out.size))
      have HRW2 := Lib.hid hnw.row
      clear hdm hnw HTD HB HRW HLM
      generalize hn5 : M.length = n5
      have HLM := Lib.hid hn5
      have hn8 : n5 ≤ 8 := by have := HDM.out.1; omega
      clear hn5
      have HB := HB2
      have HRW := HRW2
      clear HB2 HRW2
      have HCK := Lib.hid (batchCheck_any a5 c5 M w2 (by have := HLM.out; omega) HRW.out)
      rw [HLM.out] at HCK
      go_wp2_with fail
      refine HCK.out.mono ?_
      rintro r wa ⟨rfl, hba⟩
      have HBA := Lib.hid (HB.out.trans (hba.mono HB.out.size))
      have HRA := Lib.hid (HRW.out.below hba)
      have HTO := Lib.hid (ordTold_any a5 c5 M wa (by have := HLM.out; omega) HRA.out)
      rw [HLM.out] at HTO
      clear hba HCK HB HRW
      go_wp2_with fail
      refine HTO.out.mono ?_
      rintro r wb ⟨ab, cb, rfl, hnb⟩
      have HBB := Lib.hid (HBA.out.trans (hnb.bel.mono HBA.out.size))
      have HRB := Lib.hid (HRA.out.below hnb.bel)
      have HCA := Lib.hid (checkAll_any ab cb M wb (by have := HLM.out; omega) hnb.row)
      rw [HLM.out] at HCA
      clear hnb HTO HBA HRA
      go_wp2_with fail
      refine HCA.out.mono ?_
      rintro r wc ⟨rfl, hbc⟩
      have HBC := Lib.hid (HBB.out.trans (hbc.mono HBB.out.size))
      have HRC := Lib.hid (HRB.out.below hbc)
      clear hbc HCA HBB HRB
      rw [batchN_of HDM.out]
      have HT1 := Lib.hid (ordText_any a5 c5 M wc HRC.out (fun o ho => ordDom_in (HDM.out.2 o ho)) HDM.out.1)
      rw [HLM.out] at HT1
      go_wp2_with fail
      refine HT1.out.mono ?_
      rintro r wd ⟨rfl, hbd⟩
      have HBD := Lib.hid (HBC.out.trans (hbd.mono HBC.out.size))
      have HRD := Lib.hid (HRC.out.below hbd)
      have HPA := Lib.hid (ordParse_any (batchB M) wd (Nat.le_trans (batchB_len HDM.out) (by decide)))
      rw [parseO_back M HDM.out] at HPA
      clear hbd HT1 HBC HRC
      go_wp2_with fail
      refine HPA.out.mono ?_
      rintro r we ⟨ae, ce, rfl, hre, hbe⟩
      have HBE := Lib.hid (HBD.out.trans (hbe.mono HBD.out.size))
      have HRE := Lib.hid (HRD.out.below hbe)
      have HPE := Lib.hid hre
      have HT2 := Lib.hid (ordText_any a5 c5 M we HRE.out (fun o ho => ordDom_in (HDM.out.2 o ho)) HDM.out.1)
      rw [HLM.out] at HT2
      clear hbe hre HPA HBD HRD
      simp only [HLM.out]
      go_wp2_with fail
      refine HT2.out.mono ?_
      rintro r wf ⟨rfl, hbf⟩
      have HBF := Lib.hid (HBE.out.trans (hbf.mono HBE.out.size))
      have HRF := Lib.hid (HRE.out.below hbf)
      have HPF := Lib.hid (HPE.out.below hbf)
      have HTO2 := Lib.hid (ordTold_any a5 c5 M wf (by have := HLM.out; omega) HRF.out)
      rw [HLM.out] at HTO2
      clear hbf HT2 HBE HRE HPE
      go_wp2_with fail
      refine HTO2.out.mono ?_
      rintro r wg ⟨ag, cg, rfl, hng⟩
      have HBG := Lib.hid (HBF.out.trans (hng.bel.mono HBF.out.size))
      have HRG := Lib.hid (HRF.out.below hng.bel)
      have HPG := Lib.hid (HPF.out.below hng.bel)
      have HRT := Lib.hid (refOrdText_any ag cg M wg hng.row (fun o ho => ordDom_in (HDM.out.2 o ho)) HDM.out.1)
      rw [HLM.out] at HRT
      clear hng HTO2 HBF HRF HPF
      go_wp2_with fail
      refine HRT.out.mono ?_
      rintro r wh ⟨rfl, hbh⟩
      have HBH := Lib.hid (HBG.out.trans (hbh.mono HBG.out.size))
      have HRH := Lib.hid (HRG.out.below hbh)
      have HPH := Lib.hid (HPG.out.below hbh)
      have HTO3 := Lib.hid (ordTold_any a5 c5 M wh (by have := HLM.out; omega) HRH.out)
      rw [HLM.out] at HTO3
      clear hbh HRT HBG HRG HPG
      generalize bs (batchB M) = S
      have hss : (S.toList == S.toList) = true := by simp
      go_wp2_with fail
      refine HTO3.out.mono ?_
      rintro r wi ⟨ai, ci, rfl, hni⟩
      have HBI := Lib.hid (HBH.out.trans (hni.bel.mono HBH.out.size))
      have HSA := Lib.hid (ordSame_any ae ce M ai ci M wi (by have := HLM.out; omega) (by have := HLM.out; omega) (HPH.out.below hni.bel) hni.row)
      rw [HLM.out] at HSA
      clear hni HTO3 HBH HRH HPH
      go_wp2_with fail
      refine HSA.out.mono ?_
      rintro r wj ⟨z, rfl, -, hz, hbj⟩
      have hz0 := hz.2 rfl
      subst hz0
      have HBJ := Lib.hid (HBI.out.trans (hbj.mono HBI.out.size))
      clear hbj hz HSA HBI
      go_wp2
      go_ret
      exact ⟨rfl, HBJ.out⟩
end Go.Proofs.Ytapiaogmmoofkaa
