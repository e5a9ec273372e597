/-
  The walk of the law OrderApart.
-/
import Derived.Test.YtapiaogmmoofkaaWalkOTexts
namespace Go.Proofs.Ytapiaogmmoofkaa
open Go.RowKit
set_option linter.unusedVariables false

theorem batchB_inj {l m : List Ord} (hl : BatchDom l) (hm : BatchDom m) (h : batchB l = batchB m) : l = m := by
  have h1 := parseO_back l hl
  rw [h, parseO_back m hm] at h1
  exact (Prod.mk.inj h1).1.symm
theorem batchB_same {l m : List Ord} (hl : BatchDom l) (hm : BatchDom m) (z : Int) (hz : z = 0 ↔ l = m) : ((bs (batchB l)).toList == (bs (batchB m)).toList) = (z == 0) := by
  rw [ByteArray.toList_eq, ByteArray.toList_eq, bs_list, bs_list]
  by_cases h : l = m
  · rw [hz.2 h, h]; simp
  · have h1 : ¬ z = 0 := fun e => h (hz.1 e)
    have h2 : ¬ batchB l = batchB m := fun e => h (batchB_inj hl hm e)
    rw [show (z == 0) = false by simpa using h1]
    simpa using h2
set_option maxRecDepth 100000 in
set_option maxHeartbeats 4000000 in
theorem orderApart_walk (w : World) (a : Option Addr) (len cap : Nat) (l : List Ord) (h : OrdArg w a len cap l) (b : Option Addr) (len2 cap2 : Nat) (l2 : List Ord) (h2 : OrdArg w b len2 cap2 l2) (n : Int) :
    Calls Try.prog 11 #[.slice a len cap, .slice b len2 cap2, .int .i64 n] w fun e w' => e = .returned (.bool true) ∧ Below w.heap.size w w' := by
  have hcm := h.2.2.1
  have hcm2 := h2.2.2.1
  unfold maxLen at hcm hcm2
  obtain ⟨rfl, hlc, -, hr, -⟩ := h
  obtain ⟨rfl, hlc2, -, hr2, -⟩ := h2
  have HR := Lib.hid hr
  have HR2 := Lib.hid hr2
  have HAW := Lib.hid (awake9_any w)
  clear hr hr2
  go_enter Try.func11, Try.ntmps11
  go_wp2_with fail
  refine HAW.out.mono ?_
  rintro e w1 ⟨rfl, hb1⟩
  have HB1 := Lib.hid hb1
  have HTD := Lib.hid (ordTidy_any a cap l w1 (by omega) (HR.out.below hb1))
  clear hb1 HAW HR
  go_wp2_with fail
  refine HTD.out.mono ?_
  rintro e w2 ⟨M, am, cm, rfl, hdm, hnm⟩
  have HDM := Lib.hid hdm
  have HB2 := Lib.hid (HB1.out.trans (hnm.bel.mono HB1.out.size))
  have HRM2 := Lib.hid hnm.row
  have HTD2 := Lib.hid (ordTidy_any b cap2 l2 w2 (by omega) (HR2.out.below HB2.out))
  clear hdm hnm HTD HB1 HR2
  go_wp2_with fail
  refine HTD2.out.mono ?_
  rintro e w3 ⟨N, an, cn, rfl, hdn, hnn⟩
  have HDN := Lib.hid hdn
  have HB3 := Lib.hid (HB2.out.trans (hnn.bel.mono HB2.out.size))
  have HRM3 := Lib.hid (HRM2.out.below hnn.bel)
  have HRN3 := Lib.hid hnn.row
  have HT1 := Lib.hid (ordText_any am cm M w3 HRM3.out (fun o ho => ordDom_in (HDM.out.2 o ho)) HDM.out.1)
  clear hdn hnn HTD2 HB2 HRM2
  go_wp2_with fail
  refine HT1.out.mono ?_
  rintro e w4 ⟨rfl, hb4⟩
  have HB4 := Lib.hid (HB3.out.trans (hb4.mono HB3.out.size))
  have HRM4 := Lib.hid (HRM3.out.below hb4)
  have HRN4 := Lib.hid (HRN3.out.below hb4)
  have HT2 := Lib.hid (ordText_any an cn N w4 HRN4.out (fun o ho => ordDom_in (HDN.out.2 o ho)) HDN.out.1)
  clear hb4 HT1 HB3 HRM3 HRN3
  go_wp2_with fail
  refine HT2.out.mono ?_
  rintro e w5 ⟨rfl, hb5⟩
  have HB5 := Lib.hid (HB4.out.trans (hb5.mono HB4.out.size))
  have HRM5 := Lib.hid (HRM4.out.below hb5)
  have HRN5 := Lib.hid (HRN4.out.below hb5)
  have HTO := Lib.hid (ordTold_any an cn N w5 (by have := HDN.out.1; omega) HRN5.out)
  clear hb5 HT2 HB4 HRM4 HRN4
  go_wp2_with fail
  refine HTO.out.mono ?_
  rintro e w6 ⟨at6, ct6, rfl, hn6⟩
  have HB6 := Lib.hid (HB5.out.trans (hn6.bel.mono HB5.out.size))
  have HSA := Lib.hid (ordSame_any am cm M at6 ct6 N w6 (by have := HDM.out.1; omega) (by have := HDN.out.1; omega) (HRM5.out.below hn6.bel) hn6.row)
  clear hn6 HTO HB5 HRM5 HRN5
  go_wp2_with fail
  refine HSA.out.mono ?_
  rintro e w7 ⟨z, rfl, -, hz, hb7⟩
  have HB7 := Lib.hid (HB6.out.trans (hb7.mono HB6.out.size))
  have hsame := batchB_same HDM.out HDN.out z hz
  clear hb7 hz HSA HB6
  have ht0 := batchB_pos M
  have ht1 := batchB_len HDM.out
  have hcut := fun p h1 h2 => parseO_cut M HDM.out p h1 h2
  have hmore := parseO_more M HDM.out 0 []
  generalize batchB M = t at hsame ht0 ht1 hcut hmore ⊢
  generalize bs (batchB N) = S2 at hsame ⊢
  have HCUT := Lib.hid hcut
  have HMORE := Lib.hid hmore
  clear hcut hmore
  have hself : ((z == 0) != (z == 0)) = false := by simp
  obtain ⟨k, hk, hke⟩ := andM n 65535 65535 rfl (by decide)
  have hz := bs_size t
  have hk0 : k % t.length < t.length := Nat.mod_lt _ ht0
  have hp1 := ordParse_any (t.take (k % t.length)) w7 (by rw [List.length_take]; omega)
  rw [HCUT.out (t.take (k % t.length)) (List.take_prefix _ _) (fun e => by have := congrArg List.length e; rw [List.length_take] at this; omega)] at hp1
  rw [show bs (t.take (k % t.length)) = (bs t).extract 0 (k % t.length) by rw [extract_take, bs_list]] at hp1
  have HP1 := Lib.hid hp1
  clear hp1
  go_wp2_with fail
  refine HP1.out.mono ?_
  rintro e w8 ⟨x8, c8, rfl, -, hb8⟩
  have HB8 := Lib.hid (HB7.out.trans (hb8.mono HB7.out.size))
  clear hb8 HB7 HP1
  have hp2 := ordParse_any (t ++ [0]) w8 (by rw [List.length_append]; simp; omega)
  rw [HMORE.out, ← bs_append] at hp2
  have HP2 := Lib.hid hp2
  clear hp2
  go_wp2_with fail
  refine HP2.out.mono ?_
  rintro e w9 ⟨x9, c9, rfl, -, hb9⟩
  have HB9 := Lib.hid (HB8.out.trans (hb9.mono HB8.out.size))
  clear hb9 HB8 HP2
  go_wp2
  go_ret
  exact ⟨rfl, HB9.out⟩
end Go.Proofs.Ytapiaogmmoofkaa
