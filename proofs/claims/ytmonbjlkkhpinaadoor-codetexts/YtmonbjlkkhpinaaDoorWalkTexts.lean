/-
  The walk of the law CodeTexts.
-/
import Derived.Test.YtmonbjlkkhpinaaDoorWalkCut
import Derived.Test.YtmonbjlkkhpinaaDoorTold
import Derived.Test.YtmonbjlkkhpinaaDoorRefText
import Derived.Test.YtmonbjlkkhpinaaDoorSame
namespace Go.Proofs.YtmonbjlkkhpinaaDoor
open Go.RowKit
set_option linter.unusedVariables false

theorem keepT {W w' : World} (hb : Below W.heap.size W w') {B1 B6 : Nat} {x y : Value} {a2 a4 : Option Addr} {M : List Fn} (h : W.cell? ⟨B1, 0, none⟩ = some x ∧ W.cell? ⟨B6, 0, none⟩ = some y ∧ FnRow W a2 M ∧ FnRow W a4 M) :
    w'.cell? ⟨B1, 0, none⟩ = some x ∧ w'.cell? ⟨B6, 0, none⟩ = some y ∧ FnRow w' a2 M ∧ FnRow w' a4 M :=
  ⟨(hb.cell (p := ⟨B1, 0, none⟩) (block_lt_of_cell h.1)).trans h.1, (hb.cell (p := ⟨B6, 0, none⟩) (block_lt_of_cell h.2.1)).trans h.2.1, h.2.2.1.below hb, h.2.2.2.below hb⟩
set_option maxHeartbeats 4000000 in
set_option maxRecDepth 100000 in
theorem codeTexts_walk (w : World) (a : Option Addr) (len cap : Nat) (m : List Fn) (hm : ImgArg w a len m) (hN : NamesAt w) :
    Calls Tryd.prog 3 #[.agg #[.slice a len cap]] w fun e w' => e = .returned (.bool true) ∧ Below w.heap.size w w' := by
  obtain ⟨hdom, hd6, -⟩ := tidyM_dom m hm.2.2.2
  have HD := Lib.hid hdom
  have HM1 : Hid (ImgArg (w.alloc (.cells #[.slice a len cap] 24)) a len m) := Lib.hid ⟨hm.1, hm.2.1, hm.2.2.1.below ((Below.refl _ _).alloc (Nat.le_refl _) _), hm.2.2.2⟩
  have HTY := Lib.hid (tidy_any a len cap m _ HM1.out)
  have HN := Lib.hid hN
  clear hm hN hdom HM1
  go_enter Tryd.func3, Tryd.ntmps3
  go_wp2_with fail
  refine HTY.out.mono ?_
  rintro e w1 ⟨a2, c2, P, rfl, hP, hb1, O, hI⟩
  have hz1 : w.heap.size < w1.heap.size := by have := hb1.size; simp at this; omega
  have c0 : w1.cell? ⟨w.heap.size, 0, none⟩ = some (.slice a len cap) := (hb1.cell (p := ⟨w.heap.size, 0, none⟩) (by simp)).trans (by simp)
  have z0 : w1.frozen? ⟨w.heap.size, 0, none⟩ = false := (hb1.frozen (p := ⟨w.heap.size, 0, none⟩) (by simp)).trans (frozen_new _ _ _ _)
  have HF2 : Hid (FnRow (w1.setCell ⟨w.heap.size, 0, none⟩ (.slice a2 (tidyM m).length c2)) a2 (tidyM m)) := Lib.hid (by
    have := (hI.far (p := ⟨w.heap.size, 0, none⟩) (by simp; omega) (.slice a2 (tidyM m).length c2)).fns
    rwa [hP] at this)
  have HB2 : Hid (Below w.heap.size w (w1.setCell ⟨w.heap.size, 0, none⟩ (.slice a2 (tidyM m).length c2))) := Lib.hid ((((Below.refl _ w).alloc (Nat.le_refl _) _).trans (hb1.mono (by simp))).setCell (by exact Nat.le_refl _) _)
  have HC2 : Hid ((w1.setCell ⟨w.heap.size, 0, none⟩ (.slice a2 (tidyM m).length c2)).cell? ⟨w.heap.size, 0, none⟩ = some (.slice a2 (tidyM m).length c2)) := Lib.hid (World.cell?_setCell_same _ _ _ c0)
  clear hb1 hI hP HTY
  generalize tidyM m = M at HD hd6 HF2 HB2 HC2
  have HOK := Lib.hid (imgOk_of_dom HD.out)
  go_wp2_with fail
  clear c0 z0 hz1
  generalize w1.setCell ⟨w.heap.size, 0, none⟩ (.slice a2 M.length c2) = w2 at HF2 HB2 HC2
  refine (awake3_any w2 (HN.out.below HB2.out)).mono ?_
  rintro e w3 ⟨rfl, hb3⟩
  have c3 := (hb3.cell (p := ⟨w.heap.size, 0, none⟩) (block_lt_of_cell HC2.out)).trans HC2.out
  have hl3 : w.heap.size < w3.heap.size := block_lt_of_cell c3
  have HF3 := Lib.hid (HF2.out.below hb3)
  have HB3 := Lib.hid (HB2.out.trans (hb3.mono HB2.out.size))
  clear hb3 HF2 HB2 HC2 HN
  go_wp2
  go_loopw [3, 15] (fun s i wr => ∃ k : Nat, k ≤ M.length ∧ i = .int .i64 k ∧ s = .int .i64 (sizeN (M.take k) : Nat) ∧ Hid (Below w3.heap.size w3 wr)) (fun _ i _ => M.length - (intOf i).toNat)
  case atStart => exact ⟨0, by omega, rfl, rfl, Lib.hid (Below.refl _ _)⟩
  case round =>
    obtain ⟨k, hk, rfl, rfl, HB⟩ := hrel
    have hs := sizeN_le (m := M.take k) (fun f hf => HOK.out.2 f (List.mem_of_mem_take hf))
    have hs2 : (M.take k).length ≤ 6 := by have := List.length_take_le k M; omega
    have hz := HB.out.size
    by_cases hlt : k < M.length
    · have HS := Lib.hid (sizeN_snoc M k hlt)
      obtain ⟨b, off, rfl, hcell⟩ := HF3.out.below HB.out (by omega)
      obtain ⟨d0, d1, x, c, d2, -⟩ := hcell k hlt
      have hcl := (HOK.out.2 _ (List.getElem_mem hlt)).2.2.2.2.1
      have hb := block_lt_of_cell d0
      clear hcell
      generalize M[k] = f at HS d0 d1 d2 hcl
      obtain ⟨ar, lo, co⟩ := f
      simp only at HS d0 d1 d2 hcl
      go_wp2
      go_roundw
      case rel => exact ⟨k + 1, by omega, by go_num, by rw [HS.out]; go_num, Lib.hid (HB.out.alloc hz _)⟩
      case measure => simp [intOf]; omega
    · have HTK : Hid (M.take k = M) := Lib.hid (List.take_of_length_le (by omega))
      rw [HTK.out]
      have c4 := (HB.out.cell (p := ⟨w.heap.size, 0, none⟩) hl3).trans c3
      have hl4 : w.heap.size < wr.heap.size := by omega
      have HF4 := Lib.hid (HF3.out.below HB.out)
      have HBw := Lib.hid (HB3.out.trans (HB.out.mono HB3.out.size))
      have HX := Lib.hid (text_any a2 c2 M wr HOK.out HF4.out)
      clear hs hs2 hz HB HB3 HF3 c3 hl3
      go_wp2_with fail
      refine HX.out.mono ?_
      rintro e w5 ⟨rfl, hb5⟩
      have hp := parse_any (bs (textB M)) w5 (by rw [bs_size]; have := textB_len HOK.out; omega)
      rw [bs_list] at hp
      have HP := Lib.hid hp
      have c5 := (hb5.cell (p := ⟨w.heap.size, 0, none⟩) hl4).trans c4
      have HF5 := Lib.hid (HF4.out.below hb5)
      have HB5 := Lib.hid (HBw.out.trans (hb5.mono HBw.out.size))
      clear hb5 hp HX HF4 HBw
      go_wp2_with fail
      refine HP.out.mono ?_
      rintro e w6 ⟨a4, c4', rfl, hr6, hb6⟩
      rw [parse_back M HD.out] at hr6 ⊢
      simp only at hr6 ⊢
      have hl6 : w.heap.size < w6.heap.size := by have := block_lt_of_cell c5; have := hb6.size; simp at *; omega
      have c6 := (hb6.cell (p := ⟨w.heap.size, 0, none⟩) (block_lt_of_cell c5)).trans c5
      have HF6 := Lib.hid (HF5.out.below hb6)
      have HG6 := Lib.hid hr6
      have HB6 := Lib.hid (HB5.out.trans (hb6.mono HB5.out.size))
      have hz6 := HB6.out.size
      clear hb6 hr6 HP HF5 HB5 c5 c4 hl4
      go_upto_region 11 with (fail)
      have HBc : Hid (Below w.heap.size w (w6.alloc (.cells #[.slice a4 M.length c4'] 24)).drew) := Lib.hid ((HB6.out.alloc hz6 _).drew)
      have HS0 : (w6.alloc (.cells #[.slice a4 M.length c4'] 24)).drew.cell? ⟨w.heap.size, 0, none⟩ = some (.slice a2 M.length c2) ∧ (w6.alloc (.cells #[.slice a4 M.length c4'] 24)).drew.cell? ⟨w6.heap.size, 0, none⟩ = some (.slice a4 M.length c4') ∧ FnRow (w6.alloc (.cells #[.slice a4 M.length c4'] 24)).drew a2 M ∧ FnRow (w6.alloc (.cells #[.slice a4 M.length c4'] 24)).drew a4 M := by
        have hbb : Below w6.heap.size w6 (w6.alloc (.cells #[.slice a4 M.length c4'] 24)).drew := ((Below.refl _ _).alloc (Nat.le_refl _) _).drew
        exact ⟨(hbb.cell (p := ⟨w.heap.size, 0, none⟩) hl6).trans c6, by simp, HF6.out.below hbb, HG6.out.below hbb⟩
      go_region_held3 (fun w' => w'.cell? ⟨w.heap.size, 0, none⟩ = some (.slice a2 M.length c2) ∧ w'.cell? ⟨w6.heap.size, 0, none⟩ = some (.slice a4 M.length c4') ∧ FnRow w' a2 M ∧ FnRow w' a4 M)
        (first | exact HS0 | (refine keepT hbK ?_; assumption))
        (first
          | (go_at_call 14; refine (text_any a2 c2 M _ HOK.out ?_).mono ?_; (exact (‹World.cell? _ _ = _ ∧ World.cell? _ _ = _ ∧ FnRow _ a2 M ∧ FnRow _ a4 M›).2.2.1); rintro e wK ⟨rfl, hbK⟩; have HBc := Lib.hid (HBc.out.trans (hbK.mono HBc.out.size)); (try (have hrT := RFnRow.below hrT hbK)))
          | (go_at_call 16; refine (told_any a2 c2 M _ HOK.out ?_).mono ?_; (exact (‹World.cell? _ _ = _ ∧ World.cell? _ _ = _ ∧ FnRow _ a2 M ∧ FnRow _ a4 M›).2.2.1); rintro e wK ⟨aT, cT, rfl, hrT, hbK⟩; have HBc := Lib.hid (HBc.out.trans (hbK.mono HBc.out.size)))
          | (go_at_call 15; refine (refText_any _ _ M _ HOK.out hrT).mono ?_; rintro e wK ⟨rfl, hbK⟩; have HBc := Lib.hid (HBc.out.trans (hbK.mono HBc.out.size)))
          | (go_at_call 17; refine (same_any a4 c4' _ _ M _ HOK.out ?_ hrT).mono ?_; (exact (‹World.cell? _ _ = _ ∧ World.cell? _ _ = _ ∧ FnRow _ a2 M ∧ FnRow _ a4 M›).2.2.2); rintro e wK ⟨rfl, hbK⟩; have HBc := Lib.hid (HBc.out.trans (hbK.mono HBc.out.size)))
          | (go_at_call 18; refine (size_any a2 c2 M _ HOK.out ?_).mono ?_; (exact (‹World.cell? _ _ = _ ∧ World.cell? _ _ = _ ∧ FnRow _ a2 M ∧ FnRow _ a4 M›).2.2.1); rintro e wK ⟨rfl, hbK⟩; have HBc := Lib.hid (HBc.out.trans (hbK.mono HBc.out.size))))
      all_goals (go_wp2; go_ret; exact ⟨rfl, HBc.out⟩)
end Go.Proofs.YtmonbjlkkhpinaaDoor
