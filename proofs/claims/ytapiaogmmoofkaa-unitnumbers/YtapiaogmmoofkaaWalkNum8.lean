/-
  The walk of the law UnitNumbers.
-/
import Derived.Test.YtapiaogmmoofkaaAwake8
import Derived.Test.YtapiaogmmoofkaaOrdTidy
namespace Go.Proofs.Ytapiaogmmoofkaa
open Go.RowKit
set_option linter.unusedVariables false

theorem spawn1234 (us : List Un) (g : Int) : spawnQ us g 1 2 3 4 = (decide (us.length ≠ 64) && decide (g + 1 ≠ 1099511627776)) := by
  have : mayQ (spawnU g 1 2 3 4) = true := by simp [mayQ, spawnU, mayN]
  simp [spawnQ, this]
set_option maxRecDepth 100000 in
set_option maxHeartbeats 4000000 in
theorem unitNumbers_walk (w : World) (a : Option Addr) (len cap : Nat) (ls : List (List Int)) (h : RecArg 7 w a len cap ls) :
    Calls Try.prog 6 #[.slice a len cap] w fun e w' => e = .returned (.bool true) ∧ Below w.heap.size w w' := by
  obtain ⟨rfl, hlc, hcm, hwide, hrow, -, -⟩ := h
  unfold maxLen at hcm
  have HROW := Lib.hid hrow
  have HAW := Lib.hid (awake8_any w)
  clear hrow hwide
  go_enter Try.func6, Try.ntmps6
  go_wp2_with fail
  refine HAW.out.mono ?_
  rintro e w1 ⟨rfl, hb1⟩
  have HB1 := Lib.hid hb1
  have HNEW := Lib.hid (tabNew_any (fun k => k < w.heap.size) w1 (fun k hk => Nat.lt_of_lt_of_le hk hb1.size))
  clear hb1 HAW
  go_wp2_with fail
  refine HNEW.out.mono ?_
  rintro e w2 ⟨rfl, hq2, hb2⟩
  have HQ2 := Lib.hid hq2
  have HB2 := Lib.hid (HB1.out.trans (hb2.mono HB1.out.size))
  clear hq2 hb2 HNEW HB1
  generalize w1.heap.size = b at HQ2 ⊢
  go_wp2
  go_loopw [4, 5] (fun lv iv wr => ∃ (k : Nat) (us : List Un) (g : Int), k ≤ ls.length ∧ k ≤ 150 ∧ g ≤ k ∧ lv = .int .i64 g ∧ iv = .int .i64 k ∧ Hid (TabQ (fun k => k < w.heap.size) b us g wr ∧ Below w.heap.size w wr)) (fun _ iv _ => 150 - (intOf iv).toNat)
  case atStart => exact ⟨0, [], 0, by omega, by omega, by omega, rfl, rfl, Lib.hid ⟨HQ2.out, HB2.out⟩⟩
  case round =>
    obtain ⟨k, us, g, hk, hk150, hgk, rfl, rfl, HM⟩ := hrel
    by_cases hlt : k < ls.length
    · by_cases hlt2 : k < 150
      · obtain ⟨ab, aoff, rfl, hcell⟩ := RecRow.below (by decide) HROW.out HM.out.2 (by omega)
        have cN := hcell k hlt 1 (by decide)
        have cX := hcell k hlt 5 (by decide)
        have hab := block_lt_of_cell cN
        clear hcell
        generalize ls[k].getD 1 0 = vN at cN
        generalize ls[k].getD 5 0 = vX at cX
        obtain ⟨q3, hq3, eq3⟩ := andM vN 3 3 rfl (by decide)
        obtain ⟨q63, hq63, eq63⟩ := andM vX 63 63 rfl (by decide)
        by_cases hz : q3 = 0
        · subst hz
          have HNT := Lib.hid (tabNth_any b us g (q63 : Int) wr HM.out.1)
          obtain ⟨n, hn⟩ := find_is us (nthN us (q63 : Int)) HM.out.1.ok.2.1
          generalize nthN us (q63 : Int) = id0 at HNT hn
          cases hf : foundQ us id0 n
          · have HKL := Lib.hid (kill_no b us g id0 n wr HM.out.1 hn hf)
            clear hf hn
            go_wp2_with (first | (go_at_call 27; refine HNT.out.mono ?_; rintro e w' ⟨rfl, rfl⟩) | fail)
            refine HKL.out.mono ?_
            rintro e W ⟨rfl, hbk⟩
            have HQ := Lib.hid (HM.out.1.below hbk)
            have HB := Lib.hid (HM.out.2.trans (hbk.mono HM.out.2.size))
            clear hbk HKL HNT HM
            have HLE := Lib.hid (tabLen_any b us g W HQ.out)
            have h64 := HQ.out.ok.1
            have hg0 := HQ.out.ok.2.2.2.1
            go_wp2_with fail
            refine HLE.out.mono ?_
            rintro e W' ⟨rfl, rfl⟩
            by_cases hfull : us.length = 64
            · have HSP := Lib.hid (spawn_no b us g 1 2 3 4 W HQ.out (by rw [spawn1234]; simp [hfull]))
              go_wp2_with fail
              refine HSP.out.mono ?_
              rintro e W2 ⟨rfl, hb2⟩
              have HL2 := Lib.hid (tabLen_any b us g W2 (HQ.out.below hb2))
              have HQ2 := Lib.hid (HQ.out.below hb2)
              have HB2 := Lib.hid (HB.out.trans (hb2.mono HB.out.size))
              rw [hfull] at HL2
              clear hb2 HSP HLE hfull h64 HQ HB
              go_wp2_with (go_at_call 28; refine HL2.out.mono ?_; rintro e w' ⟨rfl, rfl⟩)
              go_roundw
              case rel => exact ⟨k + 1, us, g, by omega, by omega, by omega, rfl, by go_num, Lib.hid ⟨HQ2.out, HB2.out⟩⟩
              case measure => simp [intOf]; omega
            · have HSP := Lib.hid (spawn_yes b us g 1 2 3 4 W HQ.out (by rw [spawn1234]; simp [hfull]; omega))
              go_wp2_with fail
              refine HSP.out.mono ?_
              rintro e W2 ⟨rfl, hq2, ht2⟩
              have HL2 := Lib.hid (tabLen_any b _ (g + 1) W2 hq2)
              have HQ2 := Lib.hid hq2
              have HB2 := Lib.hid (HB.out.trans (ht2.below HB.out.size (fun k hk h => h hk)))
              have hlen : (us ++ [spawnU g 1 2 3 4]).length = us.length + 1 := by simp
              rw [hlen] at HL2
              have hlt64 : us.length < 64 := by omega
              have hge : decide ((64 : Int) ≤ (us.length : Int)) = false := by simp; omega
              have hg1 : (g + 1 == 0) = false := by simp; omega
              have hg2 : (g + 1 != 0) = true := by simp; omega
              have hg3 : (g + 1 != g + 1) = false := by simp
              have hwr : IntKind.i64.wrap (g + 1) = g + 1 := by rw [IntKind.wrap_i64]; omega
              clear hq2 ht2 HSP HLE hfull h64 HQ HB hlen
              generalize us ++ [spawnU g 1 2 3 4] = us2 at HQ2 HL2
              go_wp2_with (go_at_call 28; refine HL2.out.mono ?_; rintro e w' ⟨rfl, rfl⟩)
              go_roundw
              case rel => exact ⟨k + 1, us2, g + 1, by omega, by omega, by omega, rfl, by go_num, Lib.hid ⟨HQ2.out, HB2.out⟩⟩
              case measure => simp [intOf]; omega
          · obtain ⟨hnl, hne⟩ := findIs_lt hf
            have HKL := Lib.hid (kill_yes b us g id0 n wr HM.out.1 hn hnl hne)
            clear hf hn hne
            go_wp2_with (first | (go_at_call 27; refine HNT.out.mono ?_; rintro e w' ⟨rfl, rfl⟩) | fail)
            refine HKL.out.mono ?_
            rintro e W ⟨rfl, hqk, htk⟩
            have HB := Lib.hid (HM.out.2.trans (htk.below HM.out.2.size (fun k hk h => h hk)))
            have HQ := Lib.hid hqk
            clear hqk htk HKL HNT HM
            generalize us.eraseIdx n = us at HQ
            have HLE := Lib.hid (tabLen_any b us g W HQ.out)
            have h64 := HQ.out.ok.1
            have hg0 := HQ.out.ok.2.2.2.1
            go_wp2_with fail
            refine HLE.out.mono ?_
            rintro e W' ⟨rfl, rfl⟩
            by_cases hfull : us.length = 64
            · have HSP := Lib.hid (spawn_no b us g 1 2 3 4 W HQ.out (by rw [spawn1234]; simp [hfull]))
              go_wp2_with fail
              refine HSP.out.mono ?_
              rintro e W2 ⟨rfl, hb2⟩
              have HL2 := Lib.hid (tabLen_any b us g W2 (HQ.out.below hb2))
              have HQ2 := Lib.hid (HQ.out.below hb2)
              have HB2 := Lib.hid (HB.out.trans (hb2.mono HB.out.size))
              rw [hfull] at HL2
              clear hb2 HSP HLE hfull h64 HQ HB
              go_wp2_with (go_at_call 28; refine HL2.out.mono ?_; rintro e w' ⟨rfl, rfl⟩)
              go_roundw
              case rel => exact ⟨k + 1, us, g, by omega, by omega, by omega, rfl, by go_num, Lib.hid ⟨HQ2.out, HB2.out⟩⟩
              case measure => simp [intOf]; omega
            · have HSP := Lib.hid (spawn_yes b us g 1 2 3 4 W HQ.out (by rw [spawn1234]; simp [hfull]; omega))
              go_wp2_with fail
              refine HSP.out.mono ?_
              rintro e W2 ⟨rfl, hq2, ht2⟩
              have HL2 := Lib.hid (tabLen_any b _ (g + 1) W2 hq2)
              have HQ2 := Lib.hid hq2
              have HB2 := Lib.hid (HB.out.trans (ht2.below HB.out.size (fun k hk h => h hk)))
              have hlen : (us ++ [spawnU g 1 2 3 4]).length = us.length + 1 := by simp
              rw [hlen] at HL2
              have hlt64 : us.length < 64 := by omega
              have hge : decide ((64 : Int) ≤ (us.length : Int)) = false := by simp; omega
              have hg1 : (g + 1 == 0) = false := by simp; omega
              have hg2 : (g + 1 != 0) = true := by simp; omega
              have hg3 : (g + 1 != g + 1) = false := by simp
              have hwr : IntKind.i64.wrap (g + 1) = g + 1 := by rw [IntKind.wrap_i64]; omega
              clear hq2 ht2 HSP HLE hfull h64 HQ HB hlen
              generalize us ++ [spawnU g 1 2 3 4] = us2 at HQ2 HL2
              go_wp2_with (go_at_call 28; refine HL2.out.mono ?_; rintro e w' ⟨rfl, rfl⟩)
              go_roundw
              case rel => exact ⟨k + 1, us2, g + 1, by omega, by omega, by omega, rfl, by go_num, Lib.hid ⟨HQ2.out, HB2.out⟩⟩
              case measure => simp [intOf]; omega
        · have hzb : ((q3 : Int) == 0) = false := by simp; omega
          clear hz
          have HQ := Lib.hid HM.out.1
          have HB := Lib.hid HM.out.2
          clear HM
          obtain ⟨W, rfl⟩ : ∃ W : World, W = wr := ⟨_, rfl⟩
          have HLE := Lib.hid (tabLen_any b us g W HQ.out)
          have h64 := HQ.out.ok.1
          have hg0 := HQ.out.ok.2.2.2.1
          go_wp2_with fail
          refine HLE.out.mono ?_
          rintro e W' ⟨rfl, rfl⟩
          by_cases hfull : us.length = 64
          · have HSP := Lib.hid (spawn_no b us g 1 2 3 4 W HQ.out (by rw [spawn1234]; simp [hfull]))
            go_wp2_with fail
            refine HSP.out.mono ?_
            rintro e W2 ⟨rfl, hb2⟩
            have HL2 := Lib.hid (tabLen_any b us g W2 (HQ.out.below hb2))
            have HQ2 := Lib.hid (HQ.out.below hb2)
            have HB2 := Lib.hid (HB.out.trans (hb2.mono HB.out.size))
            rw [hfull] at HL2
            clear hb2 HSP HLE hfull h64 HQ HB
            go_wp2_with (go_at_call 28; refine HL2.out.mono ?_; rintro e w' ⟨rfl, rfl⟩)
            go_roundw
            case rel => exact ⟨k + 1, us, g, by omega, by omega, by omega, rfl, by go_num, Lib.hid ⟨HQ2.out, HB2.out⟩⟩
            case measure => simp [intOf]; omega
          · have HSP := Lib.hid (spawn_yes b us g 1 2 3 4 W HQ.out (by rw [spawn1234]; simp [hfull]; omega))
            go_wp2_with fail
            refine HSP.out.mono ?_
            rintro e W2 ⟨rfl, hq2, ht2⟩
            have HL2 := Lib.hid (tabLen_any b _ (g + 1) W2 hq2)
            have HQ2 := Lib.hid hq2
            have HB2 := Lib.hid (HB.out.trans (ht2.below HB.out.size (fun k hk h => h hk)))
            have hlen : (us ++ [spawnU g 1 2 3 4]).length = us.length + 1 := by simp
            rw [hlen] at HL2
            have hlt64 : us.length < 64 := by omega
            have hge : decide ((64 : Int) ≤ (us.length : Int)) = false := by simp; omega
            have hg1 : (g + 1 == 0) = false := by simp; omega
            have hg2 : (g + 1 != 0) = true := by simp; omega
            have hg3 : (g + 1 != g + 1) = false := by simp
            have hwr : IntKind.i64.wrap (g + 1) = g + 1 := by rw [IntKind.wrap_i64]; omega
            clear hq2 ht2 HSP HLE hfull h64 HQ HB hlen
            generalize us ++ [spawnU g 1 2 3 4] = us2 at HQ2 HL2
            go_wp2_with (go_at_call 28; refine HL2.out.mono ?_; rintro e w' ⟨rfl, rfl⟩)
            go_roundw
            case rel => exact ⟨k + 1, us2, g + 1, by omega, by omega, by omega, rfl, by go_num, Lib.hid ⟨HQ2.out, HB2.out⟩⟩
            case measure => simp [intOf]; omega
      · have hd : decide ((k : Int) < 150) = false := by simp; omega
        go_wp2
        go_ret
        exact ⟨rfl, HM.out.2⟩
    · go_wp2
      go_ret
      exact ⟨rfl, HM.out.2⟩
end Go.Proofs.Ytapiaogmmoofkaa
