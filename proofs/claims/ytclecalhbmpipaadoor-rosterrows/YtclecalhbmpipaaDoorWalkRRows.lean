/-
  The walk of the law RosterRows.
-/
import Derived.Test.YtclecalhbmpipaaDoorRosL2
import Derived.Test.YtclecalhbmpipaaDoorRosL3
namespace Go.Proofs.YtclecalhbmpipaaDoor
open Go.RowKit
set_option linter.unusedVariables false

/-- A list that came in, cut where it is longer than forty. -/
theorem arg40p {w : World} {a : Option Addr} {len cap : Nat} {ns : List Int} (h : NumArg .i64 w a len cap ns) : ∃ l : List Int, l.length ≤ 40 ∧ IntRow .i64 w a l ∧ ((40 < len ∧ l.length = 40) ∨ (len ≤ 40 ∧ l.length = len)) := by
  obtain ⟨rfl, h1, h2, h3, h4, -, h5⟩ := h
  by_cases hl : 40 < ns.length
  · exact ⟨ns.take 40, by simp; omega, h4.take 40, .inl ⟨hl, by simp; omega⟩⟩
  · exact ⟨ns, by omega, h4, .inr ⟨by omega, rfl⟩⟩
/-- The law's memory: three boxes of rosters, and the document's list. -/
structure RrM (w : World) (R S X n n' : Nat) (e' : Int) (a : Option Addr) (N c : Nat) (W : World) : Prop where
  r : W.cell? ⟨R, 0, none⟩ = some (.int .u32 (n : Int)) ∧ W.cell? ⟨R, 1, none⟩ = some (.int .i64 0) ∧ W.cell? ⟨S, 0, none⟩ = some (.int .u32 (n' : Int)) ∧ W.cell? ⟨S, 1, none⟩ = some (.int .i64 e')
  x0 : W.cell? ⟨X, 0, none⟩ = some (.slice a N c)
  x1 : W.cell? ⟨X, 1, none⟩ = some (.int .i64 e')
  row : ActL W (.slice a N c) (lstP n')
  tab : DbAt W
  bel : Below w.heap.size w W
theorem RrM.keep {w : World} {R S X n n' : Nat} {e' : Int} {a : Option Addr} {N c : Nat} {W W' : World} (h : RrM w R S X n n' e' a N c W) (hb : Below W.heap.size W W') : RrM w R S X n n' e' a N c W' :=
  ⟨keep4i hb h.r, (hb.cell (block_lt_of_cell h.x0)).trans h.x0, (hb.cell (block_lt_of_cell h.x1)).trans h.x1, h.row.below hb, h.tab.below hb, h.bel.trans (hb.mono h.bel.size)⟩
theorem withP_case (n : Nat) (l : List Chg) : ∃ n' e' z, withP n 0 l = (n', e', z) ∧ ((z ≠ 0 ∧ n' = n ∧ e' = 0) ∨ (z = 0 ∧ e' = (l.length : Int) ∧ (l.length = 0 → n' = n))) := by
  unfold withP
  by_cases h : (runP n l).2 = 0
  · rw [if_pos h]
    refine ⟨_, _, _, rfl, .inr ⟨rfl, by omega, fun h0 => ?_⟩⟩
    rw [List.eq_nil_of_length_eq_zero h0]; rfl
  · rw [if_neg h]
    exact ⟨_, _, _, rfl, .inl ⟨h, rfl, rfl⟩⟩
theorem withP_lt {n : Nat} (hn : n < 4294967296) (e : Int) (l : List Chg) : (withP n e l).1 < 4294967296 := by
  unfold withP
  split
  · exact runP_lt l n hn
  · exact hn
theorem twice_same (a : Nat) (e : Int) : ((a == a) && (e == e)) = true := by simp
set_option maxRecDepth 100000 in
set_option maxHeartbeats 20000000 in
theorem rosterRows_walk (w : World) (a : Option Addr) (len cap : Nat) (ns : List Int) (h : NumArg .i64 w a len cap ns) (b : Option Addr) (len1 cap1 : Nat) (ls : List (List Value)) (h1 : ValArg 3 (chR w) w b len1 cap1 ls) (hT : DbAt w) : Calls Tryd.prog 4 #[.slice a len cap, .slice b len1 cap1] w fun r w' => r = .returned (.bool true) ∧ Below w.heap.size w w' := by
  have hc1 : len ≤ cap := h.2.2.1
  have hc2 : cap ≤ maxLen := h.2.2.2.1
  unfold maxLen at hc2
  obtain ⟨l, hl, hrow, hlen⟩ := arg40p h
  clear h
  obtain ⟨rfl, hcap1, hcap2, hvrow, hper⟩ := h1
  obtain ⟨m, hcis, -⟩ := ChIs.of hper
  have hlm := hcis.1
  have HAW := Lib.hid (awake18_any w)
  have HFEW := Lib.hid (fun W (hW : Below w.heap.size w W) => few18_any b cap1 ls m W W (VRow.touch (by decide) hcis.wide hvrow (touch_of_below (S := fun _ => False) hW) (fun _ _ => id)) (hcis.below hW) (by omega) ls.length hlm.symm)
  have HOF := Lib.hid (fun W (hW : Below w.heap.size w W) c => rof_any a c l W (hrow.below hW) (by omega))
  have HDOF := Lib.hid (fun W (hW : Below w.heap.size w W) c => dof_any a c l W (hrow.below hW) (by omega) l.length rfl)
  have HSMALL := Lib.hid (fewC_small m)
  have HN := Lib.hid (ofP_lt l)
  have HTAB := Lib.hid hT
  clear hrow hvrow hper hcis hlm hT
  unfold FewPost18 at HFEW
  generalize fewC m = F at HFEW HSMALL
  unfold rosV at HOF
  unfold DocNew at HDOF
  generalize ofP l = n at HOF HDOF HN
  obtain ⟨n', e', z, hwp, hcase⟩ := withP_case n F
  have HWP := Lib.hid hwp
  have HN' : Hid (n' < 4294967296) := Lib.hid (by have := withP_lt HN.out 0 F; rw [hwp] at this; exact this)
  have HE' : Hid (0 ≤ e' ∧ e' ≤ 10) := Lib.hid (by
    have := HSMALL.out.2
    rcases hcase with ⟨-, -, h⟩ | ⟨-, h, -⟩ <;> omega)
  have HWI := Lib.hid (fun (ls1 : List (List Value)) (a1 : Option Addr) (c1 : Nat) (W : World) (hr : VRow 3 W a1 ls1) (hi : ChIs W ls1 F) => rwith_any n 0 a1 c1 ls1 F W HN.out (by decide) hr hi HSMALL.out.1 F.length rfl)
  have HDW := Lib.hid (fun (a0 : Option Addr) (c0 : Nat) (ls1 : List (List Value)) (a1 : Option Addr) (c1 : Nat) (W : World) (h0 : ActL W (.slice a0 (lenP n) c0) (lstP n)) (hr : VRow 3 W a1 ls1) (hi : ChIs W ls1 F) => dwith_any n 0 a0 c0 a1 c1 ls1 F W (by decide) h0 hr hi HSMALL.out.1 F.length rfl)
  have HTOLD := Lib.hid (fun (ls1 : List (List Value)) (a1 : Option Addr) (c1 : Nat) (W : World) (hr : VRow 3 W a1 ls1) (hi : ChIs W ls1 F) => told18_any a1 c1 ls1 F W hr hi (by have := HSMALL.out.2; omega) F.length rfl)
  have HIS := Lib.hid (fun (a4 : Option Addr) (c4 : Nat) (W : World) (h0 : ActL W (.slice a4 (lenP n') c4) (lstP n')) (hT : DbAt W) => is18_any n' e' a4 c4 W HN'.out h0 hT)
  have HSSR := Lib.hid (fun W => rsame_any n' n e' 0 W)
  have HSSS := Lib.hid (fun W => rsame_any n' n' e' e' W)
  have HEPO := Lib.hid (fun W => repoch_any n' e' W)
  unfold WithPost at HWI
  unfold DwPost at HDW
  unfold ToldPost18 at HTOLD
  simp only [twice_same] at HSSS
  rw [hwp] at HWI HDW
  simp only at HWI HDW
  simp only [show (lstP n).length = lenP n from rfl] at HDOF
  unfold rosV at HWI HIS HSSR HSSS HEPO
  unfold docV at HDOF HDW HIS
  clear hwp
  generalize lenP n = LN at *
  generalize hLN' : lenP n' = LN' at HDW HIS
  have HLN' := Lib.hid hLN'
  clear hLN'
  generalize hD : F.length = D at *
  have HFD := Lib.hid hD
  have hd10 : D ≤ 10 := by have := HSMALL.out.2; omega
  clear hD
  have hcs2 : ∃ q : Bool, ((z == 0) = q) ∧ Hid ((q = false ∧ n' = n ∧ e' = 0) ∨ (q = true ∧ z = 0 ∧ e' = (D : Int) ∧ (D = 0 → n' = n))) := by
    rcases hcase with ⟨h1, h2, h3⟩ | ⟨h1, h2, h3⟩
    · exact ⟨false, by rw [beq_eq_false_iff_ne]; exact h1, Lib.hid (.inl ⟨rfl, h2, h3⟩)⟩
    · exact ⟨true, by rw [h1]; rfl, Lib.hid (.inr ⟨rfl, h1, h2, h3⟩)⟩
  clear hcase
  obtain ⟨q, hzq, HQ⟩ := hcs2
  have hqq : q = false ∨ q = true := by cases q <;> simp
  rcases hlen with ⟨hlen, hlen2⟩ | ⟨hlen, hlen2⟩
  all_goals
    rw [hlen2] at HOF HDOF
    have hlc : ((len : Nat) : Int) ≤ 40 ∨ (40 : Int) < ((len : Nat) : Int) := by omega
    rcases hqq with hq | hq
    all_goals
      subst hq
      (try have hzn : ¬ z = 0 := by simpa using hzq)
      go_enter Tryd.func4, Tryd.ntmps4
      go_wp2_with fail
      refine HAW.out.mono ?_
      rintro r wa ⟨rfl, hba⟩
      go_wp2_with fail
      refine (HFEW.out _ hba).mono ?_
      rintro r wf ⟨a1, c1, ls1, rfl, HFE⟩
      dsimp only
      have HBF := Lib.hid (hba.trans (HFE.out.1.2.mono hba.size))
      have HCI := Lib.hid (fun W (hW : Below wf.heap.size wf W) => (HFE.out.2.below HFE.out.1.2).below hW)
      have HVR := Lib.hid (fun W (hW : Below wf.heap.size wf W) => VRow.touch (by decide) HFE.out.2.wide (HFE.out.1.1.row HFE.out.2.wide) (touch_of_below (S := fun _ => False) hW) (fun _ _ => id))
      clear HFE hba
      go_wp2_with fail
      refine (HOF.out _ HBF.out _).mono ?_
      rintro r wo ⟨rfl, hbo⟩
      dsimp only
      have HBR := Lib.hid (bel_alloc hbo (.cells #[.int .u32 (n : Int), .int .i64 0] 27))
      have r0 : (wo.alloc (.cells #[.int .u32 (n : Int), .int .i64 0] 27)).cell? ⟨wo.heap.size, 0, none⟩ = some (.int .u32 (n : Int)) := new_cell rfl rfl
      have r1 : (wo.alloc (.cells #[.int .u32 (n : Int), .int .i64 0] 27)).cell? ⟨wo.heap.size, 1, none⟩ = some (.int .i64 0) := new_cell rfl rfl
      clear hbo
      go_wp2_with fail
      generalize wo.heap.size = R at r0 r1 ⊢
      generalize wo.alloc (.cells #[.int .u32 (n : Int), .int .i64 0] 27) = Wr at HBR r0 r1 ⊢
      refine (HWI.out ls1 _ _ _ (HVR.out _ HBR.out) (HCI.out _ HBR.out)).mono ?_
      rintro r ww ⟨rfl, hbw⟩
      dsimp only
      have HBS := Lib.hid (HBR.out.trans ((bel_alloc hbw (.cells #[.int .u32 (n' : Int), .int .i64 e'] 27)).mono HBR.out.size))
      have r0 := alloc_cell ((hbw.cell (block_lt_of_cell r0)).trans r0) (.cells #[.int .u32 (n' : Int), .int .i64 e'] 27)
      have r1 := alloc_cell ((hbw.cell (block_lt_of_cell r1)).trans r1) (.cells #[.int .u32 (n' : Int), .int .i64 e'] 27)
      have s0 : (ww.alloc (.cells #[.int .u32 (n' : Int), .int .i64 e'] 27)).cell? ⟨ww.heap.size, 0, none⟩ = some (.int .u32 (n' : Int)) := new_cell rfl rfl
      have s1 : (ww.alloc (.cells #[.int .u32 (n' : Int), .int .i64 e'] 27)).cell? ⟨ww.heap.size, 1, none⟩ = some (.int .i64 e') := new_cell rfl rfl
      clear hbw HBR
      go_wp2_with fail
      generalize ww.heap.size = S at s0 s1 ⊢
      generalize ww.alloc (.cells #[.int .u32 (n' : Int), .int .i64 e'] 27) = Ws at HBS r0 r1 s0 s1 ⊢
      refine (HDOF.out _ (HBF.out.trans (HBS.out.mono HBF.out.size)) _).mono ?_
      rintro r wd ⟨a2, c2, rfl, HA2, -, hbd⟩
      dsimp only
      have HBD := Lib.hid (HBS.out.trans (hbd.mono HBS.out.size))
      obtain ⟨r0, r1, s0, s1⟩ := keep4i hbd ⟨r0, r1, s0, s1⟩
      clear hbd HBS
      go_wp2_with fail
      refine (HTOLD.out ls1 _ _ _ (HVR.out _ HBD.out) (HCI.out _ HBD.out)).mono ?_
      rintro r wt ⟨a3, c3, rfl, HT3⟩
      dsimp only
      have hbt := HT3.out.2
      have HBT := Lib.hid (HBD.out.trans (hbt.mono HBD.out.size))
      obtain ⟨r0, r1, s0, s1⟩ := keep4i hbt ⟨r0, r1, s0, s1⟩
      have HA2 := Lib.hid (HA2.out.below hbt)
      have HV3 := Lib.hid (HT3.out.1.row (HCI.out _ HBT.out).wide)
      rw [show ls1.length = D by have := (HCI.out _ HBT.out).1; rw [this, HFD.out]]
      clear hbt HBD HT3
      go_wp2_with fail
      refine (HDW.out _ _ ls1 _ _ _ HA2.out HV3.out (HCI.out _ HBT.out)).mono ?_
      rintro r wx ⟨a4, c4, rfl, HA4, -, hbx⟩
      dsimp only
      have HBX := Lib.hid (HBT.out.trans ((bel_alloc hbx (.cells #[.slice a4 LN' c4, .int .i64 e'] 30)).mono HBT.out.size))
      have HMM : Hid (RrM w R S wx.heap.size n n' e' a4 LN' c4 (wx.alloc (.cells #[.slice a4 LN' c4, .int .i64 e'] 30))) := Lib.hid (by
        have hA : Below wx.heap.size wx (wx.alloc (.cells #[.slice a4 LN' c4, .int .i64 e'] 30)) := bel_alloc (Below.refl _ _) _
        have hBW := HBF.out.trans (HBX.out.mono HBF.out.size)
        exact ⟨keep4i hA (keep4i hbx ⟨r0, r1, s0, s1⟩), new_cell rfl rfl, new_cell rfl rfl, HA4.out.below hA, HTAB.out.below hBW, hBW⟩)
      clear hbx HBT HBX HA2 HA4 HV3 r0 r1 s0 s1 HVR HCI HBF
      obtain ⟨⟨r0, r1, s0, s1⟩, x0, x1, -⟩ := HMM.out
      have hR := block_lt_of_cell r0
      have hS := block_lt_of_cell s0
      have hX := block_lt_of_cell x0
      simp only at hR hS hX
      go_wp2_with fail
      generalize wx.heap.size = X at HMM x0 x1 hX ⊢
      generalize wx.alloc (.cells #[.slice a4 LN' c4, .int .i64 e'] 30) = W at HMM r0 r1 s0 s1 x0 x1 hR hS hX ⊢
      refine (HIS.out _ _ _ HMM.out.row HMM.out.tab).mono ?_
      rintro r w1 ⟨rfl, hb1⟩
      dsimp only
      have HM1 := Lib.hid (HMM.out.keep hb1)
      clear HMM hb1 r0 r1 s0 s1 x0 x1 hR hS hX
      obtain ⟨⟨r0, r1, s0, s1⟩, x0, x1, -⟩ := HM1.out
      have hR := block_lt_of_cell r0
      have hS := block_lt_of_cell s0
      simp only at hR hS
      rcases HQ.out with ⟨h9, hn2, he2⟩ | ⟨h9, hz0, he2, hn2⟩
      · first
        | (exfalso; cases h9; done)
        | (have hss : ((n' == n) && (e' == 0)) = true := by rw [hn2, he2]; simp
           simp only [hss] at HSSR
           clear hss hn2 he2
           go_wp2_with (go_at_call 20; refine (HSSR.out _).mono ?_; rintro r w2 ⟨rfl, hb2⟩; have HM2 := Lib.hid (HM1.out.keep hb2); clear hb2)
           go_ret
           exact ⟨rfl, HM2.out.bel⟩)
      · first
        | (exfalso; cases h9; done)
        | (subst hz0
           have hep : ((e' : Int) == (D : Int)) = true := by rw [he2]; simp
           obtain ⟨q2, hq2, hq3⟩ : ∃ q2 : Bool, ((n' == n) && (e' == 0)) = q2 ∧ ((D : Int) == 0) = q2 := by
             by_cases h9 : D = 0
             · exact ⟨true, by rw [he2, hn2 h9, h9]; simp, by rw [h9]; rfl⟩
             · exact ⟨false, by rw [he2]; simp; intro _; omega, by rw [beq_eq_false_iff_ne]; omega⟩
           simp only [hq2] at HSSR
           have HHH := Lib.hid (And.intro he2 hn2)
           clear he2 hn2 hq2
           go_wp2_with fail
           refine (HEPO.out _).mono ?_
           rintro r w2 ⟨rfl, hb2⟩
           have HM2 := Lib.hid (HM1.out.keep hb2)
           clear hb2 r0 r1 s0 s1 x0 x1 hR hS HM1
           obtain ⟨⟨r0, r1, s0, s1⟩, x0, x1, -⟩ := HM2.out
           have hR := block_lt_of_cell r0
           have hS := block_lt_of_cell s0
           simp only at hR hS
           go_wp2_with fail
           refine (HSSS.out _).mono ?_
           rintro r w3 ⟨rfl, hb3⟩
           have HM3 := Lib.hid (HM2.out.keep hb3)
           clear hb3 r0 r1 s0 s1 x0 x1 hR hS HM2
           obtain ⟨⟨r0, r1, s0, s1⟩, x0, x1, -⟩ := HM3.out
           have hR := block_lt_of_cell r0
           have hS := block_lt_of_cell s0
           simp only at hR hS
           go_wp2_with fail
           refine (HSSR.out _).mono ?_
           rintro r w4 ⟨rfl, hb4⟩
           have HM4 := Lib.hid (HM3.out.keep hb4)
           clear hb4
           cases q2
           all_goals
             go_wp2
             go_ret
             exact ⟨by first | rfl | simp, HM4.out.bel⟩)
end Go.Proofs.YtclecalhbmpipaaDoor
