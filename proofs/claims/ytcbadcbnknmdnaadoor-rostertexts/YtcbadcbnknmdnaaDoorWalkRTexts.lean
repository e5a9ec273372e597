/-
  The walk of the law RosterTexts.
-/
import Derived.Test.YtcbadcbnknmdnaaDoorRosT10
import Derived.Test.YtcbadcbnknmdnaaDoorWalkRReads
namespace Go.Proofs.YtcbadcbnknmdnaaDoor
open Go.RowKit
set_option linter.unusedVariables false

theorem end_done (b : Nat) (w : World) (h : InSt w b ([], 0)) : Calls Tryd.prog 15 #[.pointer (some ⟨b, 0, none⟩)] w fun r w' => r = .returned (.int .i64 0) ∧ w = w' := by
  obtain ⟨h0, h1, h2, h3, -⟩ := h
  have h0' : w.cell? ⟨b, 0, none⟩ = some (.string ⟨#[]⟩) := h0
  have h1' : w.cell? ⟨b, 1, none⟩ = some (.int .i64 0) := h1
  clear h0 h1
  go_enter Tryd.func15, Tryd.ntmps15
  go_wp2
  go_ret
  exact ⟨rfl, rfl⟩
/-- The roster's box is behind a change, the document's not yet. -/
structure Rp2 (w : World) (R X n2 : Nat) (e2 : Int) (n : Nat) (e : Int) (a : Option Addr) (c : Nat) (W : World) : Prop where
  r : W.cell? ⟨R, 0, none⟩ = some (.int .u32 (n2 : Int)) ∧ W.cell? ⟨R, 1, none⟩ = some (.int .i64 e2) ∧ W.cell? ⟨X, 0, none⟩ = some (.slice a (lenP n) c) ∧ W.cell? ⟨X, 1, none⟩ = some (.int .i64 e)
  fr : ∀ b j, b = R ∨ b = X → W.frozen? ⟨b, j, none⟩ = false
  row : ActL W (.slice a (lenP n) c) (lstP n)
  off : ∀ x, a = some x → 0 < (lstP n).length → x.block ≠ R ∧ x.block ≠ X
  ne : R ≠ X
  le : w.heap.size ≤ R ∧ w.heap.size ≤ X
  bel : Below w.heap.size w W
theorem Rp2.lt {w : World} {R X n2 n : Nat} {e2 e : Int} {a : Option Addr} {c : Nat} {W : World} (h : Rp2 w R X n2 e2 n e a c W) : R < W.heap.size ∧ X < W.heap.size := ⟨block_lt_of_cell h.r.1, block_lt_of_cell h.r.2.2.1⟩
theorem Rp2.keep {w : World} {R X n2 n : Nat} {e2 e : Int} {a : Option Addr} {c : Nat} {W W' : World} (h : Rp2 w R X n2 e2 n e a c W) (hb : Below W.heap.size W W') : Rp2 w R X n2 e2 n e a c W' :=
  ⟨keep4i hb h.r, fun b j hbb => (hb.frozen (p := ⟨b, j, none⟩) (by have := h.lt; rcases hbb with rfl | rfl <;> simp only <;> omega)).trans (h.fr b j hbb), h.row.below hb, h.off, h.ne, h.le, h.bel.trans (hb.mono h.bel.size)⟩
theorem RpL.setR {w : World} {R X n : Nat} {e : Int} {a : Option Addr} {c : Nat} {W : World} (h : RpL w R X n e a c W) (n2 : Nat) (e2 : Int) : Rp2 w R X n2 e2 n e a c ((W.setCell ⟨R, 0, none⟩ (.int .u32 (n2 : Int))).setCell ⟨R, 1, none⟩ (.int .i64 e2)) := by
  have hne := h.ne
  obtain ⟨q0, q1, q2, q3⟩ := h.r
  refine ⟨⟨?_, ?_, ?_, ?_⟩, fun b j hbb => by simp only [World.frozen?_setCell]; exact h.fr b j hbb, act_set h.row (fun x hx h9 => (h.off x hx h9).1) _ _, h.off, hne, h.le, (h.bel.setCell (p := ⟨R, 0, none⟩) h.le.1 _).setCell (p := ⟨R, 1, none⟩) h.le.1 _⟩
  · rw [World.cell?_setCell_other _ _ _ _ (by simp)]
    exact World.cell?_setCell_same' _ _ _ (by rw [q0]; rfl)
  · exact World.cell?_setCell_same' _ _ _ (by rw [World.cell?_setCell_other _ _ _ _ (by simp), q1]; rfl)
  · rw [World.cell?_setCell_other _ _ _ _ (by first | (simp; done) | (simp; omega)), World.cell?_setCell_other _ _ _ _ (by first | (simp; done) | (simp; omega)), q2]
  · rw [World.cell?_setCell_other _ _ _ _ (by first | (simp; done) | (simp; omega)), World.cell?_setCell_other _ _ _ _ (by first | (simp; done) | (simp; omega)), q3]
theorem Rp2.setX {w : World} {R X n2 n : Nat} {e2 e : Int} {a : Option Addr} {c : Nat} {W : World} (h : Rp2 w R X n2 e2 n e a c W) (a2 : Option Addr) (c2 : Nat) (hrow : ActL W (.slice a2 (lenP n2) c2) (lstP n2)) (ho : ∀ x, a2 = some x → 0 < (lstP n2).length → x.block ≠ R ∧ x.block ≠ X) : RpL w R X n2 e2 a2 c2 ((W.setCell ⟨X, 0, none⟩ (.slice a2 (lenP n2) c2)).setCell ⟨X, 1, none⟩ (.int .i64 e2)) := by
  have hne := h.ne
  obtain ⟨q0, q1, q2, q3⟩ := h.r
  refine ⟨⟨?_, ?_, ?_, ?_⟩, fun b j hbb => by simp only [World.frozen?_setCell]; exact h.fr b j hbb, act_set hrow (fun x hx h9 => (ho x hx h9).2) _ _, ho, hne, h.le, (h.bel.setCell (p := ⟨X, 0, none⟩) h.le.2 _).setCell (p := ⟨X, 1, none⟩) h.le.2 _⟩
  · rw [World.cell?_setCell_other _ _ _ _ (by first | (simp; done) | (simp; omega)), World.cell?_setCell_other _ _ _ _ (by first | (simp; done) | (simp; omega)), q0]
  · rw [World.cell?_setCell_other _ _ _ _ (by first | (simp; done) | (simp; omega)), World.cell?_setCell_other _ _ _ _ (by first | (simp; done) | (simp; omega)), q1]
  · rw [World.cell?_setCell_other _ _ _ _ (by simp)]
    exact World.cell?_setCell_same' _ _ _ (by rw [q2]; rfl)
  · exact World.cell?_setCell_same' _ _ _ (by rw [World.cell?_setCell_other _ _ _ _ (by simp), q3]; rfl)
theorem touch_r {S : Nat → Prop} {w W : World} (h : Touch S w W) {R : Nat} (hS : S R) (u v : Value) : Touch S w ((W.setCell ⟨R, 0, none⟩ u).setCell ⟨R, 1, none⟩ v) :=
  (h.setCell (p := ⟨R, 0, none⟩) (fun _ => hS) _).setCell (p := ⟨R, 1, none⟩) (fun _ => hS) _
/-- A round's memory: the boxes of both rosters, the change, what was put, what is read, the change again. -/
structure RtC (w : World) (R X C O B D n : Nat) (e : Int) (a : Option Addr) (c : Nat) (k p : Int) (av : Option Addr) (cv : Nat) (ad : Option Addr) (cd : Nat) (NV : Nat) (V : List Int) (t : List UInt8) (W : World) : Prop where
  l : RpL w R X n e a c W
  g : W.cell? ⟨C, 0, none⟩ = some (.int .i64 k) ∧ W.cell? ⟨C, 1, none⟩ = some (.int .i64 p) ∧ W.cell? ⟨C, 2, none⟩ = some (.slice av NV cv)
  d : W.cell? ⟨D, 0, none⟩ = some (.int .i64 k) ∧ W.cell? ⟨D, 1, none⟩ = some (.int .i64 p) ∧ W.cell? ⟨D, 2, none⟩ = some (.slice ad NV cd)
  o : OutQ (fun _ => False) O t W
  into : InSt W B ([], 0)
  vot : IntRow .i64 W av V
  vd : IntRow .i64 W ad V
theorem RtC.keep {w : World} {R X C O B D n : Nat} {e : Int} {a : Option Addr} {c : Nat} {k p : Int} {av : Option Addr} {cv : Nat} {ad : Option Addr} {cd : Nat} {NV : Nat} {V : List Int} {t : List UInt8} {W W' : World} (h : RtC w R X C O B D n e a c k p av cv ad cd NV V t W) (hb : Below W.heap.size W W') : RtC w R X C O B D n e a c k p av cv ad cd NV V t W' :=
  ⟨h.l.keep hb, keep3r hb h.g, keep3r hb h.d, h.o.below hb, h.into.below hb, h.vot.below hb, h.vd.below hb⟩
/-- The memory at the end. -/
structure RtZ (w : World) (R X O B S n : Nat) (e : Int) (a : Option Addr) (c : Nat) (t : List UInt8) (W : World) : Prop where
  l : RpL w R X n e a c W
  s : W.cell? ⟨S, 0, none⟩ = some (.int .u32 (n : Int)) ∧ W.cell? ⟨S, 1, none⟩ = some (.int .i64 e)
  o : OutQ (fun _ => False) O t W
  into : InSt W B ([], 0)
  tab : DbAt W
theorem RtZ.keep {w : World} {R X O B S n : Nat} {e : Int} {a : Option Addr} {c : Nat} {t : List UInt8} {W W' : World} (h : RtZ w R X O B S n e a c t W) (hb : Below W.heap.size W W') : RtZ w R X O B S n e a c t W' :=
  ⟨h.l.keep hb, ⟨(hb.cell (block_lt_of_cell h.s.1)).trans h.s.1, (hb.cell (block_lt_of_cell h.s.2)).trans h.s.2⟩, h.o.below hb, h.into.below hb, h.tab.below hb⟩
set_option maxRecDepth 100000 in
set_option maxHeartbeats 40000000 in
theorem rosterTexts_walk (w : World) (a : Option Addr) (len cap : Nat) (ns : List Int) (h : NumArg .i64 w a len cap ns) (b : Option Addr) (len1 cap1 : Nat) (ls : List (List Value)) (h1 : ValArg 3 (chR w) w b len1 cap1 ls) (hT : DbAt w) : Calls Tryd.prog 3 #[.slice a len cap, .slice b len1 cap1] w fun r w' => r = .returned (.bool true) ∧ Below w.heap.size w w' := by
  have hc1 : len ≤ cap := h.2.2.1
  have hc2 : cap ≤ maxLen := h.2.2.2.1
  unfold maxLen at hc2
  obtain ⟨l, hl, hrow, hlen⟩ := arg40p h
  clear h
  obtain ⟨rfl, hcap1, hcap2, hvrow, hper⟩ := h1
  obtain ⟨m, hcis, -⟩ := ChIs.of hper
  have hlm := hcis.1
  have HAW := Lib.hid (awake18_any w)
  have HFEW := Lib.hid (fun W (hW : Below w.heap.size w W) => few18_any b cap1 ls m w W (VRow.touch (by decide) hcis.wide hvrow (touch_of_below (S := fun _ => False) hW) (fun _ _ => id)) hcis (by omega) ls.length hlm.symm)
  have HOF := Lib.hid (fun W (hW : Below w.heap.size w W) c => rof_any a c l W (hrow.below hW) (by omega))
  have HDOF := Lib.hid (fun W (hW : Below w.heap.size w W) c => dof_any a c l W (hrow.below hW) (by omega) l.length rfl)
  have HSMALL := Lib.hid (fewC_small m)
  have HN := Lib.hid (ofP_lt l)
  have HTAB := Lib.hid hT
  clear hrow hvrow hper hcis hlm hT
  unfold FewPost18 at HFEW
  generalize fewC m = F at HFEW HSMALL
  unfold rosV at HOF
  unfold DocNew at HDOF
  generalize ofP l = n at HOF HDOF HN
  simp only [show (lstP n).length = lenP n from rfl] at HDOF
  unfold docV at HDOF
  have hd10 := HSMALL.out.2
  rcases hlen with ⟨hlen, hlen2⟩ | ⟨hlen, hlen2⟩
  all_goals
    rw [hlen2] at HOF HDOF
    have hlc : ((len : Nat) : Int) ≤ 40 ∨ (40 : Int) < ((len : Nat) : Int) := by omega
    go_enter Tryd.func3, Tryd.ntmps3
    go_wp2_with fail
    refine HAW.out.mono ?_
    rintro r wa ⟨rfl, hba⟩
    go_wp2_with fail
    refine (HOF.out _ hba _).mono ?_
    rintro r wo ⟨rfl, hbo⟩
    dsimp only
    have HBO := Lib.hid (hba.trans (hbo.mono hba.size))
    clear hba hbo
    go_wp2_with fail
    refine (HDOF.out _ HBO.out _).mono ?_
    rintro r wd ⟨a2, c2, rfl, HA2, -, hbd⟩
    dsimp only
    have HBD := Lib.hid (HBO.out.trans (hbd.mono HBO.out.size))
    clear hbd HBO
    have HMM : Hid (RpL w wd.heap.size (wd.heap.size + 1) n 0 a2 c2 ((wd.alloc (.cells #[.int .u32 (n : Int), .int .i64 0] 27)).alloc (.cells #[.slice a2 (lenP n) c2, .int .i64 0] 30))) := Lib.hid (by
      have e1 : (wd.alloc (.cells #[.int .u32 (n : Int), .int .i64 0] 27)).heap.size = wd.heap.size + 1 := by simp
      have hA : Below wd.heap.size wd ((wd.alloc (.cells #[.int .u32 (n : Int), .int .i64 0] 27)).alloc (.cells #[.slice a2 (lenP n) c2, .int .i64 0] 30)) := bel_alloc (bel_alloc (Below.refl _ _) _) _
      have hs := HBD.out.size
      refine ⟨⟨alloc_cell (new_cell rfl rfl) _, alloc_cell (new_cell rfl rfl) _, new_cell e1.symm rfl, new_cell e1.symm rfl⟩, fun b j hbb => ?_, HA2.out.below hA, fun x hx h9 => ?_, by omega, ⟨hs, by omega⟩, HBD.out.trans (hA.mono hs)⟩
      · rcases hbb with rfl | rfl
        · rw [frozen_old _ _ ⟨wd.heap.size, j, none⟩ (by simp)]
          exact frozen_new _ _ _ _
        · rw [← e1]; exact frozen_new _ _ _ _
      · have := act_lt HA2.out x hx h9
        omega)
    clear HA2 HBD
    obtain ⟨r0, r1, x0, x1⟩ := HMM.out.r
    obtain ⟨hR, hX⟩ := HMM.out.lt
    go_wp2_with fail
    generalize (wd.alloc (.cells #[.int .u32 (n : Int), .int .i64 0] 27)).alloc (.cells #[.slice a2 (lenP n) c2, .int .i64 0] 30) = W at HMM r0 r1 x0 x1 hR hX ⊢
    generalize wd.heap.size + 1 = X at HMM x0 x1 hX ⊢
    generalize wd.heap.size = R at HMM r0 r1 hR ⊢
    clear r0 r1 x0 x1 hR hX
    refine (HFEW.out _ HMM.out.bel).mono ?_
    rintro r wf ⟨a1, c1, ls1, rfl, HFE⟩
    dsimp only
    have HMF := Lib.hid (HMM.out.keep HFE.out.1.2)
    have hlt1 := HMM.out.lt
    have HCI := Lib.hid HFE.out.2
    have HVR := Lib.hid (fun W (hW : Touch (fun b => b = R ∨ b = X) wf W) => VRow.touch (by decide) HFE.out.2.wide (HFE.out.1.1.row HFE.out.2.wide) hW (fun x hx h9 => by have := HFE.out.1.1.2 x hx; omega))
    clear HFE HMM hlt1
    go_wp2
    generalize hD : F.length = D at hd10
    have HD := Lib.hid hD
    clear hD HOF HDOF HAW HFEW
    (try simp only [show decide ((40 : Int) < (len : Int)) = true from decide_eq_true (by omega)])
    go_loopw [29] (fun i wr => ∃ (k n : Nat) (e : Int) (a : Option Addr) (c : Nat), k ≤ D ∧ i = .int .i64 k ∧ Hid (n < 4294967296 ∧ 0 ≤ e ∧ e ≤ k ∧ RpL w R X n e a c wr ∧ Touch (fun b => b = R ∨ b = X) wf wr)) (fun i _ => D - (intOf i).toNat)
    case atStart => exact ⟨0, n, 0, a2, c2, by omega, rfl, Lib.hid ⟨HN.out, by omega, by omega, HMF.out, Touch.refl _ _⟩⟩
    case round =>
      clear HN HMF
      obtain ⟨k, n, e, a, c, hk, rfl, HM⟩ := hrel
      have hi0 : (0 : Int) ≤ (k : Int) := by omega
      have HL := Lib.hid HM.out.2.2.2.1
      have HN := Lib.hid HM.out.1
      have HE : Hid (0 ≤ e ∧ e ≤ k) := Lib.hid ⟨HM.out.2.1, HM.out.2.2.1⟩
      have HTW := Lib.hid HM.out.2.2.2.2
      have HBW := Lib.hid (Below.refl wr.heap.size wr)
      clear HM
      obtain ⟨r0, r1, x0, x1⟩ := HL.out.r
      obtain ⟨hR, hX⟩ := HL.out.lt
      by_cases hlt : k < D
      · have hi1 : (k : Int) < (D : Int) := by omega
        have hkF : k < F.length := by have := HD.out; omega
        obtain ⟨b', off, av, cv, rfl, hb, c0, c1', c2', hact, -⟩ := ch_at (HVR.out _ HTW.out) HCI.out hkF
        have HSV := Lib.hid (HSMALL.out.1.2 _ (List.getElem_mem hkF))
        generalize F[k] = q at c0 c1' c2' hact HSV
        obtain ⟨q0, q1, q2⟩ := q
        simp only at c0 c1' c2' hact HSV
        obtain ⟨hvr, hvn⟩ := act_row rfl hact
        have HACT := Lib.hid (fun W (hW : Below w.heap.size w W) => hact.below hW)
        have HVOT := Lib.hid (fun W (hW : Below w.heap.size w W) => hvr.below hW)
        have HCI1 := Lib.hid (fun W (hW : Below w.heap.size w W) => show ChIs W [[.int .i64 q0, .int .i64 q1, .slice av q2.length cv]] [⟨q0, q1, q2⟩] from ⟨rfl, fun i h1 h2 => by
          obtain rfl : i = 0 := by simpa using h1
          exact ⟨av, cv, rfl, HACT.out W hW⟩⟩)
        have hsm : ChSmall [⟨q0, q1, q2⟩] := ⟨by simp, fun c hc => by simp only [List.mem_singleton] at hc; subst hc; exact HSV.out⟩
        have HCK := Lib.hid (fun W (hW : Below w.heap.size w W) => rcheck_any n e q0 q1 av cv q2 W HN.out (HVOT.out W hW) HSV.out)
        unfold ChkPost at HCK
        unfold rosV chV at HCK
        have hA : Below wr.heap.size wr (wr.alloc (.cells #[.int .i64 q0, .int .i64 q1, .slice av q2.length cv] 34)) := bel_alloc (Below.refl _ _) _
        by_cases hz : chk n ⟨q0, q1, q2⟩ = 0
        · obtain ⟨hdom, -⟩ := chk_dom hz
          have HDOM := Lib.hid hdom
          obtain ⟨n2, e2, hwp, hn2, he2, he2', hdrop⟩ := withP_one n e ⟨q0, q1, q2⟩ HN.out HE.out.1
          rw [hz] at hwp HCK
          have HN2 := Lib.hid hn2
          have HE2 : Hid (0 ≤ e2 ∧ e2 ≤ ((k + 1 : Nat) : Int)) := Lib.hid ⟨he2, by have := HE.out.2; omega⟩
          have HWI := Lib.hid (fun (a1 : Option Addr) (W : World) (hr : VRow 3 W a1 [[.int .i64 q0, .int .i64 q1, .slice av q2.length cv]]) (hi : ChIs W [[.int .i64 q0, .int .i64 q1, .slice av q2.length cv]] [⟨q0, q1, q2⟩]) => rwith_any n e a1 1 _ [⟨q0, q1, q2⟩] W HN.out (by have := HE.out; omega) hr hi hsm 1 rfl)
          have HDW := Lib.hid (fun (a1 : Option Addr) (W : World) (h0 : ActL W (.slice a (lenP n) c) (lstP n)) (hr : VRow 3 W a1 [[.int .i64 q0, .int .i64 q1, .slice av q2.length cv]]) (hi : ChIs W [[.int .i64 q0, .int .i64 q1, .slice av q2.length cv]] [⟨q0, q1, q2⟩]) => dwith_any n e a c a1 1 _ [⟨q0, q1, q2⟩] W (by have := HE.out; omega) h0 hr hi hsm 1 rfl)
          unfold WithPost at HWI
          unfold DwPost at HDW
          rw [hwp] at HWI HDW
          simp only at HWI HDW
          unfold rosV at HWI
          unfold docV at HDW
          have HPUT := Lib.hid (fun (O : Nat) (W : World) (h0 : OutQ (fun k => k < O) O [] W) (hv : IntRow .i64 W av q2) (ha : 0 < q2.length → ∀ x, av = some x → x.block < O) => chPut_any (fun k => k < O) O [] q0 q1 av cv q2 W h0 hv ha HDOM.out (by simp) q2.length rfl)
          have HRC := Lib.hid (fun B W (hW : InSt W B (chgB ⟨q0, q1, q2⟩, 0)) => rreadChange_any B (chgB ⟨q0, q1, q2⟩, 0) W hW)
          have hbk := chgC.back ⟨q0, q1, q2⟩ [] HDOM.out
          rw [List.append_nil] at hbk
          unfold RcPost at HRC
          rw [hbk] at HRC
          rw [show chgT (((([] : List UInt8), 0), (⟨q0, q1, q2⟩ : Chg)) : St × Chg) = ⟨q0, q1, q2⟩ from rfl] at HRC
          have HTX := Lib.hid (fun (W : World) (hv : IntRow .i64 W av q2) => refTextChange_any q0 q1 av cv q2 W hv HDOM.out q2.length rfl)
          have HCL := Lib.hid (chgB_len HDOM.out)
          have HSA := Lib.hid (fun a b c d W (h1 : IntRow .i64 W a q2) (h2 : IntRow .i64 W b q2) => same18_any a b c d q2 W h1 h2 q2.length rfl HSV.out)
          unfold PutPost at HPUT
          simp only [List.nil_append] at HPUT
          unfold chV at HPUT HRC HTX
          simp only at HRC
          generalize chgB ⟨q0, q1, q2⟩ = T at HPUT HRC HTX HCL
          clear hwp hact hvr hvn hkF hn2 he2 he2' hsm hdrop hdom hbk hz
          have hzb : ((0 : Int) == 0) = true := rfl
          go_wp2_with fail
          refine (HCK.out _ (HL.out.bel.trans (hA.mono HL.out.bel.size))).mono ?_
          rintro r w2 ⟨rfl, hb2⟩
          dsimp only
          have HG := Lib.hid (keep3r hb2 (show (wr.alloc (.cells #[.int .i64 q0, .int .i64 q1, .slice av q2.length cv] 34)).cell? ⟨wr.heap.size, 0, none⟩ = some (.int .i64 q0) ∧ (wr.alloc (.cells #[.int .i64 q0, .int .i64 q1, .slice av q2.length cv] 34)).cell? ⟨wr.heap.size, 1, none⟩ = some (.int .i64 q1) ∧ (wr.alloc (.cells #[.int .i64 q0, .int .i64 q1, .slice av q2.length cv] 34)).cell? ⟨wr.heap.size, 2, none⟩ = some (.slice av q2.length cv) from ⟨new_cell rfl rfl, new_cell rfl rfl, new_cell rfl rfl⟩))
          have hb2' := hA.trans (hb2.mono hA.size)
          have HL := Lib.hid (HL.out.keep hb2')
          have HBW := Lib.hid (HBW.out.trans (hb2'.mono HBW.out.size))
          clear hb2 hb2' hA r0 r1 x0 x1 hR hX c0 c1' c2' HCK
          generalize wr.heap.size = C at HG ⊢
          have hA : Below w2.heap.size w2 (w2.alloc (.cells #[.slice none 0 0] 39)) := bel_alloc (Below.refl _ _) _
          have HO := Lib.hid (OutQ.start (K := fun k => k < w2.heap.size) w2 39 (fun k hk => hk))
          have HVL := Lib.hid (fun (h0 : 0 < q2.length) x (hx : av = some x) => show x.block < w2.heap.size by
            obtain ⟨g, off', e', hc⟩ := HVOT.out w2 HL.out.bel h0
            rw [e'] at hx
            cases hx
            exact block_lt_of_cell (hc 0 h0))
          have g0 := (keep3r hA HG.out).1
          have g1 := (keep3r hA HG.out).2.1
          have g2 := (keep3r hA HG.out).2.2
          have HVW := Lib.hid (HVOT.out _ (HL.out.bel.trans (hA.mono HL.out.bel.size)))
          have hC := block_lt_of_cell g0
          simp only at hC
          go_wp2_with fail
          refine (HPUT.out _ _ HO.out HVW.out HVL.out).mono ?_
          rintro r w3 ⟨rfl, ho3, ht3⟩
          dsimp only
          have HB3 := Lib.hid (hA.trans (ht3.below (by simp) (fun k hk h => h hk)))
          have HL := Lib.hid (HL.out.keep HB3.out)
          have HG := Lib.hid (keep3r HB3.out HG.out)
          have HBW := Lib.hid (HBW.out.trans (HB3.out.mono HBW.out.size))
          have HO := Lib.hid (ho3.sub (K := fun _ => False) (fun k h => h.elim))
          clear ho3 ht3 HPUT HVL HVW hA g0 g1 g2 hC HB3
          generalize w2.heap.size = O at HO ⊢
          have hOl := HO.out.lt
          go_wp2_with fail
          refine (outText_q HO.out).mono ?_
          rintro r w3' ⟨rfl, rfl⟩
          go_wp2_with fail
          refine (open_any (bs T) _ (by rw [bs_size]; have := HCL.out; omega)).mono ?_
          rintro r w4 ⟨rfl, hi4, hb4⟩
          rw [bs_list] at hi4
          have HI4 := Lib.hid hi4
          have HB4 := Lib.hid hb4
          clear hi4 hb4 hOl
          go_wp2_with fail
          refine (HRC.out _ _ HI4.out).mono ?_
          rintro r w5 ⟨ad, cd, rfl, hi5, h5⟩
          dsimp only
          have HB5 := Lib.hid (HB4.out.trans (hi5.2.below HB4.out.size (fun k hk e => by omega)))
          have HI5 := Lib.hid hi5.1
          have HV5 := Lib.hid (act_row rfl h5.out.1).1
          clear hi5 h5 HRC HI4 HB4
          generalize w3.heap.size = B at HI5 ⊢
          have HC : Hid (RtC w R X C O B w5.heap.size n e a c q0 q1 av cv ad cd q2.length q2 T (w5.alloc (.cells #[.int .i64 q0, .int .i64 q1, .slice ad q2.length cd] 34))) := Lib.hid (by
            have hA5 : Below w5.heap.size w5 (w5.alloc (.cells #[.int .i64 q0, .int .i64 q1, .slice ad q2.length cd] 34)) := bel_alloc (Below.refl _ _) _
            have hA3 := HB5.out.trans (hA5.mono HB5.out.size)
            have hl := HL.out.keep hA3
            exact ⟨hl, keep3r hA3 HG.out, ⟨new_cell rfl rfl, new_cell rfl rfl, new_cell rfl rfl⟩, HO.out.below hA3, HI5.out.below hA5, HVOT.out _ hl.bel, HV5.out.below hA5⟩)
          have HBW := Lib.hid (HBW.out.trans ((HB5.out.trans ((bel_alloc (Below.refl _ w5) (.cells #[.int .i64 q0, .int .i64 q1, .slice ad q2.length cd] 34)).mono HB5.out.size)).mono HBW.out.size))
          clear HB5 HI5 HV5 HO HG HL
          go_upto_region 14 with (fail)
          generalize w5.alloc (.cells #[.int .i64 q0, .int .i64 q1, .slice ad q2.length cd] 34) = W5 at HC HBW ⊢
          generalize w5.heap.size = DD at HC ⊢
          · refine wp_region_c18 (C := fun W => Both2 (RtC w R X C O B DD n e a c q0 q1 av cv ad cd q2.length q2 T W) (Below wr.heap.size wr W)) (by kernel_rfl) (by kernel_rfl) ⟨HC.out.keep (Below.refl _ _).drew, HBW.out.drew⟩ ?_
            repeat
              (refine wpQuiet_step (fun K hK => ?_)
               go_simp
               first
                 | (refine hK _ ?_; clear hK K)
                 | (apply Exists.intro
                    refine ⟨fun W hW => ?_, hK _ ?_⟩
                    (first
                      | (go_at_call 12; exact (outText_q hW.1.o).mono fun r W' h => ⟨h.1, by have h2 := h.2; subst h2; exact hW⟩)
                      | (go_at_call 15; exact (end_done _ W hW.1.into).mono fun r W' h => ⟨h.1, by have h2 := h.2; subst h2; exact hW⟩)
                      | (go_at_call 14; exact (HTX.out W hW.1.vot).mono fun r W' h => ⟨h.1, hW.1.keep h.2, hW.2.trans (h.2.mono hW.2.size)⟩)
                      | (go_at_call 16; exact (HSA.out _ _ _ _ W hW.1.vd hW.1.vot).mono fun r W' h => ⟨h.1, hW.1.keep h.2, hW.2.trans (h.2.mono hW.2.size)⟩)
                      | (have y0 := hW.1.g.1; have y1 := hW.1.g.2.1; have y2 := hW.1.g.2.2; have y3 := hW.1.d.1; have y4 := hW.1.d.2.1; have y5 := hW.1.d.2.2; clear hW; go_simp; first | exact ⟨rfl, rfl⟩ | exact rfl | trivial))
                    clear hK K))
            refine wpQuiet_nil ?_
            intro W6 hW6
            have HL := Lib.hid hW6.1.l
            have HG := Lib.hid hW6.1.g
            have HBW := Lib.hid hW6.2
            clear hW6 HC HTX HSA
            obtain ⟨r0, r1, x0, x1⟩ := HL.out.r
            obtain ⟨hR, hX⟩ := HL.out.lt
            have f0 := HL.out.fr R 0 (.inl rfl)
            have f1 := HL.out.fr R 1 (.inl rfl)
            have g0 := HG.out.1
            have g1 := HG.out.2.1
            have g2 := HG.out.2.2
            have hC := block_lt_of_cell g0
            simp only at hC
            have hA : Below W6.heap.size W6 (W6.alloc (.cells #[.int .i64 q0, .int .i64 q1, .slice av q2.length cv] 34)) := bel_alloc (Below.refl _ _) _
            go_wp2_with fail
            refine (HWI.out _ _ (vrow_new18 _ _ 3 [[.int .i64 q0, .int .i64 q1, .slice av q2.length cv]] (HCI1.out _ HL.out.bel).wide _ rfl _ rfl) (HCI1.out _ (HL.out.bel.trans (hA.mono HL.out.bel.size)))).mono ?_
            rintro r w7 ⟨rfl, hb7⟩
            dsimp only
            have hb7' := hA.trans (hb7.mono hA.size)
            have HL7 := Lib.hid (HL.out.keep hb7')
            have HG7 := Lib.hid (keep3r hb7' HG.out)
            have HT7 := Lib.hid (touch_of_below (S := fun b => b = R ∨ b = X) (HBW.out.trans (hb7'.mono HBW.out.size)))
            clear hb7 hb7' hA r0 r1 x0 x1 hR hX hC g0 g1 g2 f0 f1 HWI HL HG HBW
            obtain ⟨r0, r1, x0, x1⟩ := HL7.out.r
            obtain ⟨hR, hX⟩ := HL7.out.lt
            have f0 := HL7.out.fr R 0 (.inl rfl)
            have f1 := HL7.out.fr R 1 (.inl rfl)
            have hne := HL7.out.ne
            have hne' : ¬ X = R := fun h => hne h.symm
            have HM := Lib.hid (HL7.out.setR n2 e2)
            have HT8 := Lib.hid (touch_r HT7.out (.inl rfl) (.int .u32 (n2 : Int)) (.int .i64 e2))
            have HG8 : Hid (((w7.setCell ⟨R, 0, none⟩ (.int .u32 (n2 : Int))).setCell ⟨R, 1, none⟩ (.int .i64 e2)).cell? ⟨C, 0, none⟩ = some (.int .i64 q0) ∧ ((w7.setCell ⟨R, 0, none⟩ (.int .u32 (n2 : Int))).setCell ⟨R, 1, none⟩ (.int .i64 e2)).cell? ⟨C, 1, none⟩ = some (.int .i64 q1) ∧ ((w7.setCell ⟨R, 0, none⟩ (.int .u32 (n2 : Int))).setCell ⟨R, 1, none⟩ (.int .i64 e2)).cell? ⟨C, 2, none⟩ = some (.slice av q2.length cv)) := Lib.hid (by
              have ht := touch_r (Touch.refl (fun b => b = R) w7) (R := R) rfl (.int .u32 (n2 : Int)) (.int .i64 e2)
              have hcr : C ≠ R := fun h => by subst h; have h1 := HG7.out.1; rw [r0] at h1; cases h1
              obtain ⟨h1, h2, h3⟩ := HG7.out
              exact ⟨(ht.cell (p := ⟨C, 0, none⟩) (block_lt_of_cell h1) hcr).trans h1, (ht.cell (p := ⟨C, 1, none⟩) (block_lt_of_cell h2) hcr).trans h2, (ht.cell (p := ⟨C, 2, none⟩) (block_lt_of_cell h3) hcr).trans h3⟩)
            have hcr : ¬ C = R := fun h => by subst h; have h1 := HG7.out.1; rw [r0] at h1; cases h1
            have hcr' : ¬ R = C := fun h => hcr h.symm
            have g0 := HG7.out.1
            have g1 := HG7.out.2.1
            have g2 := HG7.out.2.2
            have hCz := block_lt_of_cell g0
            simp only at hCz
            have HW8S : Hid (((w7.setCell ⟨R, 0, none⟩ (.int .u32 (n2 : Int))).setCell ⟨R, 1, none⟩ (.int .i64 e2)).heap.size = w7.heap.size) := Lib.hid (by simp)
            clear HL7 HG7 HT7
            go_wp2_with fail
            clear r0 r1 x0 x1 hR hX f0 f1 hne hne' g0 g1 g2 hcr hcr' hCz
            generalize (w7.setCell ⟨R, 0, none⟩ (.int .u32 (n2 : Int))).setCell ⟨R, 1, none⟩ (.int .i64 e2) = W8 at HM HT8 HG8 HW8S ⊢
            have hA : Below W8.heap.size W8 (W8.alloc (.cells #[.int .i64 q0, .int .i64 q1, .slice av q2.length cv] 47)) := bel_alloc (Below.refl _ _) _
            refine (HDW.out _ _ (HM.out.row.below hA) (vrow_new18 W8 _ 3 [[.int .i64 q0, .int .i64 q1, .slice av q2.length cv]] (HCI1.out _ HM.out.bel).wide _ rfl _ HW8S.out.symm) (HCI1.out _ (HM.out.bel.trans (hA.mono HM.out.bel.size)))).mono ?_
            rintro r w9 ⟨a5, c5, rfl, HA5, hfr5, hb9⟩
            dsimp only
            have HOFF : Hid (∀ x, a5 = some x → 0 < (lstP n2).length → x.block ≠ R ∧ x.block ≠ X) := Lib.hid (fun x hx h9 => by
              rcases hfr5 with ⟨h8, h7⟩ | h8
              · subst h8
                exact HM.out.off x hx (by rw [← h7]; exact h9)
              · have h6 := h8 x hx
                have h5 := hA.size
                have h4 := HM.out.lt
                omega)
            have hb9' := hA.trans (hb9.mono hA.size)
            have HM9 := Lib.hid (HM.out.keep hb9')
            have HT9 := Lib.hid (HT8.out.trans (touch_of_below (S := fun b => b = R ∨ b = X) hb9'))
            clear hb9 hb9' hA hfr5 HM HT8 HG8 HW8S HDW
            have HL10 := Lib.hid (HM9.out.setX a5 c5 HA5.out HOFF.out)
            have HT10 := Lib.hid (HTW.out.trans (touch_r HT9.out (.inr rfl) (.slice a5 (lenP n2) c5) (.int .i64 e2)))
            have HRA := Lib.hid (And.intro HN2.out (And.intro HE2.out.1 (And.intro HE2.out.2 (And.intro HL10.out HT10.out))))
            have x0 := HM9.out.r.2.2.1
            have x1 := HM9.out.r.2.2.2
            have hX := HM9.out.lt.2
            have f2 := HM9.out.fr X 0 (.inr rfl)
            have f3 := HM9.out.fr X 1 (.inr rfl)
            clear HL10 HT10 HM9 HT9 HA5 HOFF
            go_wp2
            go_roundw
            case rel => exact ⟨k + 1, n2, e2, a5, c5, by omega, by go_num, HRA⟩
            case measure => simp [intOf] <;> omega
        · have hzb : (chk n ⟨q0, q1, q2⟩ == 0) = false := by rw [beq_eq_false_iff_ne]; exact hz
          have hzc : (chk n ⟨q0, q1, q2⟩ != 0) = true := by rw [bne_iff_ne]; exact hz
          generalize chk n ⟨q0, q1, q2⟩ = z at HCK hz hzb hzc
          clear hact hvr hvn hkF hsm
          go_wp2_with fail
          refine (HCK.out _ (HL.out.bel.trans (hA.mono HL.out.bel.size))).mono ?_
          rintro r w2 ⟨rfl, hb2⟩
          dsimp only
          have hb2' := hA.trans (hb2.mono hA.size)
          have HRA : Hid (n < 4294967296 ∧ 0 ≤ e ∧ e ≤ ((k + 1 : Nat) : Int) ∧ RpL w R X n e a c w2 ∧ Touch (fun b => b = R ∨ b = X) wf w2) := Lib.hid ⟨HN.out, HE.out.1, by have := HE.out.2; omega, HL.out.keep hb2', HTW.out.trans (touch_of_below hb2')⟩
          clear hb2 hb2' hA HCK HL HTW r0 r1 x0 x1 hR hX c0 c1' c2'
          go_wp2
          go_roundw
          case rel => exact ⟨k + 1, n, e, a, c, by omega, by go_num, HRA⟩
          case measure => simp [intOf] <;> omega
      · obtain rfl : k = D := by omega
        have hi1 : (k : Int) ≤ (k : Int) := by omega
        have hk10 := hd10
        obtain ⟨en, he⟩ : ∃ en : Nat, e = (en : Int) := ⟨e.toNat, by have := HE.out; omega⟩
        subst he
        have hen : en ≤ 1099511627776 := by have := HE.out; omega
        have HPUT := Lib.hid (fun (O : Nat) (W : World) (h0 : OutQ (fun k => k < O) O [] W) => rosPut_any (fun k => k < O) O [] n en W h0 HN.out hen (by simp))
        have HRC := Lib.hid (fun B W (hW : InSt W B (rosB n en, 0)) => rread_any B (rosB n en, 0) W hW)
        have hbk := ros_back HN.out hen []
        rw [List.append_nil] at hbk
        unfold RReadPost18 at HRC
        rw [hbk] at HRC
        rw [show rosT ((([] : List UInt8), 0), n, en) = (n, en) from rfl] at HRC
        have HTX := Lib.hid (fun (W : World) (hv : IntRow .i64 W a (lstP n)) => refRosText_any n a c en W hv HN.out hen)
        have HCL : Hid ((rosB n en).length ≤ 20) := Lib.hid (by
          have h1 := numB_ten (n := n) (by have := HN.out; omega)
          have h2 := numB_ten (n := en) (by omega)
          unfold rosB; rw [List.length_append]; omega)
        have HIS := Lib.hid (fun (a4 : Option Addr) (c4 : Nat) (W : World) (h0 : ActL W (.slice a4 (lenP n) c4) (lstP n)) (hT : DbAt W) => is18_any n (en : Int) a4 c4 W HN.out h0 hT)
        have HSS := Lib.hid (fun W => rsame_any n n (en : Int) (en : Int) W)
        simp only [twice_same] at HSS
        unfold PutPost at HPUT
        simp only [List.nil_append] at HPUT
        unfold rosV at HPUT HRC HIS HSS
        unfold docV at HTX HIS
        simp only at HRC
        generalize rosB n en = T at HPUT HRC HTX HCL
        clear hbk hen
        have HO := Lib.hid (OutQ.start (K := fun k => k < wr.heap.size) wr 39 (fun k hk => hk))
        have hA : Below wr.heap.size wr (wr.alloc (.cells #[.slice none 0 0] 39)) := bel_alloc (Below.refl _ _) _
        go_wp2_with fail
        refine (HPUT.out _ _ HO.out).mono ?_
        rintro r w3 ⟨rfl, ho3, ht3⟩
        dsimp only
        have HB3 := Lib.hid (hA.trans (ht3.below (by simp) (fun k hk h => h hk)))
        have HL := Lib.hid (HL.out.keep HB3.out)
        have HO := Lib.hid (ho3.sub (K := fun _ => False) (fun k h => h.elim))
        clear ho3 ht3 HPUT hA HB3 r0 r1 x0 x1 hR hX HTW HBW
        generalize wr.heap.size = O at HO ⊢
        have hOl := HO.out.lt
        go_wp2_with fail
        refine (outText_q HO.out).mono ?_
        rintro r w3' ⟨rfl, rfl⟩
        go_wp2_with fail
        refine (open_any (bs T) _ (by rw [bs_size]; have := HCL.out; omega)).mono ?_
        rintro r w4 ⟨rfl, hi4, hb4⟩
        rw [bs_list] at hi4
        have HI4 := Lib.hid hi4
        have HB4 := Lib.hid hb4
        clear hi4 hb4 hOl
        go_wp2_with fail
        refine (HRC.out _ _ HI4.out).mono ?_
        rintro r w5 ⟨rfl, hi5⟩
        dsimp only
        have HB5 := Lib.hid (HB4.out.trans (hi5.2.below HB4.out.size (fun k hk e => by omega)))
        have HI5 := Lib.hid hi5.1
        clear hi5 HRC HI4 HB4
        generalize w3.heap.size = B at HI5 ⊢
        have HZ : Hid (RtZ w R X O B w5.heap.size n (en : Int) a c T (w5.alloc (.cells #[.int .u32 (n : Int), .int .i64 (en : Int)] 27))) := Lib.hid (by
          have hA5 : Below w5.heap.size w5 (w5.alloc (.cells #[.int .u32 (n : Int), .int .i64 (en : Int)] 27)) := bel_alloc (Below.refl _ _) _
          have hA3 := HB5.out.trans (hA5.mono HB5.out.size)
          have hl := HL.out.keep hA3
          exact ⟨hl, ⟨new_cell rfl rfl, new_cell rfl rfl⟩, HO.out.below hA3, HI5.out.below hA5, HTAB.out.below hl.bel⟩)
        clear HB5 HI5 HO HL
        go_upto_region 23 with (fail)
        generalize w5.alloc (.cells #[.int .u32 (n : Int), .int .i64 (en : Int)] 27) = W5 at HZ ⊢
        generalize w5.heap.size = S at HZ ⊢
        · refine wp_region_c18 (C := fun W => RtZ w R X O B S n (en : Int) a c T W) (by kernel_rfl) (by kernel_rfl) (HZ.out.keep (Below.refl _ _).drew) ?_
          repeat
            (refine wpQuiet_step (fun K hK => ?_)
             go_simp
             first
               | (refine hK _ ?_; clear hK K)
               | (apply Exists.intro
                  refine ⟨fun W hW => ?_, hK _ ?_⟩
                  (first
                    | (go_at_call 12; exact (outText_q hW.o).mono fun r W' h => ⟨h.1, by have h2 := h.2; subst h2; exact hW⟩)
                    | (go_at_call 15; exact (end_done _ W hW.into).mono fun r W' h => ⟨h.1, by have h2 := h.2; subst h2; exact hW⟩)
                    | (go_at_call 21; exact (HTX.out W (act_row rfl hW.l.row).1).mono fun r W' h => ⟨h.1, hW.keep h.2⟩)
                    | (go_at_call 22; exact (HSS.out W).mono fun r W' h => ⟨h.1, hW.keep h.2⟩)
                    | (go_at_call 23; exact (HIS.out _ _ W hW.l.row hW.tab).mono fun r W' h => ⟨h.1, hW.keep h.2⟩)
                    | (have y0 := hW.l.r.1; have y1 := hW.l.r.2.1; have y2 := hW.l.r.2.2.1; have y3 := hW.l.r.2.2.2; have y4 := hW.s.1; have y5 := hW.s.2; clear hW; go_simp; first | exact ⟨rfl, rfl⟩ | exact rfl | trivial))
                  clear hK K))
          refine wpQuiet_nil ?_
          intro W6 hW6
          have HBZ := Lib.hid hW6.l.bel
          clear hW6
          go_wp2
          go_ret
          exact ⟨rfl, HBZ.out⟩
end Go.Proofs.YtcbadcbnknmdnaaDoor
