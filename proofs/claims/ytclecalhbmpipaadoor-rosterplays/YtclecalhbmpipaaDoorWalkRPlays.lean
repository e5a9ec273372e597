/-
  The walk of the law RosterPlays.
-/
import Derived.Test.YtclecalhbmpipaaDoorWalkRRows
namespace Go.Proofs.YtclecalhbmpipaaDoor
open Go.RowKit
set_option linter.unusedVariables false

theorem chk_drop {n : Nat} {p : Int} {V : List Int} (h : chk n ⟨3, p, V⟩ = 0) : mostP n p V = true := by
  have hr := chk_range h
  simp only at hr
  simp only [chk] at h
  rw [if_neg (by omega)] at h
  split at h
  · omega
  · rw [if_neg (by decide)] at h
    split at h
    · omega
    · split at h
      · omega
      · rename_i h3
        cases hm : mostP n p V with
        | true => rfl
        | false => exact absurd ⟨trivial, hm⟩ h3
theorem withP_one (n : Nat) (e : Int) (q : Chg) (hn : n < 4294967296) (he : 0 ≤ e) : ∃ n2 e2, withP n e [q] = (n2, e2, chk n q) ∧ n2 < 4294967296 ∧ 0 ≤ e2 ∧ e2 ≤ e + 1 ∧ (q.k = 3 → chk n q = 0 → lenP n < 2 * q.v.length ∧ hasP n2 q.p = false) := by
  by_cases h : chk n q = 0
  · refine ⟨doP n q, e + 1, ?_, doP_lt hn h, by omega, by omega, fun hk _ => ?_⟩
    · simp only [withP, runP, h, if_true]; rfl
    · obtain ⟨k, p, v⟩ := q
      simp only at hk
      subst hk
      have hm := chk_drop h
      have hr := chk_range h
      have hh := chk_has h
      simp only at hr hh
      unfold mostP at hm
      simp only [Bool.and_eq_true, decide_eq_true_eq] at hm
      refine ⟨hm.2, ?_⟩
      show hasP (n ^^^ 2 ^ p.toNat) p = false
      rw [has_xor n hr.1 hr.2.1, if_pos rfl]
      have : hasP n p = true := hh
      rw [this]; rfl
  · refine ⟨n, e, ?_, hn, he, by omega, fun _ h0 => absurd h0 h⟩
    simp only [withP, runP, h, if_false]
/-- The law's memory between two rounds. -/
structure RpL (w : World) (R X n : Nat) (e : Int) (a : Option Addr) (c : Nat) (W : World) : Prop where
  r : W.cell? ⟨R, 0, none⟩ = some (.int .u32 (n : Int)) ∧ W.cell? ⟨R, 1, none⟩ = some (.int .i64 e) ∧ W.cell? ⟨X, 0, none⟩ = some (.slice a (lenP n) c) ∧ W.cell? ⟨X, 1, none⟩ = some (.int .i64 e)
  fr : ∀ b j, b = R ∨ b = X → W.frozen? ⟨b, j, none⟩ = false
  row : ActL W (.slice a (lenP n) c) (lstP n)
  off : ∀ x, a = some x → 0 < (lstP n).length → x.block ≠ R ∧ x.block ≠ X
  ne : R ≠ X
  le : w.heap.size ≤ R ∧ w.heap.size ≤ X
  bel : Below w.heap.size w W
theorem RpL.lt {w : World} {R X n : Nat} {e : Int} {a : Option Addr} {c : Nat} {W : World} (h : RpL w R X n e a c W) : R < W.heap.size ∧ X < W.heap.size := ⟨block_lt_of_cell h.r.1, block_lt_of_cell h.r.2.2.1⟩
theorem RpL.keep {w : World} {R X n : Nat} {e : Int} {a : Option Addr} {c : Nat} {W W' : World} (h : RpL w R X n e a c W) (hb : Below W.heap.size W W') : RpL w R X n e a c W' :=
  ⟨keep4i hb h.r, fun b j hbb => (hb.frozen (p := ⟨b, j, none⟩) (by have := h.lt; rcases hbb with rfl | rfl <;> simp only <;> omega)).trans (h.fr b j hbb), h.row.below hb, h.off, h.ne, h.le, h.bel.trans (hb.mono h.bel.size)⟩
/-- A round's memory: five boxes, the two lists, the voters. -/
structure RpC (w : World) (R X C S Y n : Nat) (e : Int) (a : Option Addr) (c : Nat) (k p : Int) (av : Option Addr) (NV cv : Nat) (V : List Int) (n2 : Nat) (e2 : Int) (a2 : Option Addr) (c2 : Nat) (W : World) : Prop where
  l : RpL w R X n e a c W
  g0 : W.cell? ⟨C, 0, none⟩ = some (.int .i64 k)
  g1 : W.cell? ⟨C, 1, none⟩ = some (.int .i64 p)
  g2 : W.cell? ⟨C, 2, none⟩ = some (.slice av NV cv)
  s : W.cell? ⟨S, 0, none⟩ = some (.int .u32 (n2 : Int)) ∧ W.cell? ⟨S, 1, none⟩ = some (.int .i64 e2) ∧ W.cell? ⟨Y, 0, none⟩ = some (.slice a2 (lenP n2) c2) ∧ W.cell? ⟨Y, 1, none⟩ = some (.int .i64 e2)
  vot : IntRow .i64 W av V
  row2 : ActL W (.slice a2 (lenP n2) c2) (lstP n2)
  tab : DbAt W
theorem RpC.keep {w : World} {R X C S Y n : Nat} {e : Int} {a : Option Addr} {c : Nat} {k p : Int} {av : Option Addr} {NV cv : Nat} {V : List Int} {n2 : Nat} {e2 : Int} {a2 : Option Addr} {c2 : Nat} {W W' : World} (h : RpC w R X C S Y n e a c k p av NV cv V n2 e2 a2 c2 W) (hb : Below W.heap.size W W') : RpC w R X C S Y n e a c k p av NV cv V n2 e2 a2 c2 W' := by
  obtain ⟨h1, h2, h3⟩ := keep3r hb ⟨h.g0, h.g1, h.g2⟩
  exact ⟨h.l.keep hb, h1, h2, h3, keep4i hb h.s, h.vot.below hb, h.row2.below hb, h.tab.below hb⟩
structure Both2 (P Q : Prop) : Prop where
  a : P
  b : Q
theorem RpL.next {w : World} {R X n : Nat} {e : Int} {a : Option Addr} {c : Nat} {W : World} (h : RpL w R X n e a c W) (n2 : Nat) (e2 : Int) (a2 : Option Addr) (c2 : Nat) (hrow : ActL W (.slice a2 (lenP n2) c2) (lstP n2)) (ho : ∀ x, a2 = some x → 0 < (lstP n2).length → x.block ≠ R ∧ x.block ≠ X) : RpL w R X n2 e2 a2 c2 ((((W.setCell ⟨R, 0, none⟩ (.int .u32 (n2 : Int))).setCell ⟨R, 1, none⟩ (.int .i64 e2)).setCell ⟨X, 0, none⟩ (.slice a2 (lenP n2) c2)).setCell ⟨X, 1, none⟩ (.int .i64 e2)) := by
  have hne := h.ne
  have hle := h.le
  obtain ⟨q0, q1, q2, q3⟩ := h.r
  refine ⟨⟨?_, ?_, ?_, ?_⟩, fun b j hbb => by simp only [World.frozen?_setCell]; exact h.fr b j hbb, act_set (act_set hrow (fun x hx h9 => (ho x hx h9).1) _ _) (fun x hx h9 => (ho x hx h9).2) _ _, ho, hne, hle, ?_⟩
  · rw [World.cell?_setCell_other _ _ _ _ (by first | (simp; done) | (simp; omega)), World.cell?_setCell_other _ _ _ _ (by first | (simp; done) | (simp; omega)), World.cell?_setCell_other _ _ _ _ (by simp)]
    exact World.cell?_setCell_same' _ _ _ (by rw [q0]; rfl)
  · rw [World.cell?_setCell_other _ _ _ _ (by first | (simp; done) | (simp; omega)), World.cell?_setCell_other _ _ _ _ (by first | (simp; done) | (simp; omega))]
    exact World.cell?_setCell_same' _ _ _ (by rw [World.cell?_setCell_other _ _ _ _ (by simp), q1]; rfl)
  · rw [World.cell?_setCell_other _ _ _ _ (by simp)]
    exact World.cell?_setCell_same' _ _ _ (by rw [World.cell?_setCell_other _ _ _ _ (by first | (simp; done) | (simp; omega)), World.cell?_setCell_other _ _ _ _ (by first | (simp; done) | (simp; omega)), q2]; rfl)
  · exact World.cell?_setCell_same' _ _ _ (by rw [World.cell?_setCell_other _ _ _ _ (by simp), World.cell?_setCell_other _ _ _ _ (by first | (simp; done) | (simp; omega)), World.cell?_setCell_other _ _ _ _ (by first | (simp; done) | (simp; omega)), q3]; rfl)
  · exact (((h.bel.setCell (p := ⟨R, 0, none⟩) hle.1 _).setCell (p := ⟨R, 1, none⟩) hle.1 _).setCell (p := ⟨X, 0, none⟩) hle.2 _).setCell (p := ⟨X, 1, none⟩) hle.2 _
theorem RpL.next' {w : World} {R X n : Nat} {e : Int} {a : Option Addr} {c : Nat} {W : World} (h : RpL w R X n e a c W) (n2 : Nat) (e2 : Int) (a2 : Option Addr) (c2 : Nat) (hrow : ActL W (.slice a2 (lenP n2) c2) (lstP n2)) (ho : ∀ x, a2 = some x → 0 < (lstP n2).length → x.block ≠ R ∧ x.block ≠ X) : RpL w R X n2 e2 a2 c2 ((((W.setCell ⟨X, 0, none⟩ (.slice a2 (lenP n2) c2)).setCell ⟨X, 1, none⟩ (.int .i64 e2)).setCell ⟨R, 0, none⟩ (.int .u32 (n2 : Int))).setCell ⟨R, 1, none⟩ (.int .i64 e2)) := by
  have hne := h.ne
  have hle := h.le
  obtain ⟨q0, q1, q2, q3⟩ := h.r
  refine ⟨⟨?_, ?_, ?_, ?_⟩, fun b j hbb => by simp only [World.frozen?_setCell]; exact h.fr b j hbb, act_set (act_set hrow (fun x hx h9 => (ho x hx h9).2) _ _) (fun x hx h9 => (ho x hx h9).1) _ _, ho, hne, hle, ?_⟩
  · rw [World.cell?_setCell_other _ _ _ _ (by simp)]
    exact World.cell?_setCell_same' _ _ _ (by rw [World.cell?_setCell_other _ _ _ _ (by first | (simp; done) | (simp; omega)), World.cell?_setCell_other _ _ _ _ (by first | (simp; done) | (simp; omega)), q0]; rfl)
  · exact World.cell?_setCell_same' _ _ _ (by rw [World.cell?_setCell_other _ _ _ _ (by simp), World.cell?_setCell_other _ _ _ _ (by first | (simp; done) | (simp; omega)), World.cell?_setCell_other _ _ _ _ (by first | (simp; done) | (simp; omega)), q1]; rfl)
  · rw [World.cell?_setCell_other _ _ _ _ (by first | (simp; done) | (simp; omega)), World.cell?_setCell_other _ _ _ _ (by first | (simp; done) | (simp; omega)), World.cell?_setCell_other _ _ _ _ (by simp)]
    exact World.cell?_setCell_same' _ _ _ (by rw [q2]; rfl)
  · rw [World.cell?_setCell_other _ _ _ _ (by first | (simp; done) | (simp; omega)), World.cell?_setCell_other _ _ _ _ (by first | (simp; done) | (simp; omega))]
    exact World.cell?_setCell_same' _ _ _ (by rw [World.cell?_setCell_other _ _ _ _ (by simp), q3]; rfl)
  · exact (((h.bel.setCell (p := ⟨X, 0, none⟩) hle.2 _).setCell (p := ⟨X, 1, none⟩) hle.2 _).setCell (p := ⟨R, 0, none⟩) hle.1 _).setCell (p := ⟨R, 1, none⟩) hle.1 _
theorem touch_rx {R X : Nat} {w W : World} (h : Touch (fun b => b = R ∨ b = X) w W) (u v y z : Value) : Touch (fun b => b = R ∨ b = X) w ((((W.setCell ⟨R, 0, none⟩ u).setCell ⟨R, 1, none⟩ v).setCell ⟨X, 0, none⟩ y).setCell ⟨X, 1, none⟩ z) ∧ Touch (fun b => b = R ∨ b = X) w ((((W.setCell ⟨X, 0, none⟩ y).setCell ⟨X, 1, none⟩ z).setCell ⟨R, 0, none⟩ u).setCell ⟨R, 1, none⟩ v) :=
  ⟨(((h.setCell (p := ⟨R, 0, none⟩) (fun _ => .inl rfl) _).setCell (p := ⟨R, 1, none⟩) (fun _ => .inl rfl) _).setCell (p := ⟨X, 0, none⟩) (fun _ => .inr rfl) _).setCell (p := ⟨X, 1, none⟩) (fun _ => .inr rfl) _, (((h.setCell (p := ⟨X, 0, none⟩) (fun _ => .inr rfl) _).setCell (p := ⟨X, 1, none⟩) (fun _ => .inr rfl) _).setCell (p := ⟨R, 0, none⟩) (fun _ => .inl rfl) _).setCell (p := ⟨R, 1, none⟩) (fun _ => .inl rfl) _⟩
set_option maxRecDepth 100000 in
set_option maxHeartbeats 40000000 in
theorem rosterPlays_walk (w : World) (a : Option Addr) (len cap : Nat) (ns : List Int) (h : NumArg .i64 w a len cap ns) (b : Option Addr) (len1 cap1 : Nat) (ls : List (List Value)) (h1 : ValArg 3 (chR w) w b len1 cap1 ls) (hT : DbAt w) : Calls Tryd.prog 3 #[.slice a len cap, .slice b len1 cap1] w fun r w' => r = .returned (.bool true) ∧ Below w.heap.size w w' := by
  have hc1 : len ≤ cap := h.2.2.1
  have hc2 : cap ≤ maxLen := h.2.2.2.1
  unfold maxLen at hc2
  obtain ⟨l, hl, hrow, hlen⟩ := arg40p h
  clear h
  obtain ⟨rfl, hcap1, hcap2, hvrow, hper⟩ := h1
  obtain ⟨m, hcis, -⟩ := ChIs.of hper
  have hlm := hcis.1
  have HAW := Lib.hid (awake18_any w)
  have HFEW := Lib.hid (fun W (hW : Below w.heap.size w W) => few18_any b cap1 ls m w W (VRow.touch (by decide) hcis.wide hvrow (touch_of_below (S := fun _ => False) hW) (fun _ _ => id)) hcis (by omega) ls.length hlm.symm)
  have HOF := Lib.hid (fun W (hW : Below w.heap.size w W) c => rof_any a c l W (hrow.below hW) (by omega))
  have HDOF := Lib.hid (fun W (hW : Below w.heap.size w W) c => dof_any a c l W (hrow.below hW) (by omega) l.length rfl)
  have HSMALL := Lib.hid (fewC_small m)
  have HN := Lib.hid (ofP_lt l)
  have HTAB := Lib.hid hT
  clear hrow hvrow hper hcis hlm hT
  unfold FewPost18 at HFEW
  generalize fewC m = F at HFEW HSMALL
  unfold rosV at HOF
  unfold DocNew at HDOF
  generalize ofP l = n at HOF HDOF HN
  have HI0 := Lib.hid (fun (a4 : Option Addr) (c4 : Nat) (W : World) (h0 : ActL W (.slice a4 (lenP n) c4) (lstP n)) (hT : DbAt W) => is18_any n 0 a4 c4 W HN.out h0 hT)
  simp only [show (lstP n).length = lenP n from rfl] at HDOF
  unfold rosV at HI0
  unfold docV at HDOF HI0
  have hd10 := HSMALL.out.2
  rcases hlen with ⟨hlen, hlen2⟩ | ⟨hlen, hlen2⟩
  all_goals
    rw [hlen2] at HOF HDOF
    have hlc : ((len : Nat) : Int) ≤ 40 ∨ (40 : Int) < ((len : Nat) : Int) := by omega
    go_enter Tryd.func3, Tryd.ntmps3
    go_wp2_with fail
    refine HAW.out.mono ?_
    rintro r wa ⟨rfl, hba⟩
    go_wp2_with fail
    refine (HOF.out _ hba _).mono ?_
    rintro r wo ⟨rfl, hbo⟩
    dsimp only
    have HBO := Lib.hid (hba.trans (hbo.mono hba.size))
    clear hba hbo
    go_wp2_with fail
    refine (HDOF.out _ HBO.out _).mono ?_
    rintro r wd ⟨a2, c2, rfl, HA2, -, hbd⟩
    dsimp only
    have HBD := Lib.hid (HBO.out.trans (hbd.mono HBO.out.size))
    clear hbd HBO
    have HMM : Hid (RpL w wd.heap.size (wd.heap.size + 1) n 0 a2 c2 ((wd.alloc (.cells #[.int .u32 (n : Int), .int .i64 0] 27)).alloc (.cells #[.slice a2 (lenP n) c2, .int .i64 0] 30))) := Lib.hid (by
      have e1 : (wd.alloc (.cells #[.int .u32 (n : Int), .int .i64 0] 27)).heap.size = wd.heap.size + 1 := by simp
      have hA : Below wd.heap.size wd ((wd.alloc (.cells #[.int .u32 (n : Int), .int .i64 0] 27)).alloc (.cells #[.slice a2 (lenP n) c2, .int .i64 0] 30)) := bel_alloc (bel_alloc (Below.refl _ _) _) _
      have hs := HBD.out.size
      refine ⟨⟨alloc_cell (new_cell rfl rfl) _, alloc_cell (new_cell rfl rfl) _, new_cell e1.symm rfl, new_cell e1.symm rfl⟩, fun b j hbb => ?_, HA2.out.below hA, fun x hx h9 => ?_, by omega, ⟨hs, by omega⟩, HBD.out.trans (hA.mono hs)⟩
      · rcases hbb with rfl | rfl
        · rw [frozen_old _ _ ⟨wd.heap.size, j, none⟩ (by simp)]
          exact frozen_new _ _ _ _
        · rw [← e1]; exact frozen_new _ _ _ _
      · have := act_lt HA2.out x hx h9
        omega)
    clear HA2 HBD
    obtain ⟨r0, r1, x0, x1⟩ := HMM.out.r
    obtain ⟨hR, hX⟩ := HMM.out.lt
    go_wp2_with fail
    generalize (wd.alloc (.cells #[.int .u32 (n : Int), .int .i64 0] 27)).alloc (.cells #[.slice a2 (lenP n) c2, .int .i64 0] 30) = W at HMM r0 r1 x0 x1 hR hX ⊢
    generalize wd.heap.size + 1 = X at HMM x0 x1 hX ⊢
    generalize wd.heap.size = R at HMM r0 r1 hR ⊢
    refine (HI0.out _ _ _ HMM.out.row (HTAB.out.below HMM.out.bel)).mono ?_
    rintro r w1 ⟨rfl, hb1⟩
    dsimp only
    have HM1 := Lib.hid (HMM.out.keep hb1)
    clear HMM hb1 r0 r1 x0 x1 hR hX
    go_wp2_with fail
    refine (HFEW.out _ HM1.out.bel).mono ?_
    rintro r wf ⟨a1, c1, ls1, rfl, HFE⟩
    dsimp only
    have HMF := Lib.hid (HM1.out.keep HFE.out.1.2)
    have hlt1 := HM1.out.lt
    have HCI := Lib.hid HFE.out.2
    have HVR := Lib.hid (fun W (hW : Touch (fun b => b = R ∨ b = X) wf W) => VRow.touch (by decide) HFE.out.2.wide (HFE.out.1.1.row HFE.out.2.wide) hW (fun x hx h9 => by have := HFE.out.1.1.2 x hx; omega))
    clear HFE HM1 hlt1
    go_wp2
    generalize hD : F.length = D at hd10
    have HD := Lib.hid hD
    clear hD HI0 HOF HDOF HAW HFEW
    have HN0 : Hid (n < 4294967296) := HN
    (try simp only [show decide ((40 : Int) < (len : Int)) = true from decide_eq_true (by omega)])
    go_loopw [32] (fun i wr => ∃ (k n : Nat) (e : Int) (a : Option Addr) (c : Nat), k ≤ D ∧ i = .int .i64 k ∧ Hid (n < 4294967296 ∧ 0 ≤ e ∧ e ≤ k ∧ RpL w R X n e a c wr ∧ Touch (fun b => b = R ∨ b = X) wf wr)) (fun i _ => D - (intOf i).toNat)
    case atStart => exact ⟨0, n, 0, a2, c2, by omega, rfl, Lib.hid ⟨HN.out, by omega, by omega, HMF.out, Touch.refl _ _⟩⟩
    case round =>
      clear HN HN0 HMF
      obtain ⟨k, n, e, a, c, hk, rfl, HM⟩ := hrel
      have hi0 : (0 : Int) ≤ (k : Int) := by omega
      have HL := Lib.hid HM.out.2.2.2.1
      have HN := Lib.hid HM.out.1
      have HE : Hid (0 ≤ e ∧ e ≤ k) := Lib.hid ⟨HM.out.2.1, HM.out.2.2.1⟩
      have HTW := Lib.hid HM.out.2.2.2.2
      have HBW := Lib.hid (Below.refl wr.heap.size wr)
      clear HM
      obtain ⟨r0, r1, x0, x1⟩ := HL.out.r
      obtain ⟨hR, hX⟩ := HL.out.lt
      by_cases hlt : k < D
      · have hi1 : (k : Int) < (D : Int) := by omega
        have hkF : k < F.length := by have := HD.out; omega
        obtain ⟨b', off, av, cv, rfl, hb, c0, c1', c2', hact, -⟩ := ch_at (HVR.out _ HTW.out) HCI.out hkF
        have HSV := Lib.hid (HSMALL.out.1.2 _ (List.getElem_mem hkF))
        generalize F[k] = q at c0 c1' c2' hact HSV
        obtain ⟨q0, q1, q2⟩ := q
        simp only at c0 c1' c2' hact HSV
        obtain ⟨hvr, hvn⟩ := act_row rfl hact
        have HACT := Lib.hid (fun W (hW : Below w.heap.size w W) => hact.below hW)
        have HVOT := Lib.hid (fun W (hW : Below w.heap.size w W) => hvr.below hW)
        obtain ⟨n2, e2, hwp, hn2, he2, he2', hdrop⟩ := withP_one n e ⟨q0, q1, q2⟩ HN.out HE.out.1
        have HN2 := Lib.hid hn2
        have HE2 : Hid (0 ≤ e2 ∧ e2 ≤ ((k + 1 : Nat) : Int)) := Lib.hid ⟨he2, by have := HE.out.2; omega⟩
        have HCI1 := Lib.hid (fun W (hW : Below w.heap.size w W) => show ChIs W [[.int .i64 q0, .int .i64 q1, .slice av q2.length cv]] [⟨q0, q1, q2⟩] from ⟨rfl, fun i h1 h2 => by
          obtain rfl : i = 0 := by simpa using h1
          exact ⟨av, cv, rfl, HACT.out W hW⟩⟩)
        have hsm : ChSmall [⟨q0, q1, q2⟩] := ⟨by simp, fun c hc => by simp only [List.mem_singleton] at hc; subst hc; exact HSV.out⟩
        have HCK := Lib.hid (fun W (hW : Below w.heap.size w W) => rcheck_any n e q0 q1 av cv q2 W HN.out (HVOT.out W hW) HSV.out)
        have HWI := Lib.hid (fun (a1 : Option Addr) (W : World) (hr : VRow 3 W a1 [[.int .i64 q0, .int .i64 q1, .slice av q2.length cv]]) (hi : ChIs W [[.int .i64 q0, .int .i64 q1, .slice av q2.length cv]] [⟨q0, q1, q2⟩]) => rwith_any n e a1 1 _ [⟨q0, q1, q2⟩] W HN.out (by have := HE.out; omega) hr hi hsm 1 rfl)
        have HDW := Lib.hid (fun (a1 : Option Addr) (W : World) (h0 : ActL W (.slice a (lenP n) c) (lstP n)) (hr : VRow 3 W a1 [[.int .i64 q0, .int .i64 q1, .slice av q2.length cv]]) (hi : ChIs W [[.int .i64 q0, .int .i64 q1, .slice av q2.length cv]] [⟨q0, q1, q2⟩]) => dwith_any n e a c a1 1 _ [⟨q0, q1, q2⟩] W (by have := HE.out; omega) h0 hr hi hsm 1 rfl)
        have HIS := Lib.hid (fun (a4 : Option Addr) (c4 : Nat) (W : World) (h0 : ActL W (.slice a4 (lenP n2) c4) (lstP n2)) (hT : DbAt W) => is18_any n2 e2 a4 c4 W HN2.out h0 hT)
        have HMO := Lib.hid (fun W (hv : IntRow .i64 W av q2) => rmost_any n e q1 av cv q2 W HN.out hv HSV.out)
        have HDM := Lib.hid (fun W (h0 : ActL W (.slice a (lenP n) c) (lstP n)) (hv : IntRow .i64 W av q2) => dmost_any n e q1 a c av cv q2 W (act_row rfl h0).1 hv HSV.out)
        have HLE := Lib.hid (fun W => rlen_any n e W HN.out)
        have HHA := Lib.hid (fun W => rhas_any n2 e2 q1 W HN2.out)
        unfold WithPost at HWI
        unfold DwPost at HDW
        unfold ChkPost at HCK
        rw [hwp] at HWI HDW
        simp only at HWI HDW
        unfold rosV at HCK HWI HIS HMO HLE HHA
        unfold chV at HCK
        unfold docV at HDW HIS HDM
        clear hwp hact hvr hvn hkF hn2 he2 he2' hsm
        have HDROP := Lib.hid hdrop
        clear hdrop
        have HLL := Lib.hid (lenP_le n)
        generalize chk n ⟨q0, q1, q2⟩ = z at HCK HWI HDW HDROP
        have hA : Below wr.heap.size wr (wr.alloc (.cells #[.int .i64 q0, .int .i64 q1, .slice av q2.length cv] 35)) := bel_alloc (Below.refl _ _) _
        go_wp2_with fail
        refine (HCK.out _ (HL.out.bel.trans (hA.mono HL.out.bel.size))).mono ?_
        rintro r w2 ⟨rfl, hb2⟩
        dsimp only
        obtain ⟨g0, g1, g2⟩ := keep3r hb2 (show (wr.alloc (.cells #[.int .i64 q0, .int .i64 q1, .slice av q2.length cv] 35)).cell? ⟨wr.heap.size, 0, none⟩ = some (.int .i64 q0) ∧ (wr.alloc (.cells #[.int .i64 q0, .int .i64 q1, .slice av q2.length cv] 35)).cell? ⟨wr.heap.size, 1, none⟩ = some (.int .i64 q1) ∧ (wr.alloc (.cells #[.int .i64 q0, .int .i64 q1, .slice av q2.length cv] 35)).cell? ⟨wr.heap.size, 2, none⟩ = some (.slice av q2.length cv) from ⟨new_cell rfl rfl, new_cell rfl rfl, new_cell rfl rfl⟩)
        have hb2' := hA.trans (hb2.mono hA.size)
        have HL := Lib.hid (HL.out.keep hb2')
        have HBW := Lib.hid (HBW.out.trans (hb2'.mono HBW.out.size))
        clear hb2 hb2' hA r0 r1 x0 x1 hR hX c0 c1' c2' HCK
        generalize wr.heap.size = C at g0 g1 g2 ⊢
        obtain ⟨r0, r1, x0, x1⟩ := HL.out.r
        obtain ⟨hR, hX⟩ := HL.out.lt
        have hC := block_lt_of_cell g0
        simp only at hC
        have hA : Below w2.heap.size w2 (w2.alloc (.cells #[.int .i64 q0, .int .i64 q1, .slice av q2.length cv] 35)) := bel_alloc (Below.refl _ _) _
        go_wp2_with fail
        refine (HWI.out _ _ (vrow_new18 _ _ 3 [[.int .i64 q0, .int .i64 q1, .slice av q2.length cv]] (HCI1.out _ HL.out.bel).wide _ rfl _ rfl) (HCI1.out _ (HL.out.bel.trans (hA.mono HL.out.bel.size)))).mono ?_
        rintro r w3 ⟨rfl, hb3⟩
        dsimp only
        have HSX := Lib.hid (show R < w3.heap.size ∧ X < w3.heap.size from ⟨Nat.lt_of_lt_of_le HL.out.lt.1 (Nat.le_trans hA.size hb3.size), Nat.lt_of_lt_of_le HL.out.lt.2 (Nat.le_trans hA.size hb3.size)⟩)
        have hb3' := (hA.trans (hb3.mono hA.size)).trans ((bel_alloc (Below.refl _ w3) (.cells #[.int .u32 (n2 : Int), .int .i64 e2] 27)).mono (Nat.le_trans hA.size hb3.size))
        have HL := Lib.hid (HL.out.keep hb3')
        have HBW := Lib.hid (HBW.out.trans (hb3'.mono HBW.out.size))
        obtain ⟨g0, g1, g2⟩ := keep3r hb3' ⟨g0, g1, g2⟩
        have s0 : (w3.alloc (.cells #[.int .u32 (n2 : Int), .int .i64 e2] 27)).cell? ⟨w3.heap.size, 0, none⟩ = some (.int .u32 (n2 : Int)) := new_cell rfl rfl
        have s1 : (w3.alloc (.cells #[.int .u32 (n2 : Int), .int .i64 e2] 27)).cell? ⟨w3.heap.size, 1, none⟩ = some (.int .i64 e2) := new_cell rfl rfl
        have hsz3 : (w3.alloc (.cells #[.int .u32 (n2 : Int), .int .i64 e2] 27)).heap.size = w3.heap.size + 1 := by simp
        clear hb3 hb3' hA r0 r1 x0 x1 hR hX hC HWI
        obtain ⟨r0, r1, x0, x1⟩ := HL.out.r
        obtain ⟨hR, hX⟩ := HL.out.lt
        have hC := block_lt_of_cell g0
        simp only at hC
        go_wp2_with fail
        generalize w3.heap.size = S at s0 s1 hsz3 HSX ⊢
        generalize w3.alloc (.cells #[.int .u32 (n2 : Int), .int .i64 e2] 27) = Ws at HL HBW g0 g1 g2 s0 s1 r0 r1 x0 x1 hR hX hC hsz3 ⊢
        have hA : Below Ws.heap.size Ws (Ws.alloc (.cells #[.int .i64 q0, .int .i64 q1, .slice av q2.length cv] 42)) := bel_alloc (Below.refl _ _) _
        refine (HDW.out _ _ (HL.out.row.below hA) (vrow_new18 Ws _ 3 [[.int .i64 q0, .int .i64 q1, .slice av q2.length cv]] (HCI1.out _ HL.out.bel).wide _ rfl _ hsz3.symm) (HCI1.out _ (HL.out.bel.trans (hA.mono HL.out.bel.size)))).mono ?_
        rintro r w4 ⟨a5, c5, rfl, HA5, hfr5, hb4⟩
        dsimp only
        have HYX := Lib.hid (show R < w4.heap.size ∧ X < w4.heap.size from ⟨Nat.lt_of_lt_of_le HL.out.lt.1 (Nat.le_trans hA.size hb4.size), Nat.lt_of_lt_of_le HL.out.lt.2 (Nat.le_trans hA.size hb4.size)⟩)
        have hb4' := (hA.trans (hb4.mono hA.size)).trans ((bel_alloc (Below.refl _ w4) (.cells #[.slice a5 (lenP n2) c5, .int .i64 e2] 30)).mono (Nat.le_trans hA.size hb4.size))
        have HOFF : Hid (∀ x, a5 = some x → 0 < (lstP n2).length → x.block ≠ R ∧ x.block ≠ X) := Lib.hid (fun x hx h9 => by
          rcases hfr5 with ⟨h8, h7⟩ | h8
          · subst h8
            exact HL.out.off x hx (by rw [← h7]; exact h9)
          · have h6 := h8 x hx
            have h5 := hA.size
            omega)
        have HC : Hid (RpC w R X C S w4.heap.size n e a c q0 q1 av q2.length cv q2 n2 e2 a5 c5 (w4.alloc (.cells #[.slice a5 (lenP n2) c5, .int .i64 e2] 30))) := Lib.hid (by
          have HL' := HL.out.keep hb4'
          obtain ⟨h1, h2, h3⟩ := keep3r hb4' ⟨g0, g1, g2⟩
          exact ⟨HL', h1, h2, h3, ⟨(hb4'.cell (block_lt_of_cell s0)).trans s0, (hb4'.cell (block_lt_of_cell s1)).trans s1, new_cell rfl rfl, new_cell rfl rfl⟩, HVOT.out _ HL'.bel, HA5.out.below (bel_alloc (Below.refl _ _) _), HTAB.out.below HL'.bel⟩)
        have HBW := Lib.hid (HBW.out.trans (hb4'.mono HBW.out.size))
        clear hb4 hb4' hfr5 HA5 hA HDW HL g0 g1 g2 s0 s1 r0 r1 x0 x1 hR hX hC hsz3
        go_upto_region 14 with (fail)
        generalize w4.heap.size = Y at HC HYX ⊢
        generalize w4.alloc (.cells #[.slice a5 (lenP n2) c5, .int .i64 e2] 30) = Wy at HC HBW ⊢
        generalize mostP n q1 q2 = mb at HMO HDM
        · refine wp_region_c18 (C := fun W => Both2 (RpC w R X C S Y n e a c q0 q1 av q2.length cv q2 n2 e2 a5 c5 W) (Below wr.heap.size wr W)) (by kernel_rfl) (by kernel_rfl) ⟨HC.out.keep (Below.refl _ _).drew, HBW.out.drew⟩ ?_
          repeat
            (refine wpQuiet_step (fun K hK => ?_)
             go_simp
             first
               | (refine hK _ ?_; clear hK K)
               | (apply Exists.intro
                  refine ⟨fun W hW => ?_, hK _ ?_⟩
                  (first
                    | (go_at_call 11; exact (HIS.out _ _ W hW.1.row2 hW.1.tab).mono fun r W' h => ⟨h.1, hW.1.keep h.2, hW.2.trans (h.2.mono hW.2.size)⟩)
                    | (go_at_call 16; exact (HMO.out W hW.1.vot).mono fun r W' h => ⟨h.1, hW.1.keep h.2, hW.2.trans (h.2.mono hW.2.size)⟩)
                    | (go_at_call 17; exact (HDM.out W hW.1.l.row hW.1.vot).mono fun r W' h => ⟨h.1, hW.1.keep h.2, hW.2.trans (h.2.mono hW.2.size)⟩)
                    | (have y0 := hW.1.l.r.1; have y1 := hW.1.l.r.2.1; have y2 := hW.1.l.r.2.2.1; have y3 := hW.1.l.r.2.2.2; have y4 := hW.1.g0; have y5 := hW.1.g1; have y6 := hW.1.g2; have y7 := hW.1.s.1; have y8 := hW.1.s.2.1; have y9 := hW.1.s.2.2.1; have y10 := hW.1.s.2.2.2; clear hW; go_simp; first | exact ⟨rfl, rfl⟩ | exact rfl | trivial))
                  clear hK K))
          refine wpQuiet_nil ?_
          intro W9 hW9
          have HC := Lib.hid hW9.1
          have HBW := Lib.hid hW9.2
          clear hW9 HIS HMO HDM
          have hcs : (q0 ≠ 3) ∨ (q0 = 3 ∧ z ≠ 0) ∨ (q0 = 3 ∧ z = 0 ∧ lenP n < 2 * q2.length ∧ hasP n2 q1 = false) := by
            by_cases h1 : q0 = 3
            · by_cases h3 : z = 0
              · have h4 := HDROP.out h1 h3
                exact .inr (.inr ⟨h1, h3, h4.1, h4.2⟩)
              · exact .inr (.inl ⟨h1, h3⟩)
            · exact .inl h1
          clear HDROP
          have hw2 : IntKind.i64.wrap (2 * (q2.length : Int)) = 2 * (q2.length : Int) := by rw [IntKind.wrap_i64]; have := HSV.out; omega
          rcases hcs with hq3 | ⟨rfl, hz0⟩ | ⟨rfl, rfl, hml, hmh⟩
          · have hq3b : (q0 == 3) = false := by rw [beq_eq_false_iff_ne]; exact hq3
            have r0 := HC.out.l.r.1
            have r1 := HC.out.l.r.2.1
            have g0 := HC.out.g0
            have g1 := HC.out.g1
            have g2 := HC.out.g2
            have s0 := HC.out.s.1
            have s1 := HC.out.s.2.1
            have hR := block_lt_of_cell r0
            have hG := block_lt_of_cell g0
            have hS := block_lt_of_cell s0
            simp only at hR hG hS
            go_upto_region 16 with (fail)
            go_quiet (fail)
            obtain ⟨W8, hW8⟩ : ∃ W8, W9.drewN nq = W8 := ⟨_, rfl⟩
            rw [hW8]
            have HC8 := Lib.hid (show RpC w R X C S Y n e a c _ q1 av q2.length cv q2 n2 e2 a5 c5 W8 by rw [← hW8]; exact HC.out.keep (bel18_drewN (Below.refl _ _) nq))
            have HBW8 := Lib.hid (show Below wr.heap.size wr W8 by rw [← hW8]; exact bel18_drewN HBW.out nq)
            clear hW8 r0 r1 g0 g1 g2 s0 s1 hR hG hS
            have HNA := Lib.hid ((HC8.out.l.next n2 e2 a5 c5 HC8.out.row2 HOFF.out).keep (Below.refl _ _).drew)
            have HNB := Lib.hid ((HC8.out.l.next' n2 e2 a5 c5 HC8.out.row2 HOFF.out).keep (Below.refl _ _).drew)
            have HTT := Lib.hid (touch_rx (R := R) (X := X) (HTW.out.trans (touch_of_below HBW8.out)) (.int .u32 (n2 : Int)) (.int .i64 e2) (.slice a5 (lenP n2) c5) (.int .i64 e2))
            have HRA := Lib.hid (And.intro HN2.out (And.intro HE2.out.1 (And.intro HE2.out.2 (And.intro HNA.out HTT.out.1.drew))))
            have HRB := Lib.hid (And.intro HN2.out (And.intro HE2.out.1 (And.intro HE2.out.2 (And.intro HNB.out HTT.out.2.drew))))
            clear HNA HNB HTT
            have r0 := HC8.out.l.r.1
            have r1 := HC8.out.l.r.2.1
            have x0 := HC8.out.l.r.2.2.1
            have x1 := HC8.out.l.r.2.2.2
            obtain ⟨s0, s1, y0, y1⟩ := HC8.out.s
            have hne := HC8.out.l.ne
            have hne' : ¬ X = R := fun h => hne h.symm
            obtain ⟨hR, hX⟩ := HC8.out.l.lt
            have hS := block_lt_of_cell s0
            have hY := block_lt_of_cell y0
            simp only at hS hY
            have f0 := HC8.out.l.fr R 0 (.inl rfl)
            have f1 := HC8.out.l.fr R 1 (.inl rfl)
            have f2 := HC8.out.l.fr X 0 (.inr rfl)
            have f3 := HC8.out.l.fr X 1 (.inr rfl)
            have m1 : ¬ Y = R := by have := HYX.out; omega
            have m2 : ¬ Y = X := by have := HYX.out; omega
            have m3 : ¬ S = R := by have := HSX.out; omega
            have m4 : ¬ S = X := by have := HSX.out; omega
            have m5 : ¬ R = Y := fun h => m1 h.symm
            have m6 : ¬ X = Y := fun h => m2 h.symm
            have m7 : ¬ R = S := fun h => m3 h.symm
            have m8 : ¬ X = S := fun h => m4 h.symm
            go_upto_region 18 with (fail)
            go_region
            all_goals
              go_wp2
              go_roundw
              case rel => first | (refine ⟨k + 1, n2, e2, a5, c5, by omega, by go_num, ?_⟩; with_reducible exact HRA) | (refine ⟨k + 1, n2, e2, a5, c5, by omega, by go_num, ?_⟩; with_reducible exact HRB)
              case measure => simp [intOf] <;> omega
          · have hz0b : (z == 0) = false := by rw [beq_eq_false_iff_ne]; exact hz0
            have r0 := HC.out.l.r.1
            have r1 := HC.out.l.r.2.1
            have g0 := HC.out.g0
            have g1 := HC.out.g1
            have g2 := HC.out.g2
            have s0 := HC.out.s.1
            have s1 := HC.out.s.2.1
            have hR := block_lt_of_cell r0
            have hG := block_lt_of_cell g0
            have hS := block_lt_of_cell s0
            simp only at hR hG hS
            go_upto_region 16 with (fail)
            go_quiet (fail)
            obtain ⟨W8, hW8⟩ : ∃ W8, W9.drewN nq = W8 := ⟨_, rfl⟩
            rw [hW8]
            have HC8 := Lib.hid (show RpC w R X C S Y n e a c _ q1 av q2.length cv q2 n2 e2 a5 c5 W8 by rw [← hW8]; exact HC.out.keep (bel18_drewN (Below.refl _ _) nq))
            have HBW8 := Lib.hid (show Below wr.heap.size wr W8 by rw [← hW8]; exact bel18_drewN HBW.out nq)
            clear hW8 r0 r1 g0 g1 g2 s0 s1 hR hG hS
            have HNA := Lib.hid ((HC8.out.l.next n2 e2 a5 c5 HC8.out.row2 HOFF.out).keep (Below.refl _ _).drew)
            have HNB := Lib.hid ((HC8.out.l.next' n2 e2 a5 c5 HC8.out.row2 HOFF.out).keep (Below.refl _ _).drew)
            have HTT := Lib.hid (touch_rx (R := R) (X := X) (HTW.out.trans (touch_of_below HBW8.out)) (.int .u32 (n2 : Int)) (.int .i64 e2) (.slice a5 (lenP n2) c5) (.int .i64 e2))
            have HRA := Lib.hid (And.intro HN2.out (And.intro HE2.out.1 (And.intro HE2.out.2 (And.intro HNA.out HTT.out.1.drew))))
            have HRB := Lib.hid (And.intro HN2.out (And.intro HE2.out.1 (And.intro HE2.out.2 (And.intro HNB.out HTT.out.2.drew))))
            clear HNA HNB HTT
            have r0 := HC8.out.l.r.1
            have r1 := HC8.out.l.r.2.1
            have x0 := HC8.out.l.r.2.2.1
            have x1 := HC8.out.l.r.2.2.2
            obtain ⟨s0, s1, y0, y1⟩ := HC8.out.s
            have hne := HC8.out.l.ne
            have hne' : ¬ X = R := fun h => hne h.symm
            obtain ⟨hR, hX⟩ := HC8.out.l.lt
            have hS := block_lt_of_cell s0
            have hY := block_lt_of_cell y0
            simp only at hS hY
            have f0 := HC8.out.l.fr R 0 (.inl rfl)
            have f1 := HC8.out.l.fr R 1 (.inl rfl)
            have f2 := HC8.out.l.fr X 0 (.inr rfl)
            have f3 := HC8.out.l.fr X 1 (.inr rfl)
            have m1 : ¬ Y = R := by have := HYX.out; omega
            have m2 : ¬ Y = X := by have := HYX.out; omega
            have m3 : ¬ S = R := by have := HSX.out; omega
            have m4 : ¬ S = X := by have := HSX.out; omega
            have m5 : ¬ R = Y := fun h => m1 h.symm
            have m6 : ¬ X = Y := fun h => m2 h.symm
            have m7 : ¬ R = S := fun h => m3 h.symm
            have m8 : ¬ X = S := fun h => m4 h.symm
            go_upto_region 18 with (fail)
            go_region
            all_goals
              go_wp2
              go_roundw
              case rel => first | (refine ⟨k + 1, n2, e2, a5, c5, by omega, by go_num, ?_⟩; with_reducible exact HRA) | (refine ⟨k + 1, n2, e2, a5, c5, by omega, by go_num, ?_⟩; with_reducible exact HRB)
              case measure => simp [intOf] <;> omega
          · rw [hmh] at HHA
            have hdm : decide (2 * (q2.length : Int) ≤ (lenP n : Int)) = false := decide_eq_false (by omega)
            clear hml hmh
            go_upto_region 16 with (fail)
            refine wp_region_c18 (C := fun W => Both2 (RpC w R X C S Y n e a c _ q1 av q2.length cv q2 n2 e2 a5 c5 W) (Below wr.heap.size wr W)) (by kernel_rfl) (by kernel_rfl) ⟨HC.out.keep (Below.refl _ _).drew, HBW.out.drew⟩ ?_
            repeat
              (refine wpQuiet_step (fun K hK => ?_)
               go_simp
               first
                 | (refine hK _ ?_; clear hK K)
                 | (apply Exists.intro
                    refine ⟨fun W hW => ?_, hK _ ?_⟩
                    (first
                      | (go_at_call 18; exact (HLE.out W).mono fun r W' h => ⟨h.1, hW.1.keep h.2, hW.2.trans (h.2.mono hW.2.size)⟩)
                      | (go_at_call 19; exact (HHA.out W).mono fun r W' h => ⟨h.1, hW.1.keep h.2, hW.2.trans (h.2.mono hW.2.size)⟩)
                      | (have y0 := hW.1.l.r.1; have y1 := hW.1.l.r.2.1; have y2 := hW.1.l.r.2.2.1; have y3 := hW.1.l.r.2.2.2; have y4 := hW.1.g0; have y5 := hW.1.g1; have y6 := hW.1.g2; have y7 := hW.1.s.1; have y8 := hW.1.s.2.1; have y9 := hW.1.s.2.2.1; have y10 := hW.1.s.2.2.2; clear hW; go_simp; first | exact ⟨rfl, rfl⟩ | exact rfl | trivial))
                    clear hK K))
            refine wpQuiet_nil ?_
            intro W8 hW8
            have HC8 := Lib.hid hW8.1
            have HBW8 := Lib.hid hW8.2
            clear hW8
            have HNA := Lib.hid ((HC8.out.l.next n2 e2 a5 c5 HC8.out.row2 HOFF.out).keep (Below.refl _ _).drew)
            have HNB := Lib.hid ((HC8.out.l.next' n2 e2 a5 c5 HC8.out.row2 HOFF.out).keep (Below.refl _ _).drew)
            have HTT := Lib.hid (touch_rx (R := R) (X := X) (HTW.out.trans (touch_of_below HBW8.out)) (.int .u32 (n2 : Int)) (.int .i64 e2) (.slice a5 (lenP n2) c5) (.int .i64 e2))
            have HRA := Lib.hid (And.intro HN2.out (And.intro HE2.out.1 (And.intro HE2.out.2 (And.intro HNA.out HTT.out.1.drew))))
            have HRB := Lib.hid (And.intro HN2.out (And.intro HE2.out.1 (And.intro HE2.out.2 (And.intro HNB.out HTT.out.2.drew))))
            clear HNA HNB HTT
            have r0 := HC8.out.l.r.1
            have r1 := HC8.out.l.r.2.1
            have x0 := HC8.out.l.r.2.2.1
            have x1 := HC8.out.l.r.2.2.2
            obtain ⟨s0, s1, y0, y1⟩ := HC8.out.s
            have hne := HC8.out.l.ne
            have hne' : ¬ X = R := fun h => hne h.symm
            obtain ⟨hR, hX⟩ := HC8.out.l.lt
            have hS := block_lt_of_cell s0
            have hY := block_lt_of_cell y0
            simp only at hS hY
            have f0 := HC8.out.l.fr R 0 (.inl rfl)
            have f1 := HC8.out.l.fr R 1 (.inl rfl)
            have f2 := HC8.out.l.fr X 0 (.inr rfl)
            have f3 := HC8.out.l.fr X 1 (.inr rfl)
            have m1 : ¬ Y = R := by have := HYX.out; omega
            have m2 : ¬ Y = X := by have := HYX.out; omega
            have m3 : ¬ S = R := by have := HSX.out; omega
            have m4 : ¬ S = X := by have := HSX.out; omega
            have m5 : ¬ R = Y := fun h => m1 h.symm
            have m6 : ¬ X = Y := fun h => m2 h.symm
            have m7 : ¬ R = S := fun h => m3 h.symm
            have m8 : ¬ X = S := fun h => m4 h.symm
            go_upto_region 18 with (fail)
            go_region
            all_goals
              go_wp2
              go_roundw
              case rel => first | (refine ⟨k + 1, n2, e2, a5, c5, by omega, by go_num, ?_⟩; with_reducible exact HRA) | (refine ⟨k + 1, n2, e2, a5, c5, by omega, by go_num, ?_⟩; with_reducible exact HRB)
              case measure => simp [intOf] <;> omega
      · obtain rfl : k = D := by omega
        have hi1 : (k : Int) ≤ (k : Int) := by omega
        have HSS := Lib.hid (fun W => rsame_any n n e e W)
        simp only [twice_same] at HSS
        unfold rosV at HSS
        go_wp2_with fail
        refine (HSS.out _).mono ?_
        rintro r w2 ⟨rfl, hb2⟩
        have HBE := Lib.hid (HL.out.bel.trans (hb2.mono HL.out.bel.size))
        clear hb2
        go_wp2
        go_ret
        exact ⟨rfl, HBE.out⟩
end Go.Proofs.YtclecalhbmpipaaDoor
