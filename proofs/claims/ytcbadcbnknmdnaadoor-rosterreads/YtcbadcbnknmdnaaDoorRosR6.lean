/-
  Layer 18: the document's own: behind changes.
-/
import Derived.Test.YtcbadcbnknmdnaaDoorRosR5
import Derived.Test.YtcbadcbnknmdnaaDoorRos7
namespace Go.Proofs.YtcbadcbnknmdnaaDoor
open Go.RowKit
set_option linter.unusedVariables false

theorem act_row {w : World} {a : Option Addr} {c : Nat} {l : List Int} {N : Nat} (hN : l.length = N) (h : ActL w (.slice a N c) l) : IntRow .i64 w a l ∧ (a = none → l = []) := by
  obtain ⟨a', c', e1, h1, h2, h3, h4⟩ := h
  simp only [Value.slice.injEq] at e1
  obtain ⟨rfl, -, rfl⟩ := e1
  exact ⟨h3, h4⟩
theorem done_any (n : Nat) (a : Option Addr) (c : Nat) (e k p : Int) (V : List Int) (u : Value) (w : World) (h0 : ActL w (.slice a (lenP n) c) (lstP n)) (he : 0 ≤ e ∧ e ≤ 1000000) (hc : chk n ⟨k, p, V⟩ = 0) : Calls Tryd.prog 40 #[docV a (lenP n) c e, .agg #[.int .i64 k, .int .i64 p, u]] w (DocNew (lstP (doP n ⟨k, p, V⟩)) (e + 1) w) := by
  obtain ⟨h1, h2⟩ := act_row rfl h0
  have hr := chk_range hc
  have hh := chk_has hc
  simp only at hr hh
  by_cases hk : k = 1
  · subst hk
    have hh' : hasP n p = false := hh
    rw [show lstP (doP n ⟨1, p, V⟩) = lstP (n ^^^ 2 ^ p.toNat) from rfl, ← lst_join hr.1 hr.2.1 hh']
    exact done_join n a c e p u w h1 h2 he
  · have hh' : hasP n p = true := by
      rw [hh]
      have : (k == 1) = false := by rw [beq_eq_false_iff_ne]; exact hk
      rw [this]; rfl
    rw [show lstP (doP n ⟨k, p, V⟩) = lstP (n ^^^ 2 ^ p.toNat) from rfl, ← lst_leave hr.1 hr.2.1 hh']
    exact done_leave n a c e k p u w h1 hk he
/-- The document's With under way. -/
structure DwM (w : World) (v0 : Value) (e0 : Int) (v : Value) (e : Int) (wr : World) : Prop where
  r0 : wr.cell? ⟨w.heap.size, 0, none⟩ = some v0
  r1 : wr.cell? ⟨w.heap.size, 1, none⟩ = some (.int .i64 e0)
  s0 : wr.cell? ⟨w.heap.size + 1, 0, none⟩ = some (.slice none 0 0)
  s1 : wr.cell? ⟨w.heap.size + 1, 1, none⟩ = some (.int .i64 0)
  b0 : wr.cell? ⟨w.heap.size + 2, 0, none⟩ = some v
  b1 : wr.cell? ⟨w.heap.size + 2, 1, none⟩ = some (.int .i64 e)
  fr : ∀ b j, w.heap.size ≤ b → b ≤ w.heap.size + 2 → wr.frozen? ⟨b, j, none⟩ = false
  bel : Below w.heap.size w wr
theorem DwM.lt {w : World} {v0 : Value} {e0 : Int} {v : Value} {e : Int} {wr : World} (h : DwM w v0 e0 v e wr) : w.heap.size + 2 < wr.heap.size := block_lt_of_cell h.b0
theorem DwM.keep {w : World} {v0 : Value} {e0 : Int} {v : Value} {e : Int} {wr w' : World} (h : DwM w v0 e0 v e wr) (hb : Below wr.heap.size wr w') : DwM w v0 e0 v e w' := by
  have hl := h.lt
  have hc : ∀ b j, b ≤ w.heap.size + 2 → w'.cell? ⟨b, j, none⟩ = wr.cell? ⟨b, j, none⟩ := fun b j hb2 => hb.cell (p := ⟨b, j, none⟩) (show b < wr.heap.size by omega)
  exact ⟨(hc _ _ (by omega)).trans h.r0, (hc _ _ (by omega)).trans h.r1, (hc _ _ (by omega)).trans h.s0, (hc _ _ (by omega)).trans h.s1, (hc _ _ (by omega)).trans h.b0, (hc _ _ (by omega)).trans h.b1, fun b j h1 h2 => (hb.frozen (p := ⟨b, j, none⟩) (show b < wr.heap.size by omega)).trans (h.fr b j h1 h2), h.bel.trans (hb.mono h.bel.size)⟩
theorem DwM.set {w : World} {v0 : Value} {e0 : Int} {v : Value} {e : Int} {wr : World} (h : DwM w v0 e0 v e wr) (u : Value) (f : Int) : DwM w v0 e0 u f ((wr.setCell ⟨w.heap.size + 2, 0, none⟩ u).setCell ⟨w.heap.size + 2, 1, none⟩ (.int .i64 f)) := by
  have h1 : (wr.setCell ⟨w.heap.size + 2, 0, none⟩ u).cell? ⟨w.heap.size + 2, 1, none⟩ = some (.int .i64 e) := by
    rw [World.cell?_setCell_other _ _ _ _ (by simp)]; exact h.b1
  refine ⟨?_, ?_, ?_, ?_, ?_, World.cell?_setCell_same' _ _ _ (by rw [h1]; rfl), fun b j h1 h2 => by rw [World.frozen?_setCell, World.frozen?_setCell]; exact h.fr b j h1 h2, (h.bel.setCell (p := ⟨w.heap.size + 2, 0, none⟩) (by simp) _).setCell (p := ⟨w.heap.size + 2, 1, none⟩) (by simp) _⟩
  · rw [World.cell?_setCell_other _ _ _ _ (by simp), World.cell?_setCell_other _ _ _ _ (by simp)]; exact h.r0
  · rw [World.cell?_setCell_other _ _ _ _ (by simp), World.cell?_setCell_other _ _ _ _ (by simp)]; exact h.r1
  · rw [World.cell?_setCell_other _ _ _ _ (by simp), World.cell?_setCell_other _ _ _ _ (by simp)]; exact h.s0
  · rw [World.cell?_setCell_other _ _ _ _ (by simp), World.cell?_setCell_other _ _ _ _ (by simp)]; exact h.s1
  · rw [World.cell?_setCell_other _ _ _ _ (by simp)]
    exact World.cell?_setCell_same' _ _ _ (by rw [h.b0]; rfl)
theorem DwM.new (w : World) (v : Value) (e : Int) : DwM w v e v e (((w.alloc (.cells #[v, .int .i64 e] 30)).alloc (.cells #[.slice none 0 0, .int .i64 0] 30)).alloc (.cells #[v, .int .i64 e] 30)) := by
  have e1 : (w.alloc (.cells #[v, .int .i64 e] 30)).heap.size = w.heap.size + 1 := by simp
  have e2 : ((w.alloc (.cells #[v, .int .i64 e] 30)).alloc (.cells #[.slice none 0 0, .int .i64 0] 30)).heap.size = w.heap.size + 2 := by simp
  refine ⟨alloc_cell (alloc_cell (new_cell rfl rfl) _) _, alloc_cell (alloc_cell (new_cell rfl rfl) _) _, alloc_cell (new_cell e1.symm rfl) _, alloc_cell (new_cell e1.symm rfl) _, new_cell e2.symm rfl, new_cell e2.symm rfl, fun b j h1 h2 => ?_, bel_alloc (bel_alloc (bel_alloc (Below.refl _ _) _) _) _⟩
  by_cases h3 : b = w.heap.size + 2
  · subst h3
    rw [← e2]; exact frozen_new _ _ _ _
  · rw [frozen_old _ _ ⟨b, j, none⟩ (by simp; omega)]
    by_cases h4 : b = w.heap.size + 1
    · subst h4
      rw [← e1]; exact frozen_new _ _ _ _
    · obtain rfl : b = w.heap.size := by omega
      rw [frozen_old _ _ ⟨w.heap.size, j, none⟩ (by simp)]
      exact frozen_new _ _ _ _
/-- A list that came, or one of the call's own, is not touched by two stores to a box. -/
theorem act_set {w : World} {a : Option Addr} {N c : Nat} {l : List Int} {B : Nat} (h : ActL w (.slice a N c) l) (hne : ∀ x, a = some x → 0 < l.length → x.block ≠ B) (u v : Value) : ActL ((w.setCell ⟨B, 0, none⟩ u).setCell ⟨B, 1, none⟩ v) (.slice a N c) l := by
  obtain ⟨a', c', e1, h1, h2, h3, h4⟩ := h
  have e1' := e1
  simp only [Value.slice.injEq] at e1'
  obtain ⟨rfl, -, rfl⟩ := e1'
  refine ⟨a, c, e1, h1, h2, fun h0 => ?_, h4⟩
  exact (h3.touch (S := fun b => b = B) (((Touch.refl (fun b => b = B) w).setCell (p := ⟨B, 0, none⟩) (fun _ => rfl) _).setCell (p := ⟨B, 1, none⟩) (fun _ => rfl) _) (fun x hx e => hne x hx h0 e)) h0
theorem act_lt {w : World} {a : Option Addr} {N c : Nat} {l : List Int} (h : ActL w (.slice a N c) l) : ∀ x, a = some x → 0 < l.length → x.block < w.heap.size := fun x hx h0 => by
  obtain ⟨a', c', e1, h1, h2, h3, h4⟩ := h
  simp only [Value.slice.injEq] at e1
  obtain ⟨rfl, -, rfl⟩ := e1
  obtain ⟨b, off, e, hb⟩ := h3.lt h0
  rw [hx] at e
  cases e
  exact hb
def DwPost (n : Nat) (e : Int) (m : List Chg) (a0 : Option Addr) (w : World) (r : Ending) (w' : World) : Prop := ∃ a c, r = .returned (.tuple #[docV a (lenP (withP n e m).1) c (withP n e m).2.1, .int .i64 (withP n e m).2.2]) ∧ Hid (ActL w' (.slice a (lenP (withP n e m).1) c) (lstP (withP n e m).1)) ∧ ((a = a0 ∧ (withP n e m).1 = n) ∨ ∀ x, a = some x → w.heap.size ≤ x.block) ∧ Below w.heap.size w w'
theorem keep7r {w w' : World} {p1 p2 p3 p4 p5 p6 p7 : Addr} {a1 a2 a3 a4 a5 a6 a7 : Value} (hb : Below w.heap.size w w') (h : w.cell? p1 = some a1 ∧ w.cell? p2 = some a2 ∧ w.cell? p3 = some a3 ∧ w.cell? p4 = some a4 ∧ w.cell? p5 = some a5 ∧ w.cell? p6 = some a6 ∧ w.cell? p7 = some a7) : w'.cell? p1 = some a1 ∧ w'.cell? p2 = some a2 ∧ w'.cell? p3 = some a3 ∧ w'.cell? p4 = some a4 ∧ w'.cell? p5 = some a5 ∧ w'.cell? p6 = some a6 ∧ w'.cell? p7 = some a7 := by
  obtain ⟨h1, h2, h3, h4, h5, h6, h7⟩ := h
  exact ⟨(hb.cell (block_lt_of_cell h1)).trans h1, (hb.cell (block_lt_of_cell h2)).trans h2, (hb.cell (block_lt_of_cell h3)).trans h3, (hb.cell (block_lt_of_cell h4)).trans h4, (hb.cell (block_lt_of_cell h5)).trans h5, (hb.cell (block_lt_of_cell h6)).trans h6, (hb.cell (block_lt_of_cell h7)).trans h7⟩
theorem keep7s {w : World} {B : Nat} {u v : Value} {p1 p2 p3 p4 p5 p6 p7 : Addr} {a1 a2 a3 a4 a5 a6 a7 : Value} (hne : p1.block ≠ B ∧ p2.block ≠ B ∧ p3.block ≠ B ∧ p4.block ≠ B ∧ p5.block ≠ B ∧ p6.block ≠ B ∧ p7.block ≠ B) (h : w.cell? p1 = some a1 ∧ w.cell? p2 = some a2 ∧ w.cell? p3 = some a3 ∧ w.cell? p4 = some a4 ∧ w.cell? p5 = some a5 ∧ w.cell? p6 = some a6 ∧ w.cell? p7 = some a7) : ((w.setCell ⟨B, 0, none⟩ u).setCell ⟨B, 1, none⟩ v).cell? p1 = some a1 ∧ ((w.setCell ⟨B, 0, none⟩ u).setCell ⟨B, 1, none⟩ v).cell? p2 = some a2 ∧ ((w.setCell ⟨B, 0, none⟩ u).setCell ⟨B, 1, none⟩ v).cell? p3 = some a3 ∧ ((w.setCell ⟨B, 0, none⟩ u).setCell ⟨B, 1, none⟩ v).cell? p4 = some a4 ∧ ((w.setCell ⟨B, 0, none⟩ u).setCell ⟨B, 1, none⟩ v).cell? p5 = some a5 ∧ ((w.setCell ⟨B, 0, none⟩ u).setCell ⟨B, 1, none⟩ v).cell? p6 = some a6 ∧ ((w.setCell ⟨B, 0, none⟩ u).setCell ⟨B, 1, none⟩ v).cell? p7 = some a7 := by
  have hx : ∀ (p : Addr), p.block ≠ B → ((w.setCell ⟨B, 0, none⟩ u).setCell ⟨B, 1, none⟩ v).cell? p = w.cell? p := fun p hp => by
    rw [World.cell?_setCell_other _ _ _ _ (fun e => hp (by rw [← e])), World.cell?_setCell_other _ _ _ _ (fun e => hp (by rw [← e]))]
  obtain ⟨h1, h2, h3, h4, h5, h6, h7⟩ := h
  obtain ⟨n1, n2, n3, n4, n5, n6, n7⟩ := hne
  exact ⟨(hx _ n1).trans h1, (hx _ n2).trans h2, (hx _ n3).trans h3, (hx _ n4).trans h4, (hx _ n5).trans h5, (hx _ n6).trans h6, (hx _ n7).trans h7⟩
set_option maxRecDepth 100000 in
set_option maxHeartbeats 8000000 in
theorem dwith_any (n : Nat) (e : Int) (a0 : Option Addr) (c0 : Nat) (a : Option Addr) (cp : Nat) (ls : List (List Value)) (m : List Chg) (w : World) (he : 0 ≤ e ∧ e ≤ 900000) (h0 : ActL w (.slice a0 (lenP n) c0) (lstP n)) (hr : VRow 3 w a ls) (hi : ChIs w ls m) (hs : ChSmall m) (N : Nat) (hN : m.length = N) : Calls Tryd.prog 18 #[docV a0 (lenP n) c0 e, .slice a N cp] w (DwPost n e m a0 w) := by
  subst hN
  have HW := Lib.hid (DwM.new w (.slice a0 (lenP n) c0) e)
  have HROW := Lib.hid (fun W (hW : Below w.heap.size w W) => VRow.touch (by decide) (hi.wide) hr (touch_of_below (S := fun _ => False) hW) (fun _ _ => id))
  have HIS := Lib.hid hi
  have HSM := Lib.hid hs
  have HA0 := Lib.hid h0
  have HLT0 := Lib.hid (act_lt h0)
  have hm1 := hs.1
  have HF : Hid (∀ a c n' e' z W, withP n e m = (n', e', z) → ActL W (.slice a (lenP n') c) (lstP n') → ((a = a0 ∧ n' = n) ∨ ∀ x, a = some x → w.heap.size ≤ x.block) → Below w.heap.size w W → DwPost n e m a0 w (.returned (.tuple #[.agg #[.slice a (lenP n') c, .int .i64 e'], .int .i64 z])) W) := Lib.hid fun a c n' e' z W h1 h2 h3 h4 => by
    unfold DwPost
    rw [h1]
    exact ⟨a, c, rfl, Lib.hid h2, h3, h4⟩
  generalize hPost : DwPost n e m a0 w = Post at HF ⊢
  clear hPost hr hi hs h0
  unfold docV
  go_enter Tryd.func18, Tryd.ntmps18
  go_wp2
  generalize hD : m.length = D
  have HD := Lib.hid hD
  rw [hD] at hm1
  clear hD
  go_loopw [12] (fun i wr => ∃ (k : Nat) (ax : Option Addr) (cx : Nat), k ≤ D ∧ i = .int .i64 k ∧ Hid ((runP n (m.take k)).2 = 0 ∧ DwM w (.slice a0 (lenP n) c0) e (.slice ax (lenP (runP n (m.take k)).1) cx) (e + k) wr ∧ ActL wr (.slice ax (lenP (runP n (m.take k)).1) cx) (lstP (runP n (m.take k)).1) ∧ ((ax = a0 ∧ (runP n (m.take k)).1 = n) ∨ ∀ x, ax = some x → w.heap.size + 3 ≤ x.block))) (fun i _ => D - (intOf i).toNat)
  case atStart => exact ⟨0, a0, c0, by omega, rfl, Lib.hid ⟨rfl, by simpa [runP] using HW.out, by simpa [runP] using HA0.out.below HW.out.bel, .inl ⟨rfl, rfl⟩⟩⟩
  case round =>
    obtain ⟨k, ax, cx, hk, rfl, HM⟩ := hrel
    have hi0 : (0 : Int) ≤ (k : Int) := by omega
    by_cases hlt : k < D
    · have hi1 : (k : Int) < (D : Int) := by omega
      have hkm : k < m.length := by have := HD.out; omega
      obtain ⟨b, off, x, c, rfl, hb, c0', c1, c2, hact, -⟩ := ch_at (HROW.out _ HM.out.2.1.bel) HIS.out hkm
      have HT := Lib.hid (runP_take hkm HM.out.1)
      have HSTOP := Lib.hid (runP_stop hkm HM.out.1)
      have HV := Lib.hid (HSM.out.2 _ (List.getElem_mem hkm))
      have HMM := Lib.hid HM.out.2.1
      have HAX := Lib.hid HM.out.2.2.1
      have HFX := Lib.hid HM.out.2.2.2
      clear HM
      generalize m[k] = q at c0' c1 c2 hact HT HSTOP HV
      generalize (runP n (m.take k)).1 = n' at HT HSTOP HMM HAX HFX
      obtain ⟨q0, q1, q2⟩ := q
      simp only at c0' c1 c2 hact HV
      have HCK := Lib.hid (show ∀ W, Below w.heap.size w W → Below wr.heap.size wr W → Calls Tryd.prog 39 #[docV ax (lenP n') cx (e + k), chV q0 q1 x q2.length c] W (ChkPost n' ⟨q0, q1, q2⟩ W) from fun W hW hW2 => by
        obtain ⟨x', c', hx, h1, h2, h3, h4⟩ := hact
        simp only [Value.slice.injEq, true_and] at hx
        obtain ⟨rfl, rfl⟩ := hx
        exact dcheck_any n' ax cx (e + k) q0 q1 x c q2 W ((act_row rfl HAX.out).1.below hW2) (h3.below hW) HV.out)
      unfold docV chV at HCK
      clear hact hkm
      have hbig := HMM.out.lt
      have hA : Below wr.heap.size wr (wr.alloc (.cells #[.int .i64 q0, .int .i64 q1, .slice x q2.length c] 47)) := bel_alloc (Below.refl _ _) _
      have HM2 := Lib.hid (HMM.out.keep hA)
      have b0 := HM2.out.b0
      have b1 := HM2.out.b1
      have hbig2 := HM2.out.lt
      go_wp2_with fail
      refine (HCK.out _ HM2.out.bel hA).mono ?_
      rintro r w2 ⟨rfl, hb2⟩
      have HBK := Lib.hid (hA.trans (hb2.mono hA.size))
      have HM3 := Lib.hid (HMM.out.keep HBK.out)
      obtain ⟨z0, z1, z2⟩ := keep3r hb2 (show (wr.alloc (.cells #[.int .i64 q0, .int .i64 q1, .slice x q2.length c] 47)).cell? ⟨wr.heap.size, 0, none⟩ = some (.int .i64 q0) ∧ (wr.alloc (.cells #[.int .i64 q0, .int .i64 q1, .slice x q2.length c] 47)).cell? ⟨wr.heap.size, 1, none⟩ = some (.int .i64 q1) ∧ (wr.alloc (.cells #[.int .i64 q0, .int .i64 q1, .slice x q2.length c] 47)).cell? ⟨wr.heap.size, 2, none⟩ = some (.slice x q2.length c) from ⟨new_cell rfl rfl, new_cell rfl rfl, new_cell rfl rfl⟩)
      have hwr2 : wr.heap.size < w2.heap.size := block_lt_of_cell z1
      generalize wr.heap.size = X at z0 z1 z2 hwr2 hbig ⊢
      clear hb2 HM2 b0 b1 c0' c1 c2 hbig2 hA
      have r0 := HM3.out.r0
      have r1 := HM3.out.r1
      have b0 := HM3.out.b0
      have b1 := HM3.out.b1
      have s0 := HM3.out.s0
      have s1 := HM3.out.s1
      have hbig2 := HM3.out.lt
      have f10 := HM3.out.fr (w.heap.size + 1) 0 (by omega) (by omega)
      have f11 := HM3.out.fr (w.heap.size + 1) 1 (by omega) (by omega)
      have f20 := HM3.out.fr (w.heap.size + 2) 0 (by omega) (by omega)
      have f21 := HM3.out.fr (w.heap.size + 2) 1 (by omega) (by omega)
      by_cases hz : chk n' ⟨q0, q1, q2⟩ = 0
      · have hT2 := HT.out
        rw [if_pos hz] at hT2
        have HT2 := Lib.hid hT2
        have HAX2 := Lib.hid (show ActL w2 (.slice ax (lenP n') cx) (lstP n') from HAX.out.below HBK.out)
        have HON := Lib.hid (done_any n' ax cx (e + k) q0 q1 q2 (.slice x q2.length c) w2 HAX2.out (by omega) hz)
        unfold docV DocNew at HON
        rw [hz]
        clear hz hT2 HT HSTOP HCK
        go_wp2_with fail
        refine HON.out.mono ?_
        rintro r w3 ⟨a3, c3, rfl, HA3, hfr3, hb3⟩
        unfold docV
        have HM4 := Lib.hid (HM3.out.keep hb3)
        have HFR3 := Lib.hid (show ∀ x, a3 = some x → w.heap.size + 3 ≤ x.block from fun x hx => by have := hfr3 x hx; omega)
        clear r0 r1 b0 b1 s0 s1 f10 f11 f20 f21 hbig2 hb3 hfr3 z0 z1 z2 hwr2
        have b0 := HM4.out.b0
        have b1 := HM4.out.b1
        have f20 := HM4.out.fr (w.heap.size + 2) 0 (by omega) (by omega)
        have f21 := HM4.out.fr (w.heap.size + 2) 1 (by omega) (by omega)
        have hbig2 := HM4.out.lt
        have HM5 := Lib.hid (HM4.out.set (.slice a3 (lstP (doP n' ⟨q0, q1, q2⟩)).length c3) (e + (k : Int) + 1))
        have HA5 := Lib.hid (act_set HA3.out (B := w.heap.size + 2) (fun x hx _ => by have := HFR3.out x hx; omega) (.slice a3 (lstP (doP n' ⟨q0, q1, q2⟩)).length c3) (.int .i64 (e + (k : Int) + 1)))
        have HREL : Hid ((runP n (m.take (k + 1))).2 = 0 ∧ DwM w (.slice a0 (lenP n) c0) e (.slice a3 (lenP (runP n (m.take (k + 1))).1) c3) (e + ((k + 1 : Nat) : Int)) _ ∧ ActL _ (.slice a3 (lenP (runP n (m.take (k + 1))).1) c3) (lstP (runP n (m.take (k + 1))).1) ∧ ((a3 = a0 ∧ (runP n (m.take (k + 1))).1 = n) ∨ ∀ x, a3 = some x → w.heap.size + 3 ≤ x.block)) := Lib.hid ⟨by rw [HT2.out], by rw [HT2.out, show e + ((k + 1 : Nat) : Int) = e + (k : Int) + 1 by omega]; exact HM5.out, by rw [HT2.out]; exact HA5.out, .inr HFR3.out⟩
        clear HA3 HM5 HA5 HON
        go_wp2
        go_roundw
        case rel => exact ⟨k + 1, a3, c3, by omega, by go_num, HREL⟩
        case measure => simp [intOf] <;> omega
      · have HWP := Lib.hid (show withP n e m = (n, e, chk n' ⟨q0, q1, q2⟩) by unfold withP; rw [HSTOP.out hz]; simp only; rw [if_neg hz])
        unfold ChkPost at HCK
        generalize chk n' ⟨q0, q1, q2⟩ = z at hz HWP HCK ⊢
        have hzb : (z == 0) = false := by rw [beq_eq_false_iff_ne]; exact hz
        have HB2 := Lib.hid HM3.out.bel
        clear HT HSTOP
        go_wp2_with fail
        go_region_held3 (fun w' => w'.cell? ⟨w.heap.size, 0, none⟩ = some (.slice a0 (lenP n) c0) ∧ w'.cell? ⟨w.heap.size, 1, none⟩ = some (.int .i64 e) ∧ w'.cell? ⟨w.heap.size + 2, 0, none⟩ = some (.slice ax (lenP n') cx) ∧ w'.cell? ⟨w.heap.size + 2, 1, none⟩ = some (.int .i64 (e + k)) ∧ w'.cell? ⟨X, 0, none⟩ = some (.int .i64 q0) ∧ w'.cell? ⟨X, 1, none⟩ = some (.int .i64 q1) ∧ w'.cell? ⟨X, 2, none⟩ = some (.slice x q2.length c))
          (first
            | assumption
            | (with_reducible exact keep7s ⟨by simp, by simp, by simp, by simp, by simp; omega, by simp; omega, by simp; omega⟩ (keep7r (w := w2) HK3.out ⟨r0, r1, b0, b1, z0, z1, z2⟩))
            | exact keep7r (w := w2) (by (repeat' (first | exact Below.refl _ _ | exact HK3.out | refine Below.drew ?_)); done) ⟨r0, r1, b0, b1, z0, z1, z2⟩)
          (first | (go_at_call 39; refine (HCK.out _ HB2.out.drew HBK.out.drew).mono ?_; rintro r w3 ⟨rfl, hb3⟩; have HK3 := Lib.hid (show Below w2.heap.size w2 w3 from (Below.refl _ w2).drew.trans hb3); obtain ⟨s0, s1, f10, f11, hlt6⟩ := keepRes HK3.out ⟨s0, s1, f10, f11⟩; simp only at hlt6; clear hb3))
        all_goals
          have HAE := Lib.hid (act_set (HA0.out.below (HB2.out.trans (HK3.out.mono HB2.out.size))) (B := w.heap.size + 1) (fun x hx h9 => by have := HLT0.out x hx h9; omega) (.slice a0 (lenP n) c0) (.int .i64 e))
          have HBF := Lib.hid (HB2.out.trans (HK3.out.mono HB2.out.size))
          go_wp2
          exact bodyPost_ret (v := .tuple #[.agg #[.slice a0 (lenP n) c0, .int .i64 e], .int .i64 z]) (by simp [results, Tryd.results18, go_sem, s0, s1]) rfl (HF.out _ _ _ _ _ _ HWP.out HAE.out (.inl ⟨rfl, rfl⟩) (by repeat (first | exact HBF.out | refine Below.setCell ?_ (by first | (simp; done) | (simp; omega)) _)))
    · obtain rfl : k = D := by omega
      have HWP := Lib.hid (show withP n e m = ((runP n (m.take k)).1, e + k, 0) by
        have h1 := HM.out.1
        rw [List.take_of_length_le (by rw [HD.out]; exact Nat.le_refl _)] at h1 ⊢
        unfold withP
        rw [if_pos h1, HD.out])
      have HMM := Lib.hid HM.out.2.1
      have HAX := Lib.hid HM.out.2.2.1
      have HFX := Lib.hid HM.out.2.2.2
      clear HM
      generalize (runP n (m.take k)).1 = n' at HWP HMM HAX HFX
      have hi1 : (k : Int) ≤ (k : Int) := by omega
      have b0 := HMM.out.b0
      have b1 := HMM.out.b1
      have s0 := HMM.out.s0
      have s1 := HMM.out.s1
      have hbig := HMM.out.lt
      have f10 := HMM.out.fr (w.heap.size + 1) 0 (by omega) (by omega)
      have f11 := HMM.out.fr (w.heap.size + 1) 1 (by omega) (by omega)
      have HAE := Lib.hid (act_set HAX.out (B := w.heap.size + 1) (fun x hx h9 => by
        rcases HFX.out with ⟨h8, h7⟩ | h8
        · subst h7
          have := HLT0.out x (by rw [← h8]; exact hx) h9
          omega
        · have := h8 x hx; omega) (.slice ax (lenP n') cx) (.int .i64 (e + k)))
      have HFE : Hid ((ax = a0 ∧ n' = n) ∨ ∀ x, ax = some x → w.heap.size ≤ x.block) := Lib.hid (HFX.out.imp id fun h x hx => by have := h x hx; omega)
      go_wp2
      exact bodyPost_ret (v := .tuple #[.agg #[.slice ax (lenP n') cx, .int .i64 (e + k)], .int .i64 0]) (by simp [results, Tryd.results18, go_sem, s0, s1]) rfl (HF.out _ _ _ _ _ _ HWP.out HAE.out HFE.out (by repeat (first | exact HMM.out.bel | refine Below.setCell ?_ (by first | (simp; done) | (simp; omega)) _)))
end Go.Proofs.YtcbadcbnknmdnaaDoor
