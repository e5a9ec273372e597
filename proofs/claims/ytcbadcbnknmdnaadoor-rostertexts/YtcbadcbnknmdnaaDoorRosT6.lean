/-
  Layer 18: the document's reader of a roster.
-/
import Derived.Test.YtcbadcbnknmdnaaDoorRosT5
namespace Go.Proofs.YtcbadcbnknmdnaaDoor
open Go.RowKit
set_option linter.unusedVariables false

def RrPost (T : St × Nat × Nat) (w : World) (r : Ending) (w' : World) : Prop := ∃ a c, r = .returned (.tuple #[.agg #[.string (bs T.1.1), .int .i64 (T.1.2 : Nat)], docV a (lenP (rosT T).1) c ((rosT T).2 : Nat)]) ∧ Below w.heap.size w w' ∧ Hid (ActL w' (.slice a (lenP (rosT T).1) c) (lstP (rosT T).1))
theorem R5.res {w : World} {st : St} {wr : World} (h : R5 w st wr) (y0 y1 x0 x1 : Value) : Below w.heap.size w ((((wr.setCell ⟨w.heap.size + 1, 0, none⟩ y0).setCell ⟨w.heap.size + 1, 1, none⟩ y1).setCell ⟨w.heap.size + 2, 0, none⟩ x0).setCell ⟨w.heap.size + 2, 1, none⟩ x1) := by
  have a1 : w.heap.size ≤ w.heap.size + 1 := by omega
  have a2 : w.heap.size ≤ w.heap.size + 2 := by omega
  exact (((h.bel.setCell (p := ⟨w.heap.size + 1, 0, none⟩) a1 _).setCell (p := ⟨w.heap.size + 1, 1, none⟩) a1 _).setCell (p := ⟨w.heap.size + 2, 0, none⟩) a2 _).setCell (p := ⟨w.heap.size + 2, 1, none⟩) a2 _
theorem act_res5 {w : World} {C : Nat} {st : St} {k : Int} {a : Option Addr} {c : Nat} {V : List Int} {wr : World} (h : RdR w C st k a c V wr) (y0 y1 x0 x1 : Value) : ActL ((((wr.setCell ⟨w.heap.size + 1, 0, none⟩ y0).setCell ⟨w.heap.size + 1, 1, none⟩ y1).setCell ⟨w.heap.size + 2, 0, none⟩ x0).setCell ⟨w.heap.size + 2, 1, none⟩ x1) (.slice a V.length c) V := by
  have hlo := h.lo
  refine own18_act (h.row.touch (S := fun z => z ≤ w.heap.size + 2) (((((Touch.refl (fun z => z ≤ w.heap.size + 2) wr).setCell (p := ⟨w.heap.size + 1, 0, none⟩) (fun _ => ?_) _).setCell (p := ⟨w.heap.size + 1, 1, none⟩) (fun _ => ?_) _).setCell (p := ⟨w.heap.size + 2, 0, none⟩) (fun _ => ?_) _).setCell (p := ⟨w.heap.size + 2, 1, none⟩) (fun _ => ?_) _) (fun y hy e => by have := h.row.2 y hy; omega)) <;> (simp only; omega)
set_option maxRecDepth 100000 in
set_option maxHeartbeats 2000000 in
theorem refRead18_any (st : St) (w : World) (h : StOk st) : Calls Tryd.prog 28 #[.agg #[.string (bs st.1), .int .i64 (st.2 : Nat)]] w (RrPost (rosS st) w) := by
  have hR : rosS st = ((countS (countS st 4294967295).1 1099511627776).1, (countS st 4294967295).2, (countS (countS st 4294967295).1 1099511627776).2) := rfl
  have HF : Hid (∀ a c n (e : Nat) W, rosT (rosS st) = (n, e) → Below w.heap.size w W → ActL W (.slice a (lstP n).length c) (lstP n) → RrPost (rosS st) w (.returned (.tuple #[.agg #[.string (bs (rosS st).1.1), .int .i64 ((rosS st).1.2 : Nat)], .agg #[.slice a (lstP n).length c, .int .i64 (e : Nat)]])) W) := Lib.hid fun a c n e W h1 h2 h3 => by
    unfold RrPost
    rw [h1]
    exact ⟨a, c, rfl, h2, Lib.hid h3⟩
  generalize hPost : RrPost (rosS st) w = Post at HF ⊢
  clear hPost
  generalize rosS st = T at HF hR
  have hC1 := fun W => refTakeCount_any st.1 st.2 4294967295 W (by decide) (by decide) h.2 h.1
  have k1 := countS_stOk (most := 4294967295) h
  have HB0 := Lib.hid (R5.new w st)
  have hle := countS_le st 4294967295
  obtain ⟨l0, e0⟩ := st
  simp only at hC1 hR HB0 hle ⊢
  generalize countS (l0, e0) 4294967295 = t1 at hC1 hR k1 hle
  obtain ⟨s1, n1⟩ := t1
  simp only [inV] at hC1
  simp only at hR k1 hle
  have hC2 := fun W => refTakeCount_any s1.1 s1.2 1099511627776 W (by decide) (by decide) k1.2 k1.1
  rw [show (s1.1, s1.2) = s1 from rfl] at hC2
  generalize countS s1 1099511627776 = t2 at hC2 hR
  obtain ⟨⟨lq, eq⟩, n2⟩ := t2
  simp only [inV] at hC2
  simp only at hR
  have HC1 := Lib.hid hC1
  have HC2 := Lib.hid hC2
  have HLE := Lib.hid hle
  have HF1 : Hid (T.1 = (lq, eq)) := Lib.hid (by rw [hR])
  have HF2 : Hid (rosT T = if eq = 0 then (n1, n2) else (0, 0)) := Lib.hid (by rw [hR]; rfl)
  clear hC1 hC2 hR h k1 hle
  go_enter Tryd.func28, Tryd.ntmps28
  go_wp2_with fail
  refine (HC1.out _).mono ?_
  rintro r w1 ⟨rfl, hb1⟩
  have HB1 := Lib.hid (HB0.out.keep hb1)
  have HX1 := Lib.hid (HB1.out.set s1)
  have a0 := HB1.out.i0
  have a1 := HB1.out.i1
  have g0 := HB1.out.fr w.heap.size 0 (by omega) (by omega)
  have g1 := HB1.out.fr w.heap.size 1 (by omega) (by omega)
  have hz := HB1.out.lt
  have hzw : w.heap.size < w1.heap.size := by omega
  clear hb1 HB0 HB1 HC1
  go_wp2_with fail
  clear a0 a1 g0 g1 hz hzw
  refine (HC2.out _).mono ?_
  rintro r w2 ⟨rfl, hb2⟩
  have HB2 := Lib.hid (HX1.out.keep hb2)
  have HX2 := Lib.hid (HB2.out.set (lq, eq))
  have a0 := HB2.out.i0
  have a1 := HB2.out.i1
  have g0 := HB2.out.fr w.heap.size 0 (by omega) (by omega)
  have g1 := HB2.out.fr w.heap.size 1 (by omega) (by omega)
  have hz := HB2.out.lt
  have hzw : w.heap.size < w2.heap.size := by omega
  clear hb2 HX1 HC2
  by_cases he : eq = 0
  · subst he
    have hf2 := HF2.out
    rw [if_pos rfl] at hf2
    have HG2 := Lib.hid hf2
    have HM : Hid (RdR w w2.heap.size (lq, 0) (n2 : Int) none 0 [] (((w2.setCell ⟨w.heap.size, 0, none⟩ (.string (bs lq))).setCell ⟨w.heap.size, 1, none⟩ (.int .i64 (0 : Nat))).alloc (.cells #[.slice none 0 0, .int .i64 (n2 : Int)] 30))) := Lib.hid (by
      have hP : ((w2.setCell ⟨w.heap.size, 0, none⟩ (.string (bs lq))).setCell ⟨w.heap.size, 1, none⟩ (.int .i64 (0 : Nat))).heap.size = w2.heap.size := by simp
      exact ⟨HX2.out.keep (bel_alloc (Below.refl _ _) _), ⟨World.ownsRow_nil _ _ _ _, (fun x hx => by cases hx)⟩, new_cell hP.symm rfl, new_cell hP.symm rfl, (by rw [← hP]; exact frozen_new _ _ _ _), hz⟩)
    clear hf2 HF2 HB2 HX2
    go_wp2
    generalize ((w2.setCell ⟨w.heap.size, 0, none⟩ (.string (bs lq))).setCell ⟨w.heap.size, 1, none⟩ (.int .i64 ((0 : Nat) : Int))).alloc (.cells #[.slice none 0 0, .int .i64 (n2 : Int)] 30) = W3 at HM ⊢
    generalize w2.heap.size = C at HM ⊢
    go_loopw [4, 7] (fun s i wr => ∃ (j : Nat) (a : Option Addr) (c : Nat), j ≤ 32 ∧ i = .int .i64 j ∧ s = .int .i64 ((n1 / 2 ^ j : Nat) : Int) ∧ Hid (RdR w C (lq, 0) (n2 : Int) a c (lstK n1 j) wr)) (fun _ i _ => 32 - (intOf i).toNat)
    case atStart => exact ⟨0, none, 0, by omega, rfl, by simp, HM⟩
    case round =>
      obtain ⟨j, a, c, hj, rfl, rfl, HM⟩ := hrel
      have hi0 : (0 : Int) ≤ (j : Int) := by omega
      have hz := HM.out.i.lt
      have hlo := HM.out.lo
      have hCl := HM.out.lt
      have hzw : w.heap.size < wr.heap.size := by omega
      by_cases hlt : j < 32
      · have hi1 : (j : Int) < 32 := by omega
        have HS := Lib.hid (lstK_succ n1 j)
        have HL := Lib.hid (lstK_len n1 j)
        have HBT := Lib.hid (bit_div n1 j)
        have HNX : Hid (n1 / 2 ^ (j + 1) = n1 / 2 ^ j / 2) := Lib.hid (by rw [Nat.pow_succ, Nat.div_div_eq_div_mul])
        have hm : n1 / 2 ^ j ≤ 4294967295 := Nat.le_trans (Nat.div_le_self _ _) (by have := HLE.out; omega)
        generalize n1 / 2 ^ j = m at HBT HNX hm ⊢
        have hnx : ((n1 / 2 ^ (j + 1) : Nat) : Int) = (m : Int) / 2 := by rw [HNX.out]; omega
        by_cases hb : m % 2 = 1
        · have hbi : (m : Int) % 2 = 1 := by omega
          have HS2 : Hid (lstK n1 (j + 1) = lstK n1 j ++ [(j : Int)]) := Lib.hid (by rw [HS.out, HBT.out]; simp [hb])
          obtain ⟨a', c', w', hrun, hcell, hfz, hnew⟩ := HM.out.push (j : Int) (by have := HL.out; omega)
          have HN2 : Hid (RdR w C (lq, 0) (n2 : Int) a' c' (lstK n1 (j + 1)) (w'.setCell ⟨C, 0, none⟩ (.slice a' ((lstK n1 j).length + 1) c'))) := Lib.hid (by rw [HS2.out]; exact hnew)
          have HR := Lib.hid hrun
          have c0 := HM.out.c0
          have hlw2 := block_lt_of_cell hcell
          simp only at hlw2
          generalize (lstK n1 j).length = nn at HR HN2 hcell c0
          clear hnew hrun HS HM HS2 HBT
          go_wp2_with (at_builtin; refine wpList_append_run _ rfl (.tmp 33) (.tmp 35) 22 22 rfl _ _ rfl rfl (.slice a' (nn + 1) c') w' HR.out ?_)
          go_roundw
          case rel => exact ⟨j + 1, a', c', by omega, by go_num, congrArg (Value.int .i64) hnx.symm, HN2⟩
          case measure => simp [intOf] <;> omega
        · have hbi : (m : Int) % 2 = 0 := by omega
          have HS2 : Hid (lstK n1 (j + 1) = lstK n1 j) := Lib.hid (by rw [HS.out, HBT.out]; simp [hb])
          have HN2 : Hid (RdR w C (lq, 0) (n2 : Int) a c (lstK n1 (j + 1)) wr) := Lib.hid (by rw [HS2.out]; exact HM.out)
          clear HS HM HS2 HBT hb
          go_wp2
          go_roundw
          case rel => exact ⟨j + 1, a, c, by omega, by go_num, congrArg (Value.int .i64) hnx.symm, HN2⟩
          case measure => simp [intOf] <;> omega
      · obtain rfl : j = 32 := by omega
        have i0 := HM.out.i.i0
        have i1 := HM.out.i.i1
        have c0 : wr.cell? ⟨C, 0, none⟩ = some (.slice a (lstP n1).length c) := HM.out.c0
        have c1 := HM.out.c1
        have p0 := HM.out.i.s0
        have p1 := HM.out.i.s1
        have q0 := (show wr.cell? ⟨w.heap.size + 1 + 1, 0, none⟩ = _ from HM.out.i.t0)
        have q1 := (show wr.cell? ⟨w.heap.size + 1 + 1, 1, none⟩ = _ from HM.out.i.t1)
        have d0 := HM.out.i.fr (w.heap.size + 1) 0 (by omega) (by omega)
        have d1 := HM.out.i.fr (w.heap.size + 1) 1 (by omega) (by omega)
        have z0 := HM.out.i.fr (w.heap.size + 1 + 1) 0 (by omega) (by omega)
        have z1 := HM.out.i.fr (w.heap.size + 1 + 1) 1 (by omega) (by omega)
        have hs8 : w.heap.size + 1 < wr.heap.size := by omega
        have hs9 : w.heap.size + 1 + 1 < wr.heap.size := by omega
        have hc1 : ¬ C = w.heap.size + 1 := by omega
        have hc1' : ¬ w.heap.size + 1 = C := by omega
        have hc2 : ¬ C = w.heap.size + 1 + 1 := by omega
        have hc2' : ¬ w.heap.size + 1 + 1 = C := by omega
        have HBW := Lib.hid (fun y0 y1 x0 x1 => HM.out.i.res y0 y1 x0 x1)
        have HAC : Hid (∀ y0 y1 x0 x1, ActL ((((wr.setCell ⟨w.heap.size + 1, 0, none⟩ y0).setCell ⟨w.heap.size + 1, 1, none⟩ y1).setCell ⟨w.heap.size + 2, 0, none⟩ x0).setCell ⟨w.heap.size + 2, 1, none⟩ x1) (.slice a (lstP n1).length c) (lstP n1)) := Lib.hid (fun y0 y1 x0 x1 => act_res5 HM.out y0 y1 x0 x1)
        clear HM HLE
        go_wp2_with fail
        go_region
        all_goals
          go_wp2
          refine bodyPost_ret (v := .tuple #[.agg #[.string (bs lq), .int .i64 (0 : Nat)], .agg #[.slice a (lstP n1).length c, .int .i64 (n2 : Int)]]) (by simp [results, Tryd.results28, go_sem, p0, p1, q0, q1]) rfl ?_
          have HX := HF.out a c n1 n2 _ HG2.out (HBW.out (.string (bs lq)) (.int .i64 (0 : Nat)) (.slice a (lstP n1).length c) (.int .i64 (n2 : Int))).drew (act18_drew (HAC.out (.string (bs lq)) (.int .i64 (0 : Nat)) (.slice a (lstP n1).length c) (.int .i64 (n2 : Int)))); rw [HF1.out] at HX; exact HX
  · have hf2 := HF2.out
    rw [if_neg he] at hf2
    have HG2 := Lib.hid hf2
    have heb : ((eq : Int) == 0) = false := by rw [beq_eq_false_iff_ne]; omega
    have heb2 : ((eq : Int) != 0) = true := by simp; omega
    have hei : ¬ (eq : Int) = 0 := by omega
    have p0 := HB2.out.s0
    have p1 := HB2.out.s1
    have q0 := (show w2.cell? ⟨w.heap.size + 1 + 1, 0, none⟩ = _ from HB2.out.t0)
    have q1 := (show w2.cell? ⟨w.heap.size + 1 + 1, 1, none⟩ = _ from HB2.out.t1)
    have d0 := HB2.out.fr (w.heap.size + 1) 0 (by omega) (by omega)
    have d1 := HB2.out.fr (w.heap.size + 1) 1 (by omega) (by omega)
    have z0 := HB2.out.fr (w.heap.size + 1 + 1) 0 (by omega) (by omega)
    have z1 := HB2.out.fr (w.heap.size + 1 + 1) 1 (by omega) (by omega)
    have hs8 : w.heap.size + 1 < w2.heap.size := by omega
    have hs9 : w.heap.size + 1 + 1 < w2.heap.size := by omega
    have HBW := Lib.hid (fun y0 y1 x0 x1 => HX2.out.res y0 y1 x0 x1)
    clear he hf2 HF2 HB2 HX2
    go_wp2_with fail
    · refine bodyPost_ret (v := .tuple #[.agg #[.string (bs lq), .int .i64 (eq : Nat)], .agg #[.slice none 0 0, .int .i64 0]]) (by simp [results, Tryd.results28, go_sem, p0, p1, q0, q1]) rfl ?_
      have HX := HF.out none 0 0 0 _ HG2.out (HBW.out (.string (bs lq)) (.int .i64 (eq : Nat)) (.slice none 0 0) (.int .i64 0)) (nil_act _); rw [HF1.out] at HX; exact HX
end Go.Proofs.YtcbadcbnknmdnaaDoor
