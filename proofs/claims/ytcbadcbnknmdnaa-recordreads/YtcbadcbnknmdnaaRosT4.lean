/-
  Layer 18: the document's reader of a change.
-/
import Derived.Test.YtcbadcbnknmdnaaRosT3
namespace Go.Proofs.Ytcbadcbnknmdnaa
open Go.RowKit
set_option linter.unusedVariables false

def RrcPost (T : St × Chg) (w : World) (r : Ending) (w' : World) : Prop := ∃ a c, r = .returned (.tuple #[.agg #[.string (bs T.1.1), .int .i64 (T.1.2 : Nat)], chV (chgT T).k (chgT T).p a (chgT T).v.length c]) ∧ Below w.heap.size w w' ∧ Hid (ActL w' (.slice a (chgT T).v.length c) (chgT T).v ∧ ∀ x, a = some x → w.heap.size ≤ x.block)
theorem R3.res {w : World} {st : St} {wr : World} (h : R3 w st wr) (y0 y1 x0 x1 x2 : Value) : Below w.heap.size w (((((wr.setCell ⟨w.heap.size + 1, 0, none⟩ y0).setCell ⟨w.heap.size + 1, 1, none⟩ y1).setCell ⟨w.heap.size + 2, 0, none⟩ x0).setCell ⟨w.heap.size + 2, 1, none⟩ x1).setCell ⟨w.heap.size + 2, 2, none⟩ x2) := by
  have a1 : w.heap.size ≤ w.heap.size + 1 := by omega
  have a2 : w.heap.size ≤ w.heap.size + 2 := by omega
  exact ((((h.bel.setCell (p := ⟨w.heap.size + 1, 0, none⟩) a1 _).setCell (p := ⟨w.heap.size + 1, 1, none⟩) a1 _).setCell (p := ⟨w.heap.size + 2, 0, none⟩) a2 _).setCell (p := ⟨w.heap.size + 2, 1, none⟩) a2 _).setCell (p := ⟨w.heap.size + 2, 2, none⟩) a2 _
theorem act_res {w : World} {C : Nat} {st : St} {k p : Int} {a : Option Addr} {c : Nat} {V : List Int} {wr : World} (h : RdC w C st k p a c V wr) (y0 y1 x0 x1 x2 : Value) : ActL (((((wr.setCell ⟨w.heap.size + 1, 0, none⟩ y0).setCell ⟨w.heap.size + 1, 1, none⟩ y1).setCell ⟨w.heap.size + 2, 0, none⟩ x0).setCell ⟨w.heap.size + 2, 1, none⟩ x1).setCell ⟨w.heap.size + 2, 2, none⟩ x2) (.slice a V.length c) V := by
  have hlo := h.lo
  refine own18_act (h.row.touch (S := fun z => z ≤ w.heap.size + 2) ((((((Touch.refl (fun z => z ≤ w.heap.size + 2) wr).setCell (p := ⟨w.heap.size + 1, 0, none⟩) (fun _ => ?_) _).setCell (p := ⟨w.heap.size + 1, 1, none⟩) (fun _ => ?_) _).setCell (p := ⟨w.heap.size + 2, 0, none⟩) (fun _ => ?_) _).setCell (p := ⟨w.heap.size + 2, 1, none⟩) (fun _ => ?_) _).setCell (p := ⟨w.heap.size + 2, 2, none⟩) (fun _ => ?_) _) (fun y hy e => by have := h.row.2 y hy; omega)) <;> (simp only; omega)
theorem act18_drew {w : World} {v : Value} {l : List Int} (h : ActL w v l) : ActL w.drew v l := h
set_option maxRecDepth 100000 in
set_option maxHeartbeats 2000000 in
theorem refReadChange_any (st : St) (w : World) (h : StOk st) : Calls Try.prog 76 #[.agg #[.string (bs st.1), .int .i64 (st.2 : Nat)]] w (RrcPost (chgS st) w) := by
  have hR : chgS st = ((runS votS (countS (countS (countS st 3).1 31).1 32).2 (countS (countS (countS st 3).1 31).1 32).1).1, ⟨((countS st 3).2 : Int), ((countS (countS st 3).1 31).2 : Int), (runS votS (countS (countS (countS st 3).1 31).1 32).2 (countS (countS (countS st 3).1 31).1 32).1).2⟩) := rfl
  have HF : Hid (∀ a c k p (V : List Int) W, chgT (chgS st) = ⟨k, p, V⟩ → Below w.heap.size w W → ActL W (.slice a V.length c) V → (∀ x, a = some x → w.heap.size ≤ x.block) → RrcPost (chgS st) w (.returned (.tuple #[.agg #[.string (bs (chgS st).1.1), .int .i64 ((chgS st).1.2 : Nat)], .agg #[.int .i64 k, .int .i64 p, .slice a V.length c]])) W) := Lib.hid fun a c k p V W h1 h2 h3 h4 => by
    unfold RrcPost
    rw [h1]
    exact ⟨a, c, rfl, h2, Lib.hid ⟨h3, h4⟩⟩
  generalize hPost : RrcPost (chgS st) w = Post at HF ⊢
  clear hPost
  generalize chgS st = T at HF hR
  have hC1 := fun W => refTakeCount_any st.1 st.2 3 W (by decide) (by decide) h.2 h.1
  have k1 := countS_stOk (most := 3) h
  have HB0 := Lib.hid (R3.new w st)
  obtain ⟨l0, e0⟩ := st
  simp only at hC1 hR HB0 ⊢
  generalize countS (l0, e0) 3 = t1 at hC1 hR k1
  obtain ⟨s1, n1⟩ := t1
  simp only [inV] at hC1
  simp only at hR k1
  have hC2 := fun W => refTakeCount_any s1.1 s1.2 31 W (by decide) (by decide) k1.2 k1.1
  rw [show (s1.1, s1.2) = s1 from rfl] at hC2
  have k2 := countS_stOk (most := 31) k1
  generalize countS s1 31 = t2 at hC2 hR k2
  obtain ⟨s2, n2⟩ := t2
  simp only [inV] at hC2
  simp only at hR k2
  have hC3 := fun W => refTakeCount_any s2.1 s2.2 32 W (by decide) (by decide) k2.2 k2.1
  rw [show (s2.1, s2.2) = s2 from rfl] at hC3
  have k3 := countS_stOk (most := 32) k2
  have hle := countS_le s2 32
  generalize countS s2 32 = t3 at hC3 hR k3 hle
  obtain ⟨s3, n⟩ := t3
  simp only [inV] at hC3
  simp only at hR k3 hle
  have HC1 := Lib.hid hC1
  have HC2 := Lib.hid hC2
  have HC3 := Lib.hid hC3
  have HR := Lib.hid hR
  have HOK := Lib.hid (fun j => runS_stOk (fun s hs => votS_ok hs) j k3)
  have HST := Lib.hid (fun j (hj : j ≤ n) => run_stuck k3 hj)
  clear hC1 hC2 hC3 hR h k1 k2 k3
  go_enter Try.func76, Try.ntmps76
  go_wp2_with fail
  refine (HC1.out _).mono ?_
  rintro r w1 ⟨rfl, hb1⟩
  have HB1 := Lib.hid (HB0.out.keep hb1)
  have HX1 := Lib.hid (HB1.out.set s1)
  have a0 := HB1.out.i0
  have a1 := HB1.out.i1
  have g0 := HB1.out.fr w.heap.size 0 (by omega) (by omega)
  have g1 := HB1.out.fr w.heap.size 1 (by omega) (by omega)
  have hz := HB1.out.lt
  have hzw : w.heap.size < w1.heap.size := by omega
  clear hb1 HB0 HB1 HC1
  go_wp2_with fail
  clear a0 a1 g0 g1 hz hzw
  refine (HC2.out _).mono ?_
  rintro r w2 ⟨rfl, hb2⟩
  have HB2 := Lib.hid (HX1.out.keep hb2)
  have HX2 := Lib.hid (HB2.out.set s2)
  have a0 := HB2.out.i0
  have a1 := HB2.out.i1
  have g0 := HB2.out.fr w.heap.size 0 (by omega) (by omega)
  have g1 := HB2.out.fr w.heap.size 1 (by omega) (by omega)
  have hz := HB2.out.lt
  have hzw : w.heap.size < w2.heap.size := by omega
  clear hb2 HX1 HB2 HC2
  go_wp2_with fail
  clear a0 a1 g0 g1 hz hzw
  refine (HC3.out _).mono ?_
  rintro r w3 ⟨rfl, hb3⟩
  have HB3 := Lib.hid (HX2.out.keep hb3)
  have a0 := HB3.out.i0
  have a1 := HB3.out.i1
  have g0 := HB3.out.fr w.heap.size 0 (by omega) (by omega)
  have g1 := HB3.out.fr w.heap.size 1 (by omega) (by omega)
  have hz := HB3.out.lt
  have hzw : w.heap.size < w3.heap.size := by omega
  have HM : Hid (RdC w w3.heap.size s3 (n1 : Int) (n2 : Int) none 0 [] (((w3.setCell ⟨w.heap.size, 0, none⟩ (.string (bs s3.1))).setCell ⟨w.heap.size, 1, none⟩ (.int .i64 (s3.2 : Nat))).alloc (.cells #[.int .i64 (n1 : Int), .int .i64 (n2 : Int), .slice none 0 0] 105))) := Lib.hid (by
    have hP : ((w3.setCell ⟨w.heap.size, 0, none⟩ (.string (bs s3.1))).setCell ⟨w.heap.size, 1, none⟩ (.int .i64 (s3.2 : Nat))).heap.size = w3.heap.size := by simp
    exact ⟨(HB3.out.set s3).keep (bel_alloc (Below.refl _ _) _), ⟨World.ownsRow_nil _ _ _ _, (fun x hx => by cases hx)⟩, new_cell hP.symm rfl, new_cell hP.symm rfl, new_cell hP.symm rfl, (by rw [← hP]; exact frozen_new _ _ _ _), hz⟩)
  clear hb3 HX2 HB3 HC3
  go_wp2
  generalize ((w3.setCell ⟨w.heap.size, 0, none⟩ (.string (bs s3.1))).setCell ⟨w.heap.size, 1, none⟩ (.int .i64 (s3.2 : Nat))).alloc (.cells #[.int .i64 (n1 : Int), .int .i64 (n2 : Int), .slice none 0 0] 105) = W3 at HM ⊢
  generalize w3.heap.size = C at HM ⊢
  go_loopw [8] (fun i wr => ∃ (j : Nat) (a : Option Addr) (c : Nat), j ≤ n ∧ i = .int .i64 j ∧ Hid (RdC w C (runS votS j s3).1 (n1 : Int) (n2 : Int) a c (runS votS j s3).2 wr)) (fun i _ => n - (intOf i).toNat)
  case atStart => exact ⟨0, none, 0, by omega, rfl, HM⟩
  case round =>
    obtain ⟨j, a, c, hj, rfl, HM⟩ := hrel
    have hi0 : (0 : Int) ≤ (j : Int) := by omega
    have hln := runS_len votS j s3
    have hsj := HST.out j hj
    have hok := HOK.out j
    have HFIN : Hid ((j = n ∨ (runS votS j s3).1.2 ≠ 0) → T.1 = (runS votS j s3).1 ∧ chgT T = if (runS votS j s3).1.2 = 0 then ⟨(n1 : Int), (n2 : Int), (runS votS j s3).2⟩ else ⟨0, 0, []⟩) := Lib.hid (fun hh => by
      have hq : (runS votS n s3).1 = (runS votS j s3).1 := by
        rcases hh with e | e
        · rw [e]
        · exact hsj e
      rw [HR.out]
      refine ⟨hq, ?_⟩
      show chgT ((runS votS n s3).1, ⟨(n1 : Int), (n2 : Int), (runS votS n s3).2⟩) = _
      unfold chgT
      simp only [hq]
      split
      · rename_i hz
        rcases hh with e | e
        · rw [e]
        · exact absurd hz e
      · rfl)
    have HN : Hid (runS votS (j + 1) s3 = ((votS (runS votS j s3).1).1, (runS votS j s3).2 ++ [(votS (runS votS j s3).1).2])) := Lib.hid rfl
    clear hsj
    generalize runS votS j s3 = q at HM HN hln hok HFIN
    obtain ⟨⟨lq, eq⟩, V⟩ := q
    simp only at HM HN hln hok HFIN
    have i0 := HM.out.i.i0
    have i1 := HM.out.i.i1
    have g0 := HM.out.i.fr w.heap.size 0 (by omega) (by omega)
    have g1 := HM.out.i.fr w.heap.size 1 (by omega) (by omega)
    have hz := HM.out.i.lt
    have hzw : w.heap.size < wr.heap.size := by omega
    have hCl := HM.out.lt
    have HLO := Lib.hid HM.out.lo
    by_cases hgo : j < n ∧ eq = 0
    · obtain ⟨hlt, rfl⟩ := hgo
      have hi1 : (j : Int) < (n : Int) := by omega
      have hC := fun W => refTakeCount_any lq 0 31 W (by decide) (by decide) hok.2 hok.1
      have hV : votS (lq, 0) = ((countS (lq, 0) 31).1, ((countS (lq, 0) 31).2 : Int)) := rfl
      generalize countS (lq, 0) 31 = t4 at hV hC
      obtain ⟨s4, n4⟩ := t4
      simp only [inV] at hC
      simp only at hV
      rw [hV] at HN
      simp only at HN
      have HC := Lib.hid hC
      have HLN := Lib.hid hln
      clear hC hV hln hok HFIN
      go_wp2_with fail
      clear i0 i1 g0 g1 hz hzw hCl
      refine (HC.out _).mono ?_
      rintro r w4 ⟨rfl, hb4⟩
      have HM4 := Lib.hid (HM.out.keep hb4)
      clear hb4 HC HM
      have i0 := HM4.out.i.i0
      have i1 := HM4.out.i.i1
      have g0 := HM4.out.i.fr w.heap.size 0 (by omega) (by omega)
      have g1 := HM4.out.i.fr w.heap.size 1 (by omega) (by omega)
      have hz := HM4.out.i.lt
      have hzw : w.heap.size < w4.heap.size := by omega
      have HM5 := Lib.hid ((HM4.out.set s4).keep (bel_alloc (o := .cells #[.string (bs s4.1), .int .i64 (s4.2 : Nat)] 57) (Below.refl _ _)))
      have c2 := HM5.out.c2
      have hCl := HM5.out.lt
      obtain ⟨a5, c5, w5, hr5, e5, f5, hm5⟩ := HM5.out.push (n4 : Int) (by have := HLN.out; omega)
      rw [show (((w4.setCell ⟨w.heap.size, 0, none⟩ (.string (bs s4.1))).setCell ⟨w.heap.size, 1, none⟩ (.int .i64 (s4.2 : Nat))).alloc (.cells #[.string (bs s4.1), .int .i64 (s4.2 : Nat)] 57)).heap.size = w4.heap.size + 1 from by simp] at hr5
      have HR5 := Lib.hid hr5
      have HM6 := Lib.hid hm5
      have hC5 := block_lt_of_cell e5
      simp only at hC5
      clear hr5 hm5 HM4 HM5
      go_wp2_with (at_builtin; refine wpList_append_run _ rfl (.tmp 46) (.tmp 48) 22 22 rfl _ _ rfl rfl (.slice a5 (V.length + 1) c5) w5 HR5.out ?_)
      go_roundw
      case rel => exact ⟨j + 1, a5, c5, by omega, by go_num, Lib.hid (by rw [HN.out]; exact HM6.out)⟩
      case measure => simp [intOf] <;> omega
    · have hex : j = n ∨ eq ≠ 0 := by omega
      obtain ⟨hT1, hT2⟩ := HFIN.out hex
      have c0 := HM.out.c0
      have c1 := HM.out.c1
      have c2 := HM.out.c2
      have p0 := HM.out.i.s0
      have p1 := HM.out.i.s1
      have q0 := (show wr.cell? ⟨w.heap.size + 1 + 1, 0, none⟩ = _ from HM.out.i.t0)
      have q1 := (show wr.cell? ⟨w.heap.size + 1 + 1, 1, none⟩ = _ from HM.out.i.t1)
      have q2 := (show wr.cell? ⟨w.heap.size + 1 + 1, 2, none⟩ = _ from HM.out.i.t2)
      have d0 := HM.out.i.fr (w.heap.size + 1) 0 (by omega) (by omega)
      have d1 := HM.out.i.fr (w.heap.size + 1) 1 (by omega) (by omega)
      have z0 := HM.out.i.fr (w.heap.size + 1 + 1) 0 (by omega) (by omega)
      have z1 := HM.out.i.fr (w.heap.size + 1 + 1) 1 (by omega) (by omega)
      have z2 := HM.out.i.fr (w.heap.size + 1 + 1) 2 (by omega) (by omega)
      have hs8 : w.heap.size + 1 < wr.heap.size := by omega
      have hs9 : w.heap.size + 1 + 1 < wr.heap.size := by omega
      have hlo := HLO.out
      have hc1 : ¬ C = w.heap.size + 1 := by omega
      have hc1' : ¬ w.heap.size + 1 = C := by omega
      have hc2 : ¬ C = w.heap.size + 1 + 1 := by omega
      have hc2' : ¬ w.heap.size + 1 + 1 = C := by omega
      have HBW := Lib.hid (fun y0 y1 x0 x1 x2 => HM.out.i.res y0 y1 x0 x1 x2)
      have HAC := Lib.hid (fun y0 y1 x0 x1 x2 => act_res HM.out y0 y1 x0 x1 x2)
      have HFR := Lib.hid (fun (x : Addr) (hx : a = some x) => show w.heap.size ≤ x.block by have h1 := HM.out.row.2 x hx; have h2 := HM.out.lo; omega)
      have HF1 := Lib.hid hT1
      clear hln hok HN hT1 HFIN HR HOK HST
      by_cases he : eq = 0
      · subst he
        obtain rfl : j = n := by omega
        have hi1 : (j : Int) ≤ (j : Int) := by omega
        rw [if_pos rfl] at hT2
        have HF2 := Lib.hid hT2
        clear hT2 hex hgo
        go_wp2_with fail
        go_region
        all_goals
          go_wp2
          refine bodyPost_ret (v := .tuple #[.agg #[.string (bs lq), .int .i64 (0 : Nat)], .agg #[.int .i64 (n1 : Int), .int .i64 (n2 : Int), .slice a V.length c]]) (by simp [results, Try.results76, go_sem, p0, p1, q0, q1, q2]) rfl ?_
          have HX := HF.out a c (n1 : Int) (n2 : Int) V _ HF2.out (HBW.out (.string (bs lq)) (.int .i64 (0 : Nat)) (.int .i64 (n1 : Int)) (.int .i64 (n2 : Int)) (.slice a V.length c)).drew (act18_drew (HAC.out (.string (bs lq)) (.int .i64 (0 : Nat)) (.int .i64 (n1 : Int)) (.int .i64 (n2 : Int)) (.slice a V.length c))) (fun x hx => by have h1 := HFR.out x hx; omega); rw [HF1.out] at HX; exact HX
      · have heb : ((eq : Int) == 0) = false := by rw [beq_eq_false_iff_ne]; omega
        have heb2 : ((eq : Int) != 0) = true := by simp; omega
        have hei : ¬ (eq : Int) = 0 := by omega
        rw [if_neg he] at hT2
        have HF2 := Lib.hid hT2
        clear hT2 hex hgo he
        by_cases hlt : j < n
        · have hi1 : (j : Int) < (n : Int) := by omega
          go_wp2_with fail
          · refine bodyPost_ret (v := .tuple #[.agg #[.string (bs lq), .int .i64 (eq : Nat)], .agg #[.int .i64 0, .int .i64 0, .slice none 0 0]]) (by simp [results, Try.results76, go_sem, p0, p1, q0, q1, q2]) rfl ?_
            have HX := HF.out none 0 0 0 [] _ HF2.out (HBW.out (.string (bs lq)) (.int .i64 (eq : Nat)) (.int .i64 0) (.int .i64 0) (.slice none 0 0)) (nil_act _) (fun x hx => by cases hx); rw [HF1.out] at HX; exact HX
        · have hi1 : (n : Int) ≤ (j : Int) := by omega
          go_wp2_with fail
          · refine bodyPost_ret (v := .tuple #[.agg #[.string (bs lq), .int .i64 (eq : Nat)], .agg #[.int .i64 0, .int .i64 0, .slice none 0 0]]) (by simp [results, Try.results76, go_sem, p0, p1, q0, q1, q2]) rfl ?_
            have HX := HF.out none 0 0 0 [] _ HF2.out (HBW.out (.string (bs lq)) (.int .i64 (eq : Nat)) (.int .i64 0) (.int .i64 0) (.slice none 0 0)) (nil_act _) (fun x hx => by cases hx); rw [HF1.out] at HX; exact HX
end Go.Proofs.Ytcbadcbnknmdnaa
