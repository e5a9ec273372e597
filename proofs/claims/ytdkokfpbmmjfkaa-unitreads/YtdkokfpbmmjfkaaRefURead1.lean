/-
  Layer 8: the document's own reading of a unit.
-/
import Derived.Test.YtdkokfpbmmjfkaaUnRead2
import Derived.Test.YtdkokfpbmmjfkaaRefParse
namespace Go.Proofs.Ytdkokfpbmmjfkaa
open Go.RowKit
set_option linter.unusedVariables false

/-- The document's reader in its box, the answer's boxes, the unit at U. -/
structure ROm (w : World) (U : Nat) (id : Int) (st : St) (l : List Int) (wr : World) : Prop where
  bx : Bx w wr #[.string (bs st.1), .int .i64 (st.2 : Nat)] #[.string ⟨#[]⟩, .int .i64 0] #[.int .i64 0, .int .i64 0, .int .i64 0, .int .i64 0, .int .i64 0, .int .i64 0]
  box : UBox U id l wr
  lt : w.heap.size + 1 + 1 < U
theorem ROm.keep {w : World} {U : Nat} {id : Int} {st : St} {l : List Int} {wr w' : World} (h : ROm w U id st l wr) (hb : Below wr.heap.size wr w') : ROm w U id st l w' :=
  ⟨h.bx.keep hb, h.box.touch (touch_of_below (S := fun _ => False) hb) (fun e => e), h.lt⟩
theorem ROm.set1 {w : World} {U : Nat} {id : Int} {st : St} {l : List Int} {wr : World} (h : ROm w U id st l wr) (st' : St) : ROm w U id st' l ((wr.setCell ⟨w.heap.size, 0, none⟩ (.string (bs st'.1))).setCell ⟨w.heap.size, 1, none⟩ (.int .i64 (st'.2 : Nat))) := by
  have hl := h.lt
  exact ⟨h.bx.set1 _ _, h.box.touch (((Touch.refl (fun k => k = w.heap.size) wr).setCell (p := ⟨w.heap.size, 0, none⟩) (fun _ => rfl) _).setCell (p := ⟨w.heap.size, 1, none⟩) (fun _ => rfl) _) (by show ¬ U = w.heap.size; omega), h.lt⟩
theorem ROm.setU {w : World} {U : Nat} {id : Int} {st : St} {l : List Int} {wr : World} (h : ROm w U id st l wr) (hl : l.length < 5) (x : Int) : ROm w U id st (l ++ [x]) (wr.setCell ⟨U, 1 + l.length, none⟩ (.int .i64 x)) :=
  ⟨h.bx.far h.lt _, h.box.set hl x, h.lt⟩
def set8 (w : World) (X : Nat) (y0 y1 x0 x1 x2 x3 x4 x5 : Value) : World := ((((((((w.setCell ⟨X + 1, 0, none⟩ y0).setCell ⟨X + 1, 1, none⟩ y1).setCell ⟨X + 1 + 1, 0, none⟩ x0).setCell ⟨X + 1 + 1, 1, none⟩ x1).setCell ⟨X + 1 + 1, 2, none⟩ x2).setCell ⟨X + 1 + 1, 3, none⟩ x3).setCell ⟨X + 1 + 1, 4, none⟩ x4).setCell ⟨X + 1 + 1, 5, none⟩ x5)
theorem ROm.fin {w : World} {U : Nat} {id : Int} {st : St} {l : List Int} {wr : World} (h : ROm w U id st l wr) (y0 y1 x0 x1 x2 x3 x4 x5 : Value) : Below w.heap.size w (set8 wr w.heap.size y0 y1 x0 x1 x2 x3 x4 x5) := by
  have a1 : w.heap.size ≤ w.heap.size + 1 := by omega
  have a2 : w.heap.size ≤ w.heap.size + 1 + 1 := by omega
  exact (((((((h.bx.bel.setCell (p := ⟨w.heap.size + 1, 0, none⟩) a1 _).setCell (p := ⟨w.heap.size + 1, 1, none⟩) a1 _).setCell (p := ⟨w.heap.size + 1 + 1, 0, none⟩) a2 _).setCell (p := ⟨w.heap.size + 1 + 1, 1, none⟩) a2 _).setCell (p := ⟨w.heap.size + 1 + 1, 2, none⟩) a2 _).setCell (p := ⟨w.heap.size + 1 + 1, 3, none⟩) a2 _).setCell (p := ⟨w.heap.size + 1 + 1, 4, none⟩) a2 _).setCell (p := ⟨w.heap.size + 1 + 1, 5, none⟩) a2 _
set_option maxRecDepth 100000 in
set_option maxHeartbeats 1000000 in
theorem refOne_any (st : St) (last next : Int) (w : World) (h : StOk st) (h0 : 0 ≤ last) (h1 : last ≤ 1099511627776) :
    Calls Try.prog 66 #[.agg #[.string (bs st.1), .int .i64 (st.2 : Nat)], .int .i64 last, .int .i64 next] w fun r w' => r = .returned (.tuple #[.agg #[.string (bs (oneO next last st).1.1), .int .i64 ((oneO next last st).1.2 : Nat)], unV (oneO next last st).2]) ∧ Below w.heap.size w w' := by
  have hC := fun W => refTakeCount_any st.1 st.2 1099511627776 W (by decide) (by decide) h.2 h.1
  rw [show countS (st.1, st.2) 1099511627776 = cntS 1099511627776 st from rfl] at hC
  have hle := (cntR 1099511627776 (by decide)).le st
  have hok := (cntR 1099511627776 (by decide)).ok st h
  have hS : oneO next last st = (failS (rdU last st).1 (ordE last next (rdU last st).2), (rdU last st).2) := by simp only [oneO, oneG, rdU]
  have hS2 := rdG_eq fieldS (cntS 1099511627776) last st
  rw [← show rdU last st = rdG fieldS (cntS 1099511627776) last st from rfl] at hS2
  rw [hS2] at hS
  simp only at hS
  clear hS2
  generalize oneO next last st = res at hS ⊢
  obtain ⟨l0, e0⟩ := st
  simp only at hC ⊢
  generalize cntS 1099511627776 (l0, e0) = t at hC hle hok hS
  obtain ⟨s1, n⟩ := t
  simp only [inV_eq] at hC
  simp only at hle hok hS
  have HC := Lib.hid hC
  have HS := Lib.hid hS
  have HOK := Lib.hid hok
  have HB0 := Lib.hid (Bx.new w #[.string (bs l0), .int .i64 (e0 : Nat)] #[.string ⟨#[]⟩, .int .i64 0] #[.int .i64 0, .int .i64 0, .int .i64 0, .int .i64 0, .int .i64 0, .int .i64 0] 46 46 113)
  have hwr : IntKind.i64.wrap (last + (n : Int)) = last + (n : Int) := by rw [IntKind.wrap_i64]; omega
  clear hC hS h hok
  go_enter Try.func66, Try.ntmps66
  go_wp2_with fail
  refine (HC.out _).mono ?_
  rintro r w1 ⟨rfl, hb1⟩
  have HB1 := Lib.hid (HB0.out.keep hb1)
  have HB2 := Lib.hid (HB1.out.set1 (.string (bs s1.1)) (.int .i64 (s1.2 : Nat)))
  have a0 := (HB1.out.c1 0).trans rfl
  have a1 := (HB1.out.c1 1).trans rfl
  have g0 := HB1.out.f1 0
  have g1 := HB1.out.f1 1
  have hz := HB1.out.sz
  have hzw : w.heap.size < w1.heap.size := by omega
  clear hb1 HB0 HB1
  have HM : Hid (ROm w w1.heap.size (last + (n : Int)) s1 [] (((w1.setCell ⟨w.heap.size, 0, none⟩ (.string (bs s1.1))).setCell ⟨w.heap.size, 1, none⟩ (.int .i64 (s1.2 : Nat))).alloc (.cells #[.int .i64 (last + (n : Int)), .int .i64 0, .int .i64 0, .int .i64 0, .int .i64 0, .int .i64 0] 113))) := by
    have hu := UBox.new ((w1.setCell ⟨w.heap.size, 0, none⟩ (.string (bs s1.1))).setCell ⟨w.heap.size, 1, none⟩ (.int .i64 (s1.2 : Nat))) (last + (n : Int)) 113
    rw [show ((w1.setCell ⟨w.heap.size, 0, none⟩ (.string (bs s1.1))).setCell ⟨w.heap.size, 1, none⟩ (.int .i64 (s1.2 : Nat))).heap.size = w1.heap.size by simp] at hu
    exact Lib.hid ⟨HB2.out.keep (bel_alloc (Below.refl _ _) _), hu, hz⟩
  go_wp2
  clear a0 a1 g0 g1 hz hzw HB2
  generalize hid : last + (n : Int) = id at HM HS
  generalize w1.heap.size = U at HM ⊢
  go_loopw [10] (fun iv wr => ∃ k : Nat, k ≤ 5 ∧ iv = .int .i64 k ∧ Hid (ROm w U id (fsG fieldS k s1).1 (fsG fieldS k s1).2 wr)) (fun iv _ => 5 - (intOf iv).toNat)
  case atStart => exact ⟨0, by omega, rfl, HM⟩
  case round =>
    obtain ⟨k, hk, rfl, HR⟩ := hrel
    by_cases hlt : k < 5
    · have hN := fsG_succ fieldS k s1
      have hln := fsG_len fieldS k s1
      have hok := fsG_stOk' (k := k) HOK.out
      generalize fsG fieldS k s1 = q at HR hN hln hok
      obtain ⟨sq, lq⟩ := q
      simp only at HR hN hln hok
      rw [fieldS_eq] at hN
      have hI := fun W => refTakeInt_any sq.1 sq.2 W hok.2 hok.1
      rw [show (sq.1, sq.2) = sq from rfl] at hI
      generalize numS sq = t2 at hI hN
      obtain ⟨s2, m⟩ := t2
      simp only [inV_eq] at hI
      simp only at hN
      generalize unzig m = x at hI hN
      have HI := Lib.hid hI
      have HN := Lib.hid hN
      have HMB := Lib.hid (fun W => refMay_any k x W (by omega))
      have i0 := (HR.out.bx.c1 0).trans rfl
      have i1 := (HR.out.bx.c1 1).trans rfl
      have hsz := HR.out.bx.sz
      have hsz0 : w.heap.size < wr.heap.size := by omega
      have hk0 : (0 : Int) ≤ (k : Int) := by omega
      have hk1 : (k : Int) < (5 : Int) := by omega
      clear hI hN hok
      go_wp2_with fail
      refine (HI.out _).mono ?_
      rintro r w2 ⟨rfl, hb2⟩
      have HM2 := Lib.hid (HR.out.keep hb2)
      clear HR hb2 HI i0 i1 hsz hsz0 HM
      have i0 := (HM2.out.bx.c1 0).trans rfl
      have i1 := (HM2.out.bx.c1 1).trans rfl
      have f0 := HM2.out.bx.f1 0
      have f1 := HM2.out.bx.f1 1
      have uc := HM2.out.box.c k hlt
      rw [Nat.add_comm k] at uc
      have uf := HM2.out.box.f (1 + k)
      have hUl := HM2.out.box.lt
      have hUI := HM2.out.lt
      have hUn : U ≠ w.heap.size := by omega
      have hsz := HM2.out.bx.sz
      have hsz0 : w.heap.size < w2.heap.size := by omega
      have HM3 := Lib.hid ((HM2.out.set1 s2).setU (by rw [hln]; exact hlt) x)
      rw [hln] at HM3
      have HM4 := Lib.hid (HM3.out.keep (bel_alloc (Below.refl _ _) (.cells #[.string (bs s2.1), .int .i64 (s2.2 : Nat)] 46)))
      clear HM2 HM3
      go_wp2_with fail
      generalize ((((w2.setCell ⟨w.heap.size, 0, none⟩ (.string (bs s2.1))).setCell ⟨w.heap.size, 1, none⟩ (.int .i64 (s2.2 : Nat))).setCell ⟨U, 1 + k, none⟩ (.int .i64 x)).alloc (.cells #[.string (bs s2.1), .int .i64 (s2.2 : Nat)] 46)) = W4 at HM4 ⊢
      clear i0 i1 f0 f1 uc uf hUl hUI hUn hsz hsz0
      refine (HMB.out _).mono ?_
      rintro r w3 ⟨rfl, rfl⟩
      cases hm : mayN k x
      · have HNF := Lib.hid (show fsG fieldS (k + 1) s1 = (failS s2 4, lq ++ [x]) by rw [HN.out, hm]; rfl)
        have hF := fun W => refFail_any s2.1 s2.2 4 W
        rw [show (s2.1, s2.2) = s2 from rfl] at hF
        generalize failS s2 4 = s5 at hF HNF
        simp only [inV_eq] at hF
        have HF := Lib.hid hF
        have i0 := (HM4.out.bx.c1 0).trans rfl
        have i1 := (HM4.out.bx.c1 1).trans rfl
        have hsz := HM4.out.bx.sz
        have hsz0 : w.heap.size < W4.heap.size := by omega
        clear hm HN hF
        go_wp2_with fail
        refine (HF.out _).mono ?_
        rintro r w5 ⟨rfl, hb5⟩
        have HM5 := Lib.hid (HM4.out.keep hb5)
        clear hb5 i0 i1 hsz hsz0 HM4 HF
        have i0 := (HM5.out.bx.c1 0).trans rfl
        have i1 := (HM5.out.bx.c1 1).trans rfl
        have f0 := HM5.out.bx.f1 0
        have f1 := HM5.out.bx.f1 1
        have hsz := HM5.out.bx.sz
        have hsz0 : w.heap.size < w5.heap.size := by omega
        have HM6 := Lib.hid (HM5.out.set1 s5)
        clear HM5
        go_wp2
        go_roundw
        case rel => exact ⟨k + 1, by omega, by go_num, by rw [HNF.out]; exact HM6⟩
        case measure => simp [intOf]; omega
      · have HNF := Lib.hid (show fsG fieldS (k + 1) s1 = (s2, lq ++ [x]) by rw [HN.out, hm]; simp [failS])
        clear hm HN
        go_wp2
        go_roundw
        case rel => exact ⟨k + 1, by omega, by go_num, by rw [HNF.out]; exact HM4⟩
        case measure => simp [intOf]; omega
    · obtain rfl : k = 5 := by omega
      clear HM HC
      generalize hq : fsG fieldS 5 s1 = q at HR HS
      obtain ⟨s5, lq⟩ := q
      simp only at HR HS
      have hle2 : id = last + (n : Int) := hid.symm
      clear hq hid
      have HLE := Lib.hid hle2
      have hE0 : ((n : Int) == 0) = true ↔ id = last := by simp; omega
      have v0 := HR.out.box.c0
      have hUl := HR.out.box.lt
      have hUI := HR.out.lt
      clear hle2
      by_cases hE : id = last ∨ next ≤ id
      · have HNF := Lib.hid (show res = (failS s5 12, unOf id lq) by rw [HS.out]; rw [show ordE last next (unOf id lq) = 12 from if_pos hE])
        have hF := fun W => refFail_any s5.1 s5.2 12 W
        rw [show (s5.1, s5.2) = s5 from rfl] at hF
        generalize failS s5 12 = s6 at hF HNF
        simp only [inV_eq] at hF
        have HF := Lib.hid hF
        have i0 := (HR.out.bx.c1 0).trans rfl
        have i1 := (HR.out.bx.c1 1).trans rfl
        have hsz := HR.out.bx.sz
        have hsz0 : w.heap.size < wr.heap.size := by omega
        have hcase : ((n : Int) == 0) = true ∨ (((n : Int) == 0) = false ∧ decide (next ≤ id) = true) := by
          by_cases h : (n : Int) = 0
          · exact .inl (by simpa using h)
          · refine .inr ⟨by simpa using h, ?_⟩
            have := HLE.out
            simp; omega
        clear hE hF HS hE0
        rcases hcase with hq | ⟨hq, hq2⟩
        all_goals
          go_wp2_with fail
          refine (HF.out _).mono ?_
          rintro r w5 ⟨rfl, hb5⟩
          have HM5 := Lib.hid (HR.out.keep hb5)
          clear hb5 i0 i1 hsz hsz0 v0 hUl
          have k0 := (HM5.out.bx.c1 0).trans rfl
          have k1 := (HM5.out.bx.c1 1).trans rfl
          have f0 := HM5.out.bx.f1 0
          have f1 := HM5.out.bx.f1 1
          have hsz := HM5.out.bx.sz
          have hsz0 : w.heap.size < w5.heap.size := by omega
          have HMz := Lib.hid (HM5.out.set1 s6)
          clear HM5
          go_upto_region 13 with (fail)
          generalize (w5.setCell ⟨w.heap.size, 0, none⟩ (.string (bs s6.1))).setCell ⟨w.heap.size, 1, none⟩ (.int .i64 (s6.2 : Nat)) = Wz at HMz ⊢
          clear k0 k1 f0 f1 hsz hsz0
          have i0 := (HMz.out.bx.c1 0).trans rfl
          have i1 := (HMz.out.bx.c1 1).trans rfl
          have p0 := (HMz.out.bx.c2 0).trans rfl
          have p1 := (HMz.out.bx.c2 1).trans rfl
          have q0 := (HMz.out.bx.c3 0).trans rfl
          have q1 := (HMz.out.bx.c3 1).trans rfl
          have q2 := (HMz.out.bx.c3 2).trans rfl
          have q3 := (HMz.out.bx.c3 3).trans rfl
          have q4 := (HMz.out.bx.c3 4).trans rfl
          have q5 := (HMz.out.bx.c3 5).trans rfl
          have d0 := HMz.out.bx.f2 0
          have d1 := HMz.out.bx.f2 1
          have z0 := HMz.out.bx.f3 0
          have z1 := HMz.out.bx.f3 1
          have z2 := HMz.out.bx.f3 2
          have z3 := HMz.out.bx.f3 3
          have z4 := HMz.out.bx.f3 4
          have z5 := HMz.out.bx.f3 5
          have v0 := HMz.out.box.c0
          have v1 := HMz.out.box.c 0 (by decide)
          have v2 := HMz.out.box.c 1 (by decide)
          have v3 := HMz.out.box.c 2 (by decide)
          have v4 := HMz.out.box.c 3 (by decide)
          have v5 := HMz.out.box.c 4 (by decide)
          have hs9 := HMz.out.bx.sz
          have hUl := HMz.out.box.lt
          have hs8 : w.heap.size + 1 < Wz.heap.size := by omega
          have hs7 : w.heap.size < Wz.heap.size := by omega
          have HU5 := Lib.hid (show unV (unOf id lq) = .agg #[.int .i64 id, .int .i64 (lq.getD 0 0), .int .i64 (lq.getD 1 0), .int .i64 (lq.getD 2 0), .int .i64 (lq.getD 3 0), .int .i64 (lq.getD 4 0)] from rfl)
          generalize lq.getD 0 0 = x0 at v1 HU5
          generalize lq.getD 1 0 = x1 at v2 HU5
          generalize lq.getD 2 0 = x2 at v3 HU5
          generalize lq.getD 3 0 = x3 at v4 HU5
          generalize lq.getD 4 0 = x4 at v5 HU5
          have HFN := Lib.hid (HMz.out.fin (.string (bs s6.1)) (.int .i64 (s6.2 : Nat)) (.int .i64 id) (.int .i64 x0) (.int .i64 x1) (.int .i64 x2) (.int .i64 x3) (.int .i64 x4))
          unfold set8 at HFN
          clear HMz
          have n1 : U ≠ w.heap.size + 1 := by omega
          have n2 : U ≠ w.heap.size + 1 + 1 := by omega
          go_region
          all_goals
            go_wp2
            refine bodyPost_ret (v := .tuple #[.agg #[.string (bs s6.1), .int .i64 (s6.2 : Nat)], .agg #[.int .i64 id, .int .i64 x0, .int .i64 x1, .int .i64 x2, .int .i64 x3, .int .i64 x4]]) (by simp [results, Try.results66, go_sem, p0, p1, q0, q1, q2, q3, q4, q5]) rfl ⟨?_, ?_⟩
            · rw [HNF.out]; simp only [HU5.out]
            · exact HFN.out.drew
      · have HNF := Lib.hid (show res = (s5, unOf id lq) by rw [HS.out]; rw [show ordE last next (unOf id lq) = 0 from if_neg hE]; simp [failS])
        have hq : ((n : Int) == 0) = false := by
          have := HLE.out
          simp; omega
        have hq2 : decide (next ≤ id) = false := by simp; omega
        have HMz := Lib.hid HR.out
        clear hE HS hE0
        go_upto_region 13 with (fail)
        generalize wr = Wz at HMz v0 hUl ⊢
        clear v0 hUl
        have i0 := (HMz.out.bx.c1 0).trans rfl
        have i1 := (HMz.out.bx.c1 1).trans rfl
        have p0 := (HMz.out.bx.c2 0).trans rfl
        have p1 := (HMz.out.bx.c2 1).trans rfl
        have q0 := (HMz.out.bx.c3 0).trans rfl
        have q1 := (HMz.out.bx.c3 1).trans rfl
        have q2 := (HMz.out.bx.c3 2).trans rfl
        have q3 := (HMz.out.bx.c3 3).trans rfl
        have q4 := (HMz.out.bx.c3 4).trans rfl
        have q5 := (HMz.out.bx.c3 5).trans rfl
        have d0 := HMz.out.bx.f2 0
        have d1 := HMz.out.bx.f2 1
        have z0 := HMz.out.bx.f3 0
        have z1 := HMz.out.bx.f3 1
        have z2 := HMz.out.bx.f3 2
        have z3 := HMz.out.bx.f3 3
        have z4 := HMz.out.bx.f3 4
        have z5 := HMz.out.bx.f3 5
        have v0 := HMz.out.box.c0
        have v1 := HMz.out.box.c 0 (by decide)
        have v2 := HMz.out.box.c 1 (by decide)
        have v3 := HMz.out.box.c 2 (by decide)
        have v4 := HMz.out.box.c 3 (by decide)
        have v5 := HMz.out.box.c 4 (by decide)
        have hs9 := HMz.out.bx.sz
        have hUl := HMz.out.box.lt
        have hs8 : w.heap.size + 1 < Wz.heap.size := by omega
        have hs7 : w.heap.size < Wz.heap.size := by omega
        have HU5 := Lib.hid (show unV (unOf id lq) = .agg #[.int .i64 id, .int .i64 (lq.getD 0 0), .int .i64 (lq.getD 1 0), .int .i64 (lq.getD 2 0), .int .i64 (lq.getD 3 0), .int .i64 (lq.getD 4 0)] from rfl)
        generalize lq.getD 0 0 = x0 at v1 HU5
        generalize lq.getD 1 0 = x1 at v2 HU5
        generalize lq.getD 2 0 = x2 at v3 HU5
        generalize lq.getD 3 0 = x3 at v4 HU5
        generalize lq.getD 4 0 = x4 at v5 HU5
        have HFN := Lib.hid (HMz.out.fin (.string (bs s5.1)) (.int .i64 (s5.2 : Nat)) (.int .i64 id) (.int .i64 x0) (.int .i64 x1) (.int .i64 x2) (.int .i64 x3) (.int .i64 x4))
        unfold set8 at HFN
        clear HMz
        have n1 : U ≠ w.heap.size + 1 := by omega
        have n2 : U ≠ w.heap.size + 1 + 1 := by omega
        go_region
        all_goals
          go_wp2
          refine bodyPost_ret (v := .tuple #[.agg #[.string (bs s5.1), .int .i64 (s5.2 : Nat)], .agg #[.int .i64 id, .int .i64 x0, .int .i64 x1, .int .i64 x2, .int .i64 x3, .int .i64 x4]]) (by simp [results, Try.results66, go_sem, p0, p1, q0, q1, q2, q3, q4, q5]) rfl ⟨?_, ?_⟩
          · rw [HNF.out]; simp only [HU5.out]
          · exact HFN.out.drew
end Go.Proofs.Ytdkokfpbmmjfkaa
