/-
  The walk of the law FragCuts.
-/
import Derived.Test.YtfkhfincggligaaFrag6
namespace Go.Proofs.Ytfkhfincggligaa
open Go.RowKit
set_option linter.unusedVariables false

/-- A part comes behind blocks that were made meanwhile: these stay as they are. -/
theorem joPut_mid (w0 : World) (b : Nat) (s : Js) (p : Pt) (wr w : World) (h : JIn w0 b s wr) (hb : Below wr.heap.size wr w) (hn : s.n ≤ 1000000) (hl : s.l.length ≤ 65536) (hp : p.text.length ≤ 1000000) :
    Calls Try.prog 19 #[.pointer (some ⟨b, 0, none⟩), ptV p] w fun r w' => r = .returned (.tuple #[.string (bs (putJ s p).2.1), .bool (putJ s p).2.2.1, .int .i64 ((putJ s p).2.2.2 : Nat)]) ∧ JIn w0 b (putJ s p).1 w' ∧ ∀ X o, wr.heap.size ≤ X → X < w.heap.size → w'.cell? ⟨X, o, none⟩ = w.cell? ⟨X, o, none⟩ := by
  obtain ⟨v, h1, h2, h3, h4⟩ := h
  have hlt := h1.lt
  have hfr := h1.fresh
  have h5 := h4.trans (hb.mono h4.size)
  refine (joPut_any b v s p w (h1.keep hb) hn hl hp).mono ?_
  rintro r w' ⟨rfl, v', g1, g2, g3⟩
  refine ⟨rfl, ⟨v', g1, h2, fun k hk => ?_, h5.trans (g3.below h5.size ?_)⟩, fun X o hX hXw => g3.cell (p := ⟨X, o, none⟩) hXw ?_⟩
  · rcases g2 k hk with e | e
    · exact h3 k e
    · have := h5.size; omega
  · rintro k hk (e | e)
    · omega
    · have := h3 k e; omega
  · rintro (e | e)
    · have e' : X = b := e; omega
    · have := hfr X e; omega
/-- What is there behind k parts. -/
def jK (l : List UInt8) (k : Nat) : Js := if k ≤ moreN l.length then ⟨k, l.take (200 * k)⟩ else ⟨0, []⟩
theorem jK_len (l : List UInt8) (k : Nat) (hl : l.length ≤ 65536) : (jK l k).l.length ≤ 65536 := by
  unfold jK; split
  · simp only [List.length_take]; omega
  · simp
theorem jK_n (l : List UInt8) (k : Nat) (hl : l.length ≤ 65536) : (jK l k).n ≤ 1000000 := by
  unfold jK; split
  · rename_i h; simp only; unfold moreN at h; omega
  · simp
theorem putJ_jK (l : List UInt8) (k : Nat) (hl : l.length ≤ 65536) (hk : k < moreN l.length) : putJ (jK l k) (ptAt l k) = (jK l (k + 1), [], false, 0) := by
  have h1 : ((l.drop (200 * k)).take 200).length ≤ 200 := by rw [List.length_take]; omega
  have e : jK l k = ⟨k, l.take (200 * k)⟩ := if_pos (by omega)
  have e2 : jK l (k + 1) = ⟨k + 1, l.take (200 * k) ++ (l.drop (200 * k)).take 200⟩ := by
    unfold jK
    rw [if_pos (by omega), show 200 * (k + 1) = 200 * k + 200 by omega, List.take_add]
  rw [e, e2]
  exact putJ_more ⟨k, l.take (200 * k)⟩ _ h1 (by rw [← List.length_append, ← List.take_add, List.length_take]; omega)
theorem putJ_end (l : List UInt8) (hl : l.length ≤ 65536) : putJ (jK l (moreN l.length)) (lastP l) = (jK l (moreN l.length + 1), l, true, 0) := by
  have e : jK l (moreN l.length) = ⟨moreN l.length, l.take (200 * moreN l.length)⟩ := if_pos (Nat.le_refl _)
  have e2 : jK l (moreN l.length + 1) = ⟨0, []⟩ := if_neg (by omega)
  rw [e, e2]
  have h := putJ_last ⟨moreN l.length, l.take (200 * moreN l.length)⟩ (l.drop (200 * moreN l.length)) (by rw [List.length_drop]; unfold moreN; omega) (by simp only [List.length_take, List.length_drop]; omega)
  simp only [List.take_append_drop] at h
  exact h
set_option maxRecDepth 100000 in
set_option maxHeartbeats 2000000 in
theorem fragCuts_walk (w : World) (a0 : ByteArray) (w0 : a0.size ≤ maxLen) :
    Calls Try.prog 3 #[.string a0] w fun e w' => e = .returned (.bool true) ∧ Below w.heap.size w w' := by
  have HAW := Lib.hid (fun W => awake12_any W)
  obtain ⟨l, e0, hl⟩ := any_list a0 2000
  have HC := Lib.hid (fun W => cut_any a0 2000 W w0 (by decide))
  rw [e0] at HC
  have HFC := Lib.hid (fun W => fragCut_any l W (by omega))
  have HRC := Lib.hid (fun W => ref12Cut_any l W (by omega))
  have hz := bs_size l
  have hmn : moreN l.length ≤ 10 := by unfold moreN; omega
  clear e0
  go_enter Try.func3, Try.ntmps3
  go_wp2_with fail
  refine (HC.out _).mono ?_
  rintro r w' ⟨rfl, rfl⟩
  clear HC
  go_wp2_with fail
  refine (HFC.out _).mono ?_
  rintro r w1 ⟨a, c, rfl, hp1⟩
  have HP1 := Lib.hid hp1
  clear hp1 HFC
  go_wp2_with fail
  refine (HRC.out _).mono ?_
  rintro r w2 ⟨a2, c2, rfl, hp2⟩
  have HP1' := Lib.hid (HP1.out.keep hp2.bel)
  have HP2 := Lib.hid hp2
  clear hp2 HRC HP1
  go_wp2_with fail
  refine (HAW.out _).mono ?_
  rintro r w3 ⟨rfl, hb3⟩
  have HP3 := Lib.hid (HP1'.out.keep hb3)
  have HR3 := Lib.hid (HP2.out.keep hb3)
  clear hb3 HAW HP1' HP2
  have HLEN := Lib.hid (cutL_len l)
  have HAT := Lib.hid (cutL_at l)
  have HTX := Lib.hid (cutL_text l)
  have HJ0 : Hid (JIn w3 w3.heap.size (jK l 0) (w3.alloc (.cells #[.int .i64 0, .slice none 0 0] 32))) := Lib.hid (by
    have := JIn.start (Below.refl w3.heap.size w3)
    rw [show jK l 0 = ⟨0, []⟩ from if_pos (Nat.zero_le _)]
    exact this)
  go_wp2
  generalize w3.alloc (.cells #[.int .i64 0, .slice none 0 0] 32) = W3 at HJ0 ⊢
  generalize hb : w3.heap.size = b at HJ0 ⊢
  have HBB := Lib.hid hb
  clear hb
  obtain ⟨g1, rfl, hg1, hg1B, hc1⟩ := own_part HP3.out.row (by rw [HLEN.out]; omega)
  obtain ⟨g2, rfl, hg2, hg2B, hc2⟩ := own_part HR3.out.row (by rw [HLEN.out]; omega)
  have HC1 := Lib.hid hc1
  have HC2 := Lib.hid hc2
  have HW : Hid (Below w.heap.size w w3) := Lib.hid HP3.out.bel
  clear hc1 hc2
  generalize hmm : moreN l.length = m at hmn HLEN HAT ⊢
  have HMM := Lib.hid hmm
  clear hmm
  go_loopw [40] (fun iv wr => ∃ k : Nat, k ≤ m + 1 ∧ iv = .int .i64 k ∧ Hid (JIn w3 b (jK l k) wr)) (fun iv _ => m + 1 - (intOf iv).toNat)
  case atStart => exact ⟨0, by omega, rfl, HJ0⟩
  case round =>
    obtain ⟨k, hk, rfl, HJ⟩ := hrel
    by_cases hlt : k < m + 1
    · have hkl : k < (cutL l).length := by rw [HLEN.out]; exact hlt
      have hbel := HJ.out.bel
      obtain ⟨u0, u1⟩ := HC1.out k hkl
      obtain ⟨v0, v1⟩ := HC2.out k hkl
      have c0 := (hbel.cell (p := ⟨g1, k * 2, none⟩) hg1).trans u0
      have c1 := (hbel.cell (p := ⟨g1, k * 2 + 1, none⟩) hg1).trans u1
      have d0 := (hbel.cell (p := ⟨g2, k * 2, none⟩) hg2).trans v0
      have d1 := (hbel.cell (p := ⟨g2, k * 2 + 1, none⟩) hg2).trans v1
      have hg1r : g1 < wr.heap.size := block_lt_of_cell c0
      have hg2r : g2 < wr.heap.size := block_lt_of_cell d0
      clear u0 u1 v0 v1 hbel
      have hpt := HTX.out k hkl
      have HPK := Lib.hid (HAT.out k hkl)
      generalize (cutL l)[k] = p at c0 c1 d0 d1 hpt HPK
      have HBY := Lib.hid (fun W => partBytes_any p W (by omega))
      have HPS := Lib.hid (fun W => fragParse_any (partB p) W (by simp only [partB, List.length_cons]; omega))
      rw [parseF_back p hpt] at HPS
      have HPUT := Lib.hid (fun W hb => joPut_mid w3 b (jK l k) p wr W HJ.out hb (jK_n l k (by omega)) (jK_len l k (by omega)) (by omega))
      have HRES : Hid (putJ (jK l k) p = if k < m then (jK l (k + 1), [], false, 0) else (jK l (k + 1), l, true, 0)) := Lib.hid (by
        rw [HPK.out]
        by_cases hkm : k < m
        · rw [if_pos hkm, if_pos hkm]; exact putJ_jK l k (by omega) (by rw [HMM.out]; exact hkm)
        · rw [if_neg hkm, if_neg hkm]
          obtain rfl : k = m := by omega
          have := putJ_end l (by omega)
          rw [HMM.out] at this
          exact this)
      rw [HRES.out] at HPUT
      clear HRES HPK
      obtain ⟨pl, pt⟩ := p
      unfold ptV at HBY HPS HPUT
      simp only at HBY HPS HPUT c0 c1 d0 d1 hpt
      have hk0 : (0 : Int) ≤ (k : Int) := by omega
      have hk1 : (k : Int) < (m : Int) + 1 := by omega
      have hA : Below wr.heap.size wr (wr.alloc (.cells #[.bool pl, .string (bs pt)] 34)) := bel_alloc (Below.refl _ _) _
      have x0 : (wr.alloc (.cells #[.bool pl, .string (bs pt)] 34)).cell? ⟨wr.heap.size, 0, none⟩ = some (.bool pl) := by simp
      have x1 : (wr.alloc (.cells #[.bool pl, .string (bs pt)] 34)).cell? ⟨wr.heap.size, 1, none⟩ = some (.string (bs pt)) := by simp
      go_wp2_with fail
      generalize wr.alloc (.cells #[.bool pl, .string (bs pt)] 34) = W4 at hA x0 x1 ⊢
      refine (HBY.out _).mono ?_
      rintro r w5 ⟨rfl, hb5⟩
      have hA5 := hA.trans (hb5.mono hA.size)
      have y0 := (hb5.cell (p := ⟨wr.heap.size, 0, none⟩) (block_lt_of_cell x0)).trans x0
      have y1 := (hb5.cell (p := ⟨wr.heap.size, 1, none⟩) (block_lt_of_cell x1)).trans x1
      have HA5 := Lib.hid hA5
      clear hb5 hA5 hA x0 x1 HBY
      go_wp2_with fail
      refine (HPS.out _).mono ?_
      rintro r w6 ⟨rfl, hb6⟩
      have x0 := (hb6.cell (p := ⟨wr.heap.size, 0, none⟩) (block_lt_of_cell y0)).trans y0
      have x1 := (hb6.cell (p := ⟨wr.heap.size, 1, none⟩) (block_lt_of_cell y1)).trans y1
      have HA6 := Lib.hid (HA5.out.trans (hb6.mono HA5.out.size))
      clear hb6 HA5 y0 y1 HPS
      have hA7 := bel_alloc HA6.out (.cells #[.bool pl, .string (bs pt)] 34)
      have y0 := alloc_cell x0 (.cells #[.bool pl, .string (bs pt)] 34)
      have y1 := alloc_cell x1 (.cells #[.bool pl, .string (bs pt)] 34)
      have z0 : (w6.alloc (.cells #[.bool pl, .string (bs pt)] 34)).cell? ⟨w6.heap.size, 0, none⟩ = some (.bool pl) := by simp
      have z1 : (w6.alloc (.cells #[.bool pl, .string (bs pt)] 34)).cell? ⟨w6.heap.size, 1, none⟩ = some (.string (bs pt)) := by simp
      have hs6 := HA6.out.size
      clear x0 x1
      go_wp2_with fail
      generalize w6.alloc (.cells #[.bool pl, .string (bs pt)] 34) = W7 at hA7 y0 y1 z0 z1 ⊢
      refine (HPUT.out _ hA7).mono ?_
      rintro r w8 ⟨rfl, hj8, hc8⟩
      have x0 := (hc8 wr.heap.size 0 (Nat.le_refl _) (block_lt_of_cell y0)).trans y0
      have x1 := (hc8 wr.heap.size 1 (Nat.le_refl _) (block_lt_of_cell y1)).trans y1
      have t0 := (hc8 w6.heap.size 0 hs6 (block_lt_of_cell z0)).trans z0
      have t1 := (hc8 w6.heap.size 1 hs6 (block_lt_of_cell z1)).trans z1
      have hj8' : JIn w3 b (jK l (k + 1)) w8 := by by_cases hkm : k < m <;> simpa [hkm] using hj8
      have HJ8 := Lib.hid hj8'
      have hbel := hj8'.bel
      have e0 := (hbel.cell (p := ⟨g2, k * 2, none⟩) hg2).trans ((HJ.out.bel.cell (p := ⟨g2, k * 2, none⟩) hg2).symm.trans d0)
      have e1 := (hbel.cell (p := ⟨g2, k * 2 + 1, none⟩) hg2).trans ((HJ.out.bel.cell (p := ⟨g2, k * 2 + 1, none⟩) hg2).symm.trans d1)
      clear hj8 hj8' hc8 hbel HPUT HJ hA7 y0 y1 z0 z1 c0 c1 d0 d1 hs6 HA6 hg1r hg2r hpt
      generalize wr.heap.size = X at x0 x1 ⊢
      generalize w6.heap.size = Y at t0 t1 ⊢
      have hXl := block_lt_of_cell x0
      have hYl := block_lt_of_cell t0
      have hGl := block_lt_of_cell e0
      simp only at hXl hYl hGl
      have hq1 := rpt_neq pl (bs pt)
      have hq2 := pt_neq pl (bs pt)
      have hsl := str_eq (bs l)
      have hw1 : IntKind.i64.wrap ((m : Int) + 1 - 1) = (m : Int) := by rw [IntKind.wrap_i64]; omega
      have hw2 : IntKind.i64.wrap (m : Int) = (m : Int) := by rw [IntKind.wrap_i64]; omega
      by_cases hkm : k < m
      · have hke : ((k : Int) == (m : Int)) = false := by rw [beq_eq_false_iff_ne]; omega
        have hke2 : (k == m) = false := by rw [beq_eq_false_iff_ne]; omega
        simp only [if_pos hkm]
        clear hkm
        go_upto_region 12 with (fail)
        go_quiet (fail)
        have HJ9 := Lib.hid (HJ8.out.keep (w' := w8.drewN nq) ⟨rfl, rfl, rfl, Nat.le_refl _, fun _ _ => rfl⟩)
        go_wp2
        go_roundw
        case rel => exact ⟨k + 1, by omega, by go_num, HJ9⟩
        case measure => simp [intOf] <;> omega
      · simp only [if_neg hkm]
        obtain rfl : k = m := by omega
        have hke : ((k : Int) == (k : Int)) = true := by simp
        clear hkm
        go_upto_region 12 with (fail)
        go_quiet (fail)
        have HJ9 := Lib.hid (HJ8.out.keep (w' := w8.drewN nq) ⟨rfl, rfl, rfl, Nat.le_refl _, fun _ _ => rfl⟩)
        go_wp2
        go_roundw
        case rel => exact ⟨k + 1, by omega, by go_num, HJ9⟩
        case measure => simp [intOf] <;> omega
    · obtain rfl : k = m + 1 := by omega
      have HEND : Hid (jK l (m + 1) = ⟨0, []⟩) := Lib.hid (if_neg (by rw [HMM.out]; omega))
      have HOP : Hid (∀ W, JIn w3 b ⟨0, []⟩ W → Calls Try.prog 20 #[.pointer (some ⟨b, 0, none⟩)] W fun r w' => r = .returned (.tuple #[.int .i64 0, .int .i64 0]) ∧ JIn w3 b ⟨0, []⟩ w') := Lib.hid (fun W h => joOpen_in w3 b ⟨0, []⟩ W h)
      rw [HEND.out] at HJ
      go_wp2_with fail
      refine (HOP.out _ HJ.out).mono ?_
      rintro r w4 ⟨rfl, hj4⟩
      have HB4 := Lib.hid (HW.out.trans (hj4.bel.mono HW.out.size))
      clear hj4 HOP
      go_wp2
      go_ret
      exact ⟨rfl, HB4.out⟩
end Go.Proofs.Ytfkhfincggligaa
