/-
  Layer 11: a gather: a snapshot of which all came.
-/
import Derived.Test.YthgnkkpmnfjohaaJoin
namespace Go.Proofs.Ythgnkkpmnfjohaa
open Go.RowKit
set_option linter.unusedVariables false

/-- What Whole answers of a gather to which all came. -/
def wholeV (g : GaS) : Value := if sumOf g.ts.flatten = g.h then .tuple #[.string (bs g.ts.flatten), .int .i64 g.t, .int .i64 0] else .tuple #[.string (bs []), .int .i64 0, .int .i64 5]
set_option maxRecDepth 100000 in
set_option maxHeartbeats 2000000 in
theorem whole_all (b B0 : Nat) (g : GaS) (w : World) (h : GaAt w b B0 g) (h0 : 0 < g.cm) (hs : g.cm = g.ts.length) (hl : g.ts.length ≤ 1000000) (ht : g.ts.flatten.length ≤ 1000000) : Calls Try.prog 14 #[.pointer (some ⟨b, 0, none⟩)] w fun r w' => r = .returned (wholeV g) ∧ Below w.heap.size w w' := by
  have HJ := Lib.hid (fun W hc hb => join_any B0 g.ts W hc hb hl (by omega))
  rw [show bs [] = ⟨#[]⟩ from rfl] at HJ
  have HOF := Lib.hid (fun k W hc => of_one k 1 (bs g.ts.flatten) W (by rw [bs_size]; unfold maxLen; omega) hc)
  have HH : Hid (fnvS 14695981039346656037 (bs g.ts.flatten).data.toList = sumOf g.ts.flatten) := Lib.hid (by rw [bs_list]; rfl)
  rw [HH.out] at HOF
  have HROW := Lib.hid h.row
  have hBw : B0 < w.heap.size := block_lt_of_cell (h.row 0 (by omega))
  have c0 := h.c0
  have c2 := h.c2
  have c3 := h.c3
  have c4 := h.c4
  have hA : gaA B0 g.ts = some ⟨B0, 0, none⟩ := if_neg (by intro e; rw [e] at hs; simp at hs; omega)
  rw [hA] at c3
  have hbl := block_lt_of_cell c3
  simp only at hbl
  clear h HH
  have hc1 : ((g.ts.length : Int) == 0) = false := by rw [beq_eq_false_iff_ne]; omega
  rw [hs] at c4
  have hc2 : decide ((g.ts.length : Int) < (g.ts.length : Int)) = false := by simp
  generalize hsm : sumOf g.ts.flatten = sm at HOF
  have HV : Hid (wholeV g = if sm = g.h then .tuple #[.string (bs g.ts.flatten), .int .i64 g.t, .int .i64 0] else .tuple #[.string (bs []), .int .i64 0, .int .i64 5]) := Lib.hid (by unfold wholeV; rw [hsm])
  clear hsm
  generalize wholeV g = V at HV ⊢
  go_enter Try.func14, Try.ntmps14
  go_upto_region 1 with (fail)
  go_quiet (fail)
  have d0 : (w.drewN nq).cell? ⟨b, 0, none⟩ = some (.int .i64 g.t) := c0
  have d2 : (w.drewN nq).cell? ⟨b, 2, none⟩ = some (.int .u64 (g.h : Int)) := c2
  have d3 : (w.drewN nq).cell? ⟨b, 3, none⟩ = some (.slice (some ⟨B0, 0, none⟩) g.ts.length g.ts.length) := c3
  have HR1 : Hid (∀ i (h : i < g.ts.length), (w.drewN nq).cell? ⟨B0, i, none⟩ = some (.string (bs g.ts[i]))) := Lib.hid HROW.out
  have HB1 : Hid (Below w.heap.size w (w.drewN nq)) := Lib.hid ⟨rfl, rfl, rfl, Nat.le_refl _, fun _ _ => rfl⟩
  have hB1 : B0 < (w.drewN nq).heap.size := hBw
  clear c0 c2 c3 c4 HROW hbl
  generalize w.drewN nq = W1 at d0 d2 d3 HR1 HB1 hB1 ⊢
  have hbl := block_lt_of_cell d3
  simp only at hbl
  go_wp2_with fail
  refine (HJ.out W1 HR1.out hB1).mono ?_
  rintro r w2 ⟨rfl, hb2⟩
  have e0 := (hb2.cell (p := ⟨b, 0, none⟩) hbl).trans d0
  have e2 := (hb2.cell (p := ⟨b, 2, none⟩) hbl).trans d2
  have HB2 := Lib.hid (HB1.out.trans (hb2.mono HB1.out.size))
  clear d0 d2 d3 HR1 HB1 hB1 hbl hb2 HJ
  have hbl := block_lt_of_cell e0
  simp only at hbl
  go_upto_region 4 with (fail)
  by_cases he : sm = g.h
  · have HVV : Hid (V = .tuple #[.string (bs g.ts.flatten), .int .i64 g.t, .int .i64 0]) := Lib.hid (by rw [HV.out, if_pos he])
    have he1 : ((sm : Int) == (g.h : Int)) = true := by rw [he]; simp
    have HBA := Lib.hid (bel_alloc HB2.out (.cells #[.string (bs g.ts.flatten)] 9))
    clear HB2
    go_region_law (first
      | (go_simp; go_at_call 28; refine (HOF.out _ _ (by simp)).mono ?_; rintro e wC ⟨rfl, rfl⟩))
    all_goals
      go_upto_region 6 with (fail)
      go_quiet (fail)
      go_wp2
      go_ret3
      exact ⟨by rw [HVV.out]; rfl, HBA.out.os, HBA.out.tape, HBA.out.output, HBA.out.size, HBA.out.block⟩
  · have HVV : Hid (V = .tuple #[.string ⟨#[]⟩, .int .i64 0, .int .i64 5]) := Lib.hid (by rw [HV.out, if_neg he]; rfl)
    have he1 : ((sm : Int) == (g.h : Int)) = false := by rw [beq_eq_false_iff_ne]; omega
    have HBA := Lib.hid (bel_alloc HB2.out (.cells #[.string (bs g.ts.flatten)] 9))
    clear HB2
    go_region_law (first
      | (go_simp; go_at_call 28; refine (HOF.out _ _ (by simp)).mono ?_; rintro e wC ⟨rfl, rfl⟩))
    all_goals
      go_wp2
      go_ret3
      exact ⟨by rw [HVV.out]; rfl, HBA.out.os, HBA.out.tape, HBA.out.output, HBA.out.size, HBA.out.block⟩
end Go.Proofs.Ythgnkkpmnfjohaa
