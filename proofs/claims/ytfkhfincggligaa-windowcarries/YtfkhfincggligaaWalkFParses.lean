/-
  The walk of the law FragParses.
-/
import Derived.Test.YtfkhfincggligaaFrag5
namespace Go.Proofs.Ytfkhfincggligaa
open Go.RowKit
set_option linter.unusedVariables false

theorem rpt_same (b : Bool) (t : ByteArray) (w : World) : (binOp .eql 40 (.agg #[.bool b, .string t]) (.agg #[.bool b, .string t])).run Try.prog w = .ok (.bool true) w := by
  have := str_eq t
  cases b <;> go_simp
theorem rpt_neq (b : Bool) (t : ByteArray) (w : World) : (binOp .neq 40 (.agg #[.bool b, .string t]) (.agg #[.bool b, .string t])).run Try.prog w = .ok (.bool false) w := by
  have := str_eq t
  cases b <;> go_simp
theorem pt_neq (b : Bool) (t : ByteArray) (w : World) : (binOp .neq 34 (.agg #[.bool b, .string t]) (.agg #[.bool b, .string t])).run Try.prog w = .ok (.bool false) w := by
  have := str_eq t
  cases b <;> go_simp
theorem any_list (s : ByteArray) (n : Nat) : ∃ l : List UInt8, cutB s n = bs l ∧ l.length ≤ n :=
  ⟨(cutB s n).data.toList, (bs_eta _).symm, by have : (cutB s n).data.toList.length = (cutB s n).size := by simp
                                               rw [this]; exact cutB_le s n⟩
set_option maxRecDepth 100000 in
set_option maxHeartbeats 2000000 in
theorem fragParses_walk (w : World) (a0 : ByteArray) (w0 : a0.size ≤ maxLen) :
    Calls Try.prog 6 #[.string a0] w fun e w' => e = .returned (.bool true) ∧ Below w.heap.size w w' := by
  have HAW := Lib.hid (fun W => awake12_any W)
  obtain ⟨l, e0, hl⟩ := any_list a0 220
  have HC := Lib.hid (fun W => cut_any a0 220 W w0 (by decide))
  rw [e0] at HC
  have HPA := Lib.hid (fun W => fragParse_any l W (by omega))
  have HRP := Lib.hid (fun W => refParse12_any l W (by omega))
  have HPL := Lib.hid (parseF_len l)
  have HPB := Lib.hid (parseF_bytes l)
  have hz := bs_size l
  unfold ptV at HPA HRP
  generalize parseF l = t at HPA HRP HPL HPB
  obtain ⟨⟨pl, pt⟩, e⟩ := t
  simp only at HPA HRP HPL HPB
  have HBY := Lib.hid (fun W => partBytes_any ⟨pl, pt⟩ W (by simp only; have := HPL.out; omega))
  unfold ptV at HBY
  simp only at HBY
  clear e0
  go_enter Try.func6, Try.ntmps6
  go_wp2_with fail
  refine (HC.out _).mono ?_
  rintro r w' ⟨rfl, rfl⟩
  clear HC
  go_wp2_with fail
  refine (HPA.out _).mono ?_
  rintro r w1 ⟨rfl, hb1⟩
  have HB1 := Lib.hid hb1
  clear hb1 HPA
  go_wp2_with fail
  refine (HRP.out _).mono ?_
  rintro r w2 ⟨rfl, hb2⟩
  have x0 : w2.cell? ⟨w1.heap.size, 0, none⟩ = some (.bool pl) := (hb2.cell (p := ⟨w1.heap.size, 0, none⟩) (by simp)).trans (by simp)
  have x1 : w2.cell? ⟨w1.heap.size, 1, none⟩ = some (.string (bs pt)) := (hb2.cell (p := ⟨w1.heap.size, 1, none⟩) (by simp)).trans (by simp)
  have HB2 : Hid (Below w.heap.size w w2) := Lib.hid ((bel_alloc HB1.out _).trans (hb2.mono (by have := HB1.out.size; simp; omega)))
  clear hb2 HRP HB1
  generalize w1.heap.size = X at x0 x1 ⊢
  go_wp2_with fail
  refine (HAW.out _).mono ?_
  rintro r w3 ⟨rfl, hb3⟩
  have y0 : w3.cell? ⟨X, 0, none⟩ = some (.bool pl) := (hb3.cell (p := ⟨X, 0, none⟩) (block_lt_of_cell (alloc_cell x0 _))).trans (alloc_cell x0 _)
  have y1 : w3.cell? ⟨X, 1, none⟩ = some (.string (bs pt)) := (hb3.cell (p := ⟨X, 1, none⟩) (block_lt_of_cell (alloc_cell x1 _))).trans (alloc_cell x1 _)
  have z0 : w3.cell? ⟨w2.heap.size, 0, none⟩ = some (.bool pl) := (hb3.cell (p := ⟨w2.heap.size, 0, none⟩) (by simp)).trans (by simp)
  have z1 : w3.cell? ⟨w2.heap.size, 1, none⟩ = some (.string (bs pt)) := (hb3.cell (p := ⟨w2.heap.size, 1, none⟩) (by simp)).trans (by simp)
  have HB3 : Hid (Below w.heap.size w w3) := Lib.hid ((bel_alloc HB2.out _).trans (hb3.mono (by have := HB2.out.size; simp; omega)))
  clear hb3 HAW HB2 x0 x1
  generalize w2.heap.size = Y at z0 z1 ⊢
  have hXl := block_lt_of_cell y0
  have hYl := block_lt_of_cell z0
  simp only at hXl hYl
  have hsm := rpt_same pl (bs pt)
  have hsl := str_eq (bs l)
  by_cases he : e = 0
  · subst he
    have HE := Lib.hid (HPB.out rfl)
    rw [HE.out] at HBY
    go_wp2_with fail
    refine (HBY.out _).mono ?_
    rintro r w4 ⟨rfl, hb4⟩
    have HB4 := Lib.hid (HB3.out.trans (hb4.mono HB3.out.size))
    clear hb4 HBY
    go_wp2
    go_ret
    exact ⟨rfl, HB4.out⟩
  · have heb : ((e : Int) != 0) = true := by simp; omega
    clear he
    go_wp2
    go_ret
    exact ⟨rfl, HB3.out⟩
end Go.Proofs.Ytfkhfincggligaa
