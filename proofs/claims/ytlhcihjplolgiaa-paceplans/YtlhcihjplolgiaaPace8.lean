/-
  Layer 17: what the laws ask first; a pace that may be, of raw numbers.
-/
import Derived.Test.YtlhcihjplolgiaaPace7
namespace Go.Proofs.Ytlhcihjplolgiaa
open Go.RowKit
set_option linter.unusedVariables false

theorem and17 (m : Int) (M : Nat) (h : (BitVec.ofInt 64 m).toNat = M) (hM : M < 9223372036854775808) (a : Int) : ∃ k : Nat, k ≤ M ∧ bits .and .i64 a m = (k : Int) := by
  have hle : (BitVec.ofInt 64 a &&& BitVec.ofInt 64 m).toNat ≤ M := by rw [BitVec.toNat_and, ← h]; exact Nat.and_le_right
  refine ⟨(BitVec.ofInt 64 a &&& BitVec.ofInt 64 m).toNat, hle, ?_⟩
  show IntKind.i64.wrap ((BitVec.ofInt 64 a &&& BitVec.ofInt 64 m).toNat : Int) = _
  rw [IntKind.wrap_i64]
  omega
def RightPost (a b : Int) (w : World) (r : Ending) (w' : World) : Prop := ∃ t d : Int, r = .returned (.agg #[.int .i64 t, .int .i64 d]) ∧ mayP t d = true ∧ Below w.heap.size w w'
set_option maxRecDepth 100000 in
theorem right17_any (a b : Int) (w : World) : Calls Try.prog 43 #[.int .i64 a, .int .i64 b] w (RightPost a b w) := by
  obtain ⟨x, hx, e1⟩ := and17 63 63 (by decide) (by decide) a
  obtain ⟨y, hy, e2⟩ := and17 255 255 (by decide) (by decide) b
  have i0 : (0 : Int) ≤ (x : Int) := by omega
  have i1 : (x : Int) ≤ 63 := by omega
  have j0 : (0 : Int) ≤ (y : Int) := by omega
  have j1 : (y : Int) ≤ 255 := by omega
  have k0 : (0 : Int) ≤ (y : Int) % 6 := by omega
  have k1 : (y : Int) % 6 ≤ 5 := by omega
  have HF : Hid (∀ W, Below w.heap.size w W → RightPost a b w (.returned (.agg #[.int .i64 (1 + (x : Int)), .int .i64 (1 + (y : Int) % 6)])) W) := Lib.hid (fun W hb => ⟨_, _, rfl, by rw [mayP_iff]; omega, hb⟩)
  generalize RightPost a b w = Post at HF ⊢
  clear hx hy
  go_enter Try.func43, Try.ntmps43
  go_wp2
  exact bodyPost_ret (v := .agg #[.int .i64 (1 + (x : Int)), .int .i64 (1 + (y : Int) % 6)]) (by simp [results, Try.results43, go_sem]) rfl (HF.out _ (by repeat (first | exact Below.refl _ _ | refine Below.setCell ?_ (by simp) _ | refine bel_alloc ?_ _ | refine bel17_drew ?_)))
set_option maxRecDepth 100000 in
theorem good17_any (t d : Int) (w : World) : Calls Try.prog 61 #[.agg #[.int .i64 t, .int .i64 d]] w fun r w' => r = .returned (.bool (mayP t d)) ∧ Below w.heap.size w w' := by
  have HB := Lib.hid (bel_alloc (Below.refl w.heap.size w) (.cells #[.int .i64 t, .int .i64 d] 86))
  have hcs : (mayP t d = false ∧ t < 1) ∨ (mayP t d = false ∧ 1 ≤ t ∧ 64 < t) ∨ (mayP t d = false ∧ 1 ≤ t ∧ t ≤ 64 ∧ d < 1) ∨ (mayP t d = false ∧ 1 ≤ t ∧ t ≤ 64 ∧ 1 ≤ d ∧ 6 < d) ∨ (mayP t d = true ∧ 1 ≤ t ∧ t ≤ 64 ∧ 1 ≤ d ∧ d ≤ 6) := by
    cases hm : mayP t d with
    | true => rw [mayP_iff] at hm; simp; omega
    | false =>
      have : ¬ mayP t d = true := by rw [hm]; simp
      rw [mayP_iff] at this
      simp; omega
  rcases hcs with ⟨hm, h1⟩ | ⟨hm, h1, h2⟩ | ⟨hm, h1, h2, h3⟩ | ⟨hm, h1, h2, h3, h4⟩ | ⟨hm, h1, h2, h3, h4⟩
  all_goals
    rw [hm]
    clear hm
    try have e1 : decide (1 ≤ t) = false := decide_eq_false (by omega)
    try have e2 : decide (t ≤ 64) = false := decide_eq_false (by omega)
    try have e3 : decide (1 ≤ d) = false := decide_eq_false (by omega)
    try have e4 : decide (d ≤ 6) = false := decide_eq_false (by omega)
    go_enter Try.func61, Try.ntmps61
    go_wp2
    go_ret
    exact ⟨rfl, HB.out⟩
theorem adds25 : addsS [] [25, 25, 25, 25, 25, 25, 25, 25] = List.replicate 8 25 := by decide +kernel
theorem next25a : nextS (List.replicate 8 25) 10 1 = (10, 2) := by decide +kernel
theorem next25b : nextS (List.replicate 8 25) 10 2 = (10, 3) := by decide +kernel
theorem ptr17_ne (b : Nat) (w : World) : (binOp .neq 92 (.pointer (some ⟨b, 0, none⟩)) (.pointer none)).run Try.prog w = .ok (.bool true) w := by kernel_rfl
theorem ptr17_nn (w : World) : (binOp .neq 92 (.pointer none) (.pointer none)).run Try.prog w = .ok (.bool false) w := by kernel_rfl
theorem field17 (w : World) : (Instr.field 82 (.agg #[.int .i64 10, .int .i64 3]) 1).run Try.prog w = .ok (.int .i64 3) w := by kernel_rfl
theorem keep2p {w w' : World} (hb : Below w.heap.size w w') {p q : Addr} {u v : Value} (h : w.cell? p = some u ∧ w.cell? q = some v) : w'.cell? p = some u ∧ w'.cell? q = some v :=
  ⟨(hb.cell (block_lt_of_cell h.1)).trans h.1, (hb.cell (block_lt_of_cell h.2)).trans h.2⟩
set_option maxRecDepth 100000 in
set_option maxHeartbeats 2000000 in
theorem awake17_any (w : World) : Calls Try.prog 42 #[] w fun r w' => r = .returned (.bool true) ∧ Below w.heap.size w w' := by
  have HM0 := Lib.hid ((meter_new w #[.int .i64 0, .int .i64 0, .int .i64 0, .int .i64 0, .int .i64 0, .int .i64 0, .int .i64 0, .int .i64 0, .int .i64 0] rfl).below (bel_alloc (Below.refl _ _) (.cells #[.int .i64 25, .int .i64 25, .int .i64 25, .int .i64 25, .int .i64 25, .int .i64 25, .int .i64 25, .int .i64 25] 3)))
  have hsz : (w.alloc (.cells #[.int .i64 0, .int .i64 0, .int .i64 0, .int .i64 0, .int .i64 0, .int .i64 0, .int .i64 0, .int .i64 0, .int .i64 0] 80)).heap.size = w.heap.size + 1 := by simp
  have HAD := Lib.hid ((madd_any w.heap.size [] (some ⟨w.heap.size + 1, 0, none⟩) 8 [25, 25, 25, 25, 25, 25, 25, 25] _ HM0.out (fun _ => ⟨w.heap.size + 1, 0, rfl, fun i hi => by
    rw [Nat.zero_add]
    rw [← hsz]
    refine new_cell rfl ?_
    have : i = 0 ∨ i = 1 ∨ i = 2 ∨ i = 3 ∨ i = 4 ∨ i = 5 ∨ i = 6 ∨ i = 7 := by simp at hi; omega
    rcases this with rfl | rfl | rfl | rfl | rfl | rfl | rfl | rfl <;> rfl⟩) (fun _ x hx => by cases hx; simp) (fun x hx => by simp at hx; subst hx; unfold bound64; omega) (by unfold maxLen; simp)).mono (R' := fun r w' => r = .returned (.tuple #[]) ∧ MeterAt w' w.heap.size (List.replicate 8 25) ∧ Below w.heap.size w w') fun r w' h => ⟨h.1, by rw [← adds25]; exact h.2.1, ((bel_alloc (bel_alloc (Below.refl w.heap.size w) _) _)).trans (h.2.2.below (by simp; omega) (fun k hk e => by omega))⟩)
  clear HM0 hsz
  simp only [List.length_cons, List.length_nil, Nat.zero_add, Nat.reduceAdd] at HAD
  have HBEG := Lib.hid (fun W => (begin17_any 10 2 W).mono (R' := fun r w' => ∃ b a c, r = .returned (.tuple #[.pointer (some ⟨b, 0, none⟩), .int .i64 0]) ∧ Hid (PlanAt w' b a c [⟨0, 10, 2⟩]) ∧ Hid (Below W.heap.size W w')) fun r w' h => by
    rcases h with ⟨-, b, a, c, h1, h2, -, -, h3⟩ | ⟨h, -⟩
    · exact ⟨b, a, c, h1, Lib.hid h2, Lib.hid h3⟩
    · exact absurd h (by decide))
  go_enter Try.func42, Try.ntmps42
  go_wp2_with fail
  refine HAD.out.mono ?_
  rintro r w1 ⟨rfl, hm1, hb1⟩
  have HM1 := Lib.hid hm1
  have HB1 := Lib.hid hb1
  clear hm1 hb1 HAD
  go_wp2_with fail
  refine (mnext_any w.heap.size _ 10 1 w1 HM1.out).mono ?_
  rintro r w2 ⟨hr2, hb2⟩
  rw [next25a] at hr2
  subst hr2
  have HM2 := Lib.hid (HM1.out.below hb2)
  have HB2 := Lib.hid (HB1.out.trans (hb2.mono HB1.out.size))
  clear hb2 HM1 HB1
  go_wp2_with fail
  have hA : Below w2.heap.size w2 (w2.alloc (.cells #[.int .i64 10, .int .i64 2] 82)) := bel_alloc (Below.refl _ _) _
  have x0 : (w2.alloc (.cells #[.int .i64 10, .int .i64 2] 82)).cell? ⟨w2.heap.size, 0, none⟩ = some (.int .i64 10) := new_cell rfl rfl
  have x1 : (w2.alloc (.cells #[.int .i64 10, .int .i64 2] 82)).cell? ⟨w2.heap.size, 1, none⟩ = some (.int .i64 2) := new_cell rfl rfl
  have HM3 := Lib.hid (HM2.out.below hA)
  have HB3 := Lib.hid (HB2.out.trans (hA.mono HB2.out.size))
  clear hA HM2 HB2
  generalize hX : w2.heap.size = X at x0 x1 ⊢
  clear hX
  generalize w2.alloc (.cells #[.int .i64 10, .int .i64 2] 82) = W3 at HM3 HB3 x0 x1 ⊢
  refine (HBEG.out _).mono ?_
  rintro r w4 ⟨b, a, c, rfl, HP4, HB4⟩
  have HM := Lib.hid ((HM3.out.below HB4.out).below (Below.refl w4.heap.size w4).drew)
  have HP := Lib.hid (HP4.out.keep (Below.refl w4.heap.size w4).drew)
  have HB := Lib.hid ((HB3.out.trans (HB4.out.mono HB3.out.size)).drew)
  have c0 := (HB4.out.cell (p := ⟨X, 0, none⟩) (block_lt_of_cell x0)).trans x0
  have c1 := (HB4.out.cell (p := ⟨X, 1, none⟩) (block_lt_of_cell x1)).trans x1
  have hp := ptr17_ne b
  have hfd := field17
  clear x0 x1 HM3 HB3 HB4 HP4 HBEG
  have HNX := Lib.hid (fun W (h : MeterAt W w.heap.size (List.replicate 8 25)) => (mnext_any w.heap.size _ 10 2 W h).mono (R' := fun r w' => r = .returned (.agg #[.int .i64 10, .int .i64 3]) ∧ Below W.heap.size W w') fun r w' h => ⟨by rw [h.1, next25b], h.2⟩)
  have HLN := Lib.hid (fun W (h : MeterAt W w.heap.size (List.replicate 8 25)) => (meter_len w.heap.size _ W h).mono (R' := fun r w' => r = .returned (.int .i64 8) ∧ W = w') fun r w' h => ⟨by rw [h.1]; rfl, h.2⟩)
  have HAT := Lib.hid (fun W (h : PlanAt W b a c [⟨0, 10, 2⟩]) => at17_any b 5 a c [⟨0, 10, 2⟩] 0 ⟨by simp, fun j hj h => by simp at hj; omega, fun j hj h h0 => by omega⟩ (fun i j hi hj h => by simp at hi hj; omega) W h)
  simp only [List.getElem_cons_zero] at HAT
  go_wp2_with fail
  go_region_held3 (fun w' => w'.cell? ⟨X, 0, none⟩ = some (.int .i64 10) ∧ w'.cell? ⟨X, 1, none⟩ = some (.int .i64 2))
    (first | assumption | (refine keep2p hbK ?_; assumption) | exact ⟨c0, c1⟩)
    (first
      | (go_at_call 45; refine (HNX.out _ HM.out).mono ?_; rintro r wK ⟨rfl, hbK⟩; have HM := Lib.hid (HM.out.below hbK); have HP := Lib.hid (HP.out.keep hbK); have HB := Lib.hid (HB.out.trans (hbK.mono HB.out.size)))
      | (go_at_call 51; refine (HLN.out _ HM.out).mono ?_; rintro r wK ⟨rfl, rfl⟩)
      | (go_at_call 59; refine (HAT.out _ HP.out).mono ?_; rintro r wK ⟨rfl, hbK⟩; have HM := Lib.hid (HM.out.below hbK); have HP := Lib.hid (HP.out.keep hbK); have HB := Lib.hid (HB.out.trans (hbK.mono HB.out.size))))
  all_goals
    have HBK := Lib.hid HB.out
    go_wp2
    go_ret
    exact ⟨rfl, HBK.out⟩
end Go.Proofs.Ytlhcihjplolgiaa
