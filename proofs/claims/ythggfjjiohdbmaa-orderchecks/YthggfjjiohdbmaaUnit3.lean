/-
  Layer 8: a unit of a table; one more.
-/
import Derived.Test.YthggfjjiohdbmaaUnit2
import Derived.Deep.RegionLaw
namespace Go.Proofs.Ythggfjjiohdbmaa
open Go.RowKit
set_option linter.unusedVariables false

def mayQ (u : Un) : Bool := mayN 0 u.kind && (mayN 1 u.owner && (mayN 2 u.x && (mayN 3 u.y && mayN 4 u.health)))
theorem mayQ_iff (u : Un) : mayQ u = true ↔ UnMay u := by simp [mayQ, UnMay]
theorem info64 : (Try.prog.info? 2).map (fun i => (i.zero, i.size, i.bytes)) = some (some (.int .i64 0), 1, 8) := by kernel_rfl
theorem index5_0 (a b c d e : Int) (w : World) : (Instr.index 51 (.agg #[.int .i64 a, .int .i64 b, .int .i64 c, .int .i64 d, .int .i64 e]) (.int .i64 0)).run Try.prog w = .ok (.int .i64 a) w := by
  obtain ⟨i0, hi, hz0, hz1, hz2⟩ := info_is info64
  simp [Instr.index, run_underlying Try.underlying51, sizeOf, typeInfo, hi, hz1, part, asIntOf]
theorem index5_1 (a b c d e : Int) (w : World) : (Instr.index 51 (.agg #[.int .i64 a, .int .i64 b, .int .i64 c, .int .i64 d, .int .i64 e]) (.int .i64 1)).run Try.prog w = .ok (.int .i64 b) w := by
  obtain ⟨i0, hi, hz0, hz1, hz2⟩ := info_is info64
  simp [Instr.index, run_underlying Try.underlying51, sizeOf, typeInfo, hi, hz1, part, asIntOf]
theorem index5_2 (a b c d e : Int) (w : World) : (Instr.index 51 (.agg #[.int .i64 a, .int .i64 b, .int .i64 c, .int .i64 d, .int .i64 e]) (.int .i64 2)).run Try.prog w = .ok (.int .i64 c) w := by
  obtain ⟨i0, hi, hz0, hz1, hz2⟩ := info_is info64
  simp [Instr.index, run_underlying Try.underlying51, sizeOf, typeInfo, hi, hz1, part, asIntOf]
theorem index5_3 (a b c d e : Int) (w : World) : (Instr.index 51 (.agg #[.int .i64 a, .int .i64 b, .int .i64 c, .int .i64 d, .int .i64 e]) (.int .i64 3)).run Try.prog w = .ok (.int .i64 d) w := by
  obtain ⟨i0, hi, hz0, hz1, hz2⟩ := info_is info64
  simp [Instr.index, run_underlying Try.underlying51, sizeOf, typeInfo, hi, hz1, part, asIntOf]
theorem index5_4 (a b c d e : Int) (w : World) : (Instr.index 51 (.agg #[.int .i64 a, .int .i64 b, .int .i64 c, .int .i64 d, .int .i64 e]) (.int .i64 4)).run Try.prog w = .ok (.int .i64 e) w := by
  obtain ⟨i0, hi, hz0, hz1, hz2⟩ := info_is info64
  simp [Instr.index, run_underlying Try.underlying51, sizeOf, typeInfo, hi, hz1, part, asIntOf]
set_option maxRecDepth 100000 in
theorem mayBe_any (u : Un) (w : World) : Calls Try.prog 33 #[unV u] w fun r w' => r = .returned (.bool (mayQ u)) ∧ Below w.heap.size w w' := by
  obtain ⟨i0, f0, f1, f2, f3, f4⟩ := u
  have HB := Lib.hid ((Below.refl _ w).alloc (Nat.le_refl _) (.cells #[.int .i64 i0, .int .i64 f0, .int .i64 f1, .int .i64 f2, .int .i64 f3, .int .i64 f4] 61))
  have HQ := Lib.hid (show mayQ ⟨i0, f0, f1, f2, f3, f4⟩ = (mayN 0 f0 && (mayN 1 f1 && (mayN 2 f2 && (mayN 3 f3 && mayN 4 f4)))) from rfl)
  have H0 := Lib.hid (fun W => fieldMayBe_any 0 f0 W (by decide))
  have H1 := Lib.hid (fun W => fieldMayBe_any 1 f1 W (by decide))
  have H2 := Lib.hid (fun W => fieldMayBe_any 2 f2 W (by decide))
  have H3 := Lib.hid (fun W => fieldMayBe_any 3 f3 W (by decide))
  have H4 := Lib.hid (fun W => fieldMayBe_any 4 f4 W (by decide))
  generalize mayQ ⟨i0, f0, f1, f2, f3, f4⟩ = q at HQ ⊢
  generalize mayN 0 f0 = q0 at HQ H0
  generalize mayN 1 f1 = q1 at HQ H1
  generalize mayN 2 f2 = q2 at HQ H2
  generalize mayN 3 f3 = q3 at HQ H3
  generalize mayN 4 f4 = q4 at HQ H4
  unfold unV
  simp only
  go_enter Try.func33, Try.ntmps33
  go_wp2
  go_loop [7] (fun iv => ∃ k : Nat, k ≤ 5 ∧ iv = .int .i64 k ∧ Hid ((0 < k → q0 = true) ∧ (1 < k → q1 = true) ∧ (2 < k → q2 = true) ∧ (3 < k → q3 = true) ∧ (4 < k → q4 = true))) (fun iv => 5 - (intOf iv).toNat)
  case atStart => exact ⟨0, by omega, rfl, Lib.hid (by simp)⟩
  case round =>
    obtain ⟨k, hk, rfl, HK⟩ := hrel
    have h6 : k = 0 ∨ k = 1 ∨ k = 2 ∨ k = 3 ∨ k = 4 ∨ k = 5 := by omega
    rcases h6 with rfl | rfl | rfl | rfl | rfl | rfl
    · have hix := index5_0 f0 f1 f2 f3 f4
      cases q0
      · have HE := Lib.hid (show q = false by rw [HQ.out]; simp)
        go_wp2_with (go_at_call 37; (refine (H0.out _).mono ?_); rintro e w' ⟨rfl, rfl⟩)
        go_ret
        exact ⟨by rw [HE.out]; rfl, HB.out⟩
      · go_wp2_with (go_at_call 37; (refine (H0.out _).mono ?_); rintro e w' ⟨rfl, rfl⟩)
        go_round
        case rel => exact ⟨1, by omega, rfl, Lib.hid (by simp)⟩
        case measure => simp [intOf]
    · have hix := index5_1 f0 f1 f2 f3 f4
      cases q1
      · have HE := Lib.hid (show q = false by rw [HQ.out]; simp)
        go_wp2_with (go_at_call 37; (refine (H1.out _).mono ?_); rintro e w' ⟨rfl, rfl⟩)
        go_ret
        exact ⟨by rw [HE.out]; rfl, HB.out⟩
      · go_wp2_with (go_at_call 37; (refine (H1.out _).mono ?_); rintro e w' ⟨rfl, rfl⟩)
        go_round
        case rel => exact ⟨2, by omega, rfl, Lib.hid (by have := HK.out; simpa using this)⟩
        case measure => simp [intOf]
    · have hix := index5_2 f0 f1 f2 f3 f4
      cases q2
      · have HE := Lib.hid (show q = false by rw [HQ.out]; simp)
        go_wp2_with (go_at_call 37; (refine (H2.out _).mono ?_); rintro e w' ⟨rfl, rfl⟩)
        go_ret
        exact ⟨by rw [HE.out]; rfl, HB.out⟩
      · go_wp2_with (go_at_call 37; (refine (H2.out _).mono ?_); rintro e w' ⟨rfl, rfl⟩)
        go_round
        case rel => exact ⟨3, by omega, rfl, Lib.hid (by have := HK.out; simpa using this)⟩
        case measure => simp [intOf]
    · have hix := index5_3 f0 f1 f2 f3 f4
      cases q3
      · have HE := Lib.hid (show q = false by rw [HQ.out]; simp)
        go_wp2_with (go_at_call 37; (refine (H3.out _).mono ?_); rintro e w' ⟨rfl, rfl⟩)
        go_ret
        exact ⟨by rw [HE.out]; rfl, HB.out⟩
      · go_wp2_with (go_at_call 37; (refine (H3.out _).mono ?_); rintro e w' ⟨rfl, rfl⟩)
        go_round
        case rel => exact ⟨4, by omega, rfl, Lib.hid (by have := HK.out; simpa using this)⟩
        case measure => simp [intOf]
    · have hix := index5_4 f0 f1 f2 f3 f4
      cases q4
      · have HE := Lib.hid (show q = false by rw [HQ.out]; simp)
        go_wp2_with (go_at_call 37; (refine (H4.out _).mono ?_); rintro e w' ⟨rfl, rfl⟩)
        go_ret
        exact ⟨by rw [HE.out]; rfl, HB.out⟩
      · go_wp2_with (go_at_call 37; (refine (H4.out _).mono ?_); rintro e w' ⟨rfl, rfl⟩)
        go_round
        case rel => exact ⟨5, by omega, rfl, Lib.hid (by have := HK.out; simpa using this)⟩
        case measure => simp [intOf]
    · have HE := Lib.hid (show q = true by rw [HQ.out]; have := HK.out; simpa using this)
      go_wp2
      go_ret
      exact ⟨by rw [HE.out]; rfl, HB.out⟩
theorem new6 {w w1 : World} {x0 x1 x2 x3 x4 x5 : Value} {t : TypeId} (h : Below (w.alloc (.cells #[x0, x1, x2, x3, x4, x5] t)).heap.size (w.alloc (.cells #[x0, x1, x2, x3, x4, x5] t)) w1) :
    w1.cell? ⟨w.heap.size, 0, none⟩ = some x0 ∧ w1.cell? ⟨w.heap.size, 1, none⟩ = some x1 ∧ w1.cell? ⟨w.heap.size, 2, none⟩ = some x2 ∧ w1.cell? ⟨w.heap.size, 3, none⟩ = some x3 ∧ w1.cell? ⟨w.heap.size, 4, none⟩ = some x4 ∧ w1.cell? ⟨w.heap.size, 5, none⟩ = some x5 :=
  ⟨(h.cell (p := ⟨w.heap.size, 0, none⟩) (by simp)).trans (by simp), (h.cell (p := ⟨w.heap.size, 1, none⟩) (by simp)).trans (by simp), (h.cell (p := ⟨w.heap.size, 2, none⟩) (by simp)).trans (by simp), (h.cell (p := ⟨w.heap.size, 3, none⟩) (by simp)).trans (by simp), (h.cell (p := ⟨w.heap.size, 4, none⟩) (by simp)).trans (by simp), (h.cell (p := ⟨w.heap.size, 5, none⟩) (by simp)).trans (by simp)⟩
theorem new6f {w w1 : World} {x0 x1 x2 x3 x4 x5 : Value} {t : TypeId} (h : Below (w.alloc (.cells #[x0, x1, x2, x3, x4, x5] t)).heap.size (w.alloc (.cells #[x0, x1, x2, x3, x4, x5] t)) w1) (j : Nat) : w1.frozen? ⟨w.heap.size, j, none⟩ = false :=
  (h.frozen (p := ⟨w.heap.size, j, none⟩) (by simp)).trans (frozen_new _ _ _ _)
def set6 (w : World) (X : Nat) (x0 x1 x2 x3 x4 x5 : Value) : World := (((((w.setCell ⟨X, 0, none⟩ x0).setCell ⟨X, 1, none⟩ x1).setCell ⟨X, 2, none⟩ x2).setCell ⟨X, 3, none⟩ x3).setCell ⟨X, 4, none⟩ x4).setCell ⟨X, 5, none⟩ x5
theorem set6_below {w0 w : World} {X : Nat} (h : Below w0.heap.size w0 w) (hX : w0.heap.size ≤ X) (x0 x1 x2 x3 x4 x5 : Value) : Below w0.heap.size w0 (set6 w X x0 x1 x2 x3 x4 x5) :=
  (((((h.setCell (p := ⟨X, 0, none⟩) hX _).setCell (p := ⟨X, 1, none⟩) hX _).setCell (p := ⟨X, 2, none⟩) hX _).setCell (p := ⟨X, 3, none⟩) hX _).setCell (p := ⟨X, 4, none⟩) hX _).setCell (p := ⟨X, 5, none⟩) hX _
set_option maxRecDepth 100000 in
set_option maxHeartbeats 1000000 in
theorem tabUnit_some {K : Nat → Prop} (b : Nat) (us : List Un) (g id : Int) (n : Nat) (w : World) (h : TabQ K b us g w) (hn : FindIs us id n) (hlt : n < us.length) (he : us[n].id = id) :
    Calls Try.prog 24 #[.pointer (some ⟨b, 0, none⟩), .int .i64 id] w fun r w' => r = .returned (.tuple #[unV us[n], .bool true]) ∧ Below w.heap.size w w' := by
  have hA : Below w.heap.size w (w.alloc (.cells #[.int .i64 0, .int .i64 0, .int .i64 0, .int .i64 0, .int .i64 0, .int .i64 0] 61)) := (Below.refl _ w).alloc (Nat.le_refl _) _
  have HF := Lib.hid (find_any b us g id n _ (h.below hA) hn)
  rw [show foundQ us id n = true by rw [foundQ_lt hlt]; simpa using he] at HF
  obtain ⟨⟨a, c, h1, -⟩, -, -⟩ := h
  obtain ⟨gb, off, rfl, hgb, e0, e1, e2, e3, e4, e5⟩ := h1.urow.at hlt
  have c0 := h1.c0
  have hb := h1.lt
  have hl : n < us.length := hlt
  clear h1 hn he
  generalize us[n] = u at e0 e1 e2 e3 e4 e5 ⊢
  obtain ⟨u0, u1, u2, u3, u4, u5⟩ := u
  unfold unV
  simp only at e0 e1 e2 e3 e4 e5 ⊢
  go_enter Try.func24, Try.ntmps24
  go_wp2_with fail
  refine HF.out.mono ?_
  rintro r w1 ⟨rfl, hb1⟩
  obtain ⟨r0, r1, r2, r3, r4, r5⟩ := new6 hb1
  have z0 := new6f hb1 0
  have z1 := new6f hb1 1
  have z2 := new6f hb1 2
  have z3 := new6f hb1 3
  have z4 := new6f hb1 4
  have z5 := new6f hb1 5
  have hB : Below w.heap.size w w1 := hA.trans (hb1.mono hA.size)
  have HB := Lib.hid (set6_below hB (Nat.le_refl _) (.int .i64 u0) (.int .i64 u1) (.int .i64 u2) (.int .i64 u3) (.int .i64 u4) (.int .i64 u5))
  replace c0 := (hB.cell (p := ⟨b, 0, none⟩) hb).trans c0
  replace e0 := (hB.cell (p := ⟨gb, off + n * 6, none⟩) hgb).trans e0
  replace e1 := (hB.cell (p := ⟨gb, off + n * 6 + 1, none⟩) hgb).trans e1
  replace e2 := (hB.cell (p := ⟨gb, off + n * 6 + 2, none⟩) hgb).trans e2
  replace e3 := (hB.cell (p := ⟨gb, off + n * 6 + 3, none⟩) hgb).trans e3
  replace e4 := (hB.cell (p := ⟨gb, off + n * 6 + 4, none⟩) hgb).trans e4
  replace e5 := (hB.cell (p := ⟨gb, off + n * 6 + 5, none⟩) hgb).trans e5
  unfold set6 at HB
  have hz : w.heap.size < w1.heap.size := block_lt_of_cell r0
  clear hb1 hB hA HF
  go_wp2
  exact bodyPost_ret (v := .tuple #[.agg #[.int .i64 u0, .int .i64 u1, .int .i64 u2, .int .i64 u3, .int .i64 u4, .int .i64 u5], .bool true]) (by simp [results, Try.results24, go_sem, r0, r1, r2, r3, r4, r5]) rfl ⟨rfl, HB.out⟩
set_option maxRecDepth 100000 in
theorem tabUnit_none {K : Nat → Prop} (b : Nat) (us : List Un) (g id : Int) (n : Nat) (w : World) (h : TabQ K b us g w) (hn : FindIs us id n) (hf : foundQ us id n = false) :
    Calls Try.prog 24 #[.pointer (some ⟨b, 0, none⟩), .int .i64 id] w fun r w' => r = .returned (.tuple #[unV ⟨0, 0, 0, 0, 0, 0⟩, .bool false]) ∧ Below w.heap.size w w' := by
  have hA : Below w.heap.size w (w.alloc (.cells #[.int .i64 0, .int .i64 0, .int .i64 0, .int .i64 0, .int .i64 0, .int .i64 0] 61)) := (Below.refl _ w).alloc (Nat.le_refl _) _
  have HF := Lib.hid (find_any b us g id n _ (h.below hA) hn)
  rw [hf] at HF
  clear hn h hf
  go_enter Try.func24, Try.ntmps24
  go_wp2_with fail
  refine HF.out.mono ?_
  rintro r w1 ⟨rfl, hb1⟩
  obtain ⟨r0, r1, r2, r3, r4, r5⟩ := new6 hb1
  have z0 := new6f hb1 0
  have z1 := new6f hb1 1
  have z2 := new6f hb1 2
  have z3 := new6f hb1 3
  have z4 := new6f hb1 4
  have z5 := new6f hb1 5
  have HB := Lib.hid (set6_below (hA.trans (hb1.mono hA.size)) (Nat.le_refl _) (.int .i64 0) (.int .i64 0) (.int .i64 0) (.int .i64 0) (.int .i64 0) (.int .i64 0))
  unfold set6 at HB
  have hz : w.heap.size < w1.heap.size := block_lt_of_cell r0
  clear hb1 hA HF
  go_wp2
  exact bodyPost_ret (v := .tuple #[.agg #[.int .i64 0, .int .i64 0, .int .i64 0, .int .i64 0, .int .i64 0, .int .i64 0], .bool false]) (by simp [results, Try.results24, go_sem, r0, r1, r2, r3, r4, r5]) rfl ⟨rfl, HB.out⟩
end Go.Proofs.Ythggfjjiohdbmaa
