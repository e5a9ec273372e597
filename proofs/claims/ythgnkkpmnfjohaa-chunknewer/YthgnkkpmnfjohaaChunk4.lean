/-
  Layer 11: a first piece that comes to a gather; the calls at the head of the laws.
-/
import Derived.Test.YthgnkkpmnfjohaaChunk3
import Derived.Laws.StructEq
import Derived.Laws.OwnMore
import Derived.Deep.RegionHeld3
import Derived.Deep.RegionLaw
namespace Go.Proofs.Ythgnkkpmnfjohaa
open Go.RowKit
set_option linter.unusedVariables false

def headV (p : Pc) : Value := .agg #[.int .i64 p.turn, .int .i64 p.bytes, .int .u64 (p.hash : Int)]
theorem head_neq (a b c a' b' c' : Int) (w : World) : (binOp .neq 63 (.agg #[.int .i64 a, .int .i64 b, .int .u64 c]) (.agg #[.int .i64 a', .int .i64 b', .int .u64 c'])).run Try.prog w = .ok (.bool (!(a == a' && (b == b' && c == c')))) w := by
  by_cases h1 : a = a'
  · subst h1
    by_cases h2 : b = b'
    · subst h2
      by_cases h3 : c = c'
      · subst h3; go_simp
      · go_simp
    · go_simp
  · go_simp
set_option maxRecDepth 100000 in
theorem pcHead_any (p : Pc) (w : World) : Calls Try.prog 24 #[pcV p] w fun r w' => r = .returned (headV p) ∧ Below w.heap.size w w' := by
  obtain ⟨p0, p1, p2, p3, p4⟩ := p
  unfold pcV headV
  simp only
  have HB := Lib.hid (show Below w.heap.size w (((w.alloc (.cells #[.int .i64 p0, .int .i64 p1, .int .u64 (p2 : Int), .int .i64 p3, .string (bs p4)] 32)).alloc (.cells #[.int .i64 p0, .int .i64 p1, .int .u64 (p2 : Int)] 63))) from bel_alloc (bel_alloc (Below.refl _ _) _) _)
  go_enter Try.func24, Try.ntmps24
  go_wp2
  exact bodyPost_ret (v := .agg #[.int .i64 p0, .int .i64 p1, .int .u64 (p2 : Int)]) (by simp [results, Try.results24, go_sem]) rfl ⟨rfl, HB.out⟩
theorem keep8c {W w' : World} (hb : Below W.heap.size W w') {p q r t u p' q' r' : Addr} {x y z v y' x1 x2 x3 : Value} (h : (W.cell? p = some x ∧ W.cell? q = some y ∧ W.cell? r = some z ∧ W.cell? t = some v ∧ W.cell? u = some y') ∧ (W.cell? p' = some x1 ∧ W.cell? q' = some x2 ∧ W.cell? r' = some x3)) :
    (w'.cell? p = some x ∧ w'.cell? q = some y ∧ w'.cell? r = some z ∧ w'.cell? t = some v ∧ w'.cell? u = some y') ∧ (w'.cell? p' = some x1 ∧ w'.cell? q' = some x2 ∧ w'.cell? r' = some x3) :=
  ⟨⟨(hb.cell (block_lt_of_cell h.1.1)).trans h.1.1, (hb.cell (block_lt_of_cell h.1.2.1)).trans h.1.2.1, (hb.cell (block_lt_of_cell h.1.2.2.1)).trans h.1.2.2.1, (hb.cell (block_lt_of_cell h.1.2.2.2.1)).trans h.1.2.2.2.1, (hb.cell (block_lt_of_cell h.1.2.2.2.2)).trans h.1.2.2.2.2⟩,
    (hb.cell (block_lt_of_cell h.2.1)).trans h.2.1, (hb.cell (block_lt_of_cell h.2.2.1)).trans h.2.2.1, (hb.cell (block_lt_of_cell h.2.2.2)).trans h.2.2.2⟩
/-- A gather to which nothing came. -/
structure Ga0 (w : World) (b : Nat) : Prop where
  c0 : w.cell? ⟨b, 0, none⟩ = some (.int .i64 0)
  c1 : w.cell? ⟨b, 1, none⟩ = some (.int .i64 0)
  c2 : w.cell? ⟨b, 2, none⟩ = some (.int .u64 0)
  c3 : w.cell? ⟨b, 3, none⟩ = some (.slice none 0 0)
  c4 : w.cell? ⟨b, 4, none⟩ = some (.int .i64 0)
  f : ∀ j, w.frozen? ⟨b, j, none⟩ = false
theorem Ga0.keep {w w' : World} {b : Nat} (h : Ga0 w b) (hb : Below w.heap.size w w') : Ga0 w' b := by
  have hl := block_lt_of_cell h.c0
  exact ⟨(hb.cell (p := ⟨b, 0, none⟩) hl).trans h.c0, (hb.cell (p := ⟨b, 1, none⟩) hl).trans h.c1, (hb.cell (p := ⟨b, 2, none⟩) hl).trans h.c2, (hb.cell (p := ⟨b, 3, none⟩) hl).trans h.c3, (hb.cell (p := ⟨b, 4, none⟩) hl).trans h.c4, fun j => (hb.frozen (p := ⟨b, j, none⟩) hl).trans (h.f j)⟩
theorem gaNew_any (w : World) : Calls Try.prog 8 #[] w fun r w' => r = .returned (.pointer (some ⟨w.heap.size, 0, none⟩)) ∧ Ga0 w' w.heap.size ∧ Below w.heap.size w w' := by
  go_enter Try.func8, Try.ntmps8
  go_wp2
  go_ret
  exact ⟨rfl, ⟨by simp, by simp, by simp, by simp, by simp, fun j => frozen_new _ _ _ _⟩, bel_alloc (Below.refl _ _) _⟩
theorem made_str (u : World) (n : Nat) (hn : n ≤ 1000) : (Instr.makeSlice 22 (.int .i64 (n : Int)) (.int .i64 (n : Int))).run Try.prog u = .ok (.slice (some ⟨u.heap.size, 0, none⟩) n n) (u.alloc (.cells (madeCells #[.string ⟨#[]⟩] n) 9)) := by
  have h0 : (Try.prog.info? 9).map (fun i => (i.zero, i.size, i.bytes)) = some (some (.string ⟨#[]⟩), 1, 16) := by kernel_rfl
  obtain ⟨i0, hi, hz0, hz1, hz2⟩ := info_is h0
  have := run_make (P := Try.prog) u 22 9 i0 _ Try.underlying22 hi hz0 .i64 .i64 (n : Int) (n : Int) (by omega) (by omega) (by rw [hz2]; omega) (by omega)
  rw [hz1] at this
  simpa [Value.cells] using this
def set5 (w : World) (b : Nat) (v0 v1 v2 v3 v4 : Value) : World := ((((w.setCell ⟨b, 0, none⟩ v0).setCell ⟨b, 1, none⟩ v1).setCell ⟨b, 2, none⟩ v2).setCell ⟨b, 3, none⟩ v3).setCell ⟨b, 4, none⟩ v4
theorem set5_touch (w : World) (b : Nat) (v0 v1 v2 v3 v4 : Value) : Touch (fun k => k = b) w (set5 w b v0 v1 v2 v3 v4) :=
  (((((Touch.refl (fun k => k = b) w).setCell (p := ⟨b, 0, none⟩) (fun _ => rfl) _).setCell (p := ⟨b, 1, none⟩) (fun _ => rfl) _).setCell (p := ⟨b, 2, none⟩) (fun _ => rfl) _).setCell (p := ⟨b, 3, none⟩) (fun _ => rfl) _).setCell (p := ⟨b, 4, none⟩) (fun _ => rfl) _
theorem set5_at {w : World} {b : Nat} (h : Ga0 w b) (v0 v1 v2 v3 v4 : Value) : (set5 w b v0 v1 v2 v3 v4).cell? ⟨b, 3, none⟩ = some v3 ∧ (set5 w b v0 v1 v2 v3 v4).cell? ⟨b, 4, none⟩ = some v4 ∧ ∀ j, (set5 w b v0 v1 v2 v3 v4).frozen? ⟨b, j, none⟩ = false := by
  unfold set5
  refine ⟨?_, ?_, fun j => by simpa using h.f j⟩
  · have a3 : (((w.setCell ⟨b, 0, none⟩ v0).setCell ⟨b, 1, none⟩ v1).setCell ⟨b, 2, none⟩ v2).cell? ⟨b, 3, none⟩ = some (.slice none 0 0) := by
      rw [World.cell?_setCell_other _ _ _ _ (by simp), World.cell?_setCell_other _ _ _ _ (by simp), World.cell?_setCell_other _ _ _ _ (by simp)]
      exact h.c3
    exact (World.cell?_setCell_other _ _ _ _ (by simp)).trans (World.cell?_setCell_same _ _ _ a3)
  · have a4 : ((((w.setCell ⟨b, 0, none⟩ v0).setCell ⟨b, 1, none⟩ v1).setCell ⟨b, 2, none⟩ v2).setCell ⟨b, 3, none⟩ v3).cell? ⟨b, 4, none⟩ = some (.int .i64 0) := by
      rw [World.cell?_setCell_other _ _ _ _ (by simp), World.cell?_setCell_other _ _ _ _ (by simp), World.cell?_setCell_other _ _ _ _ (by simp), World.cell?_setCell_other _ _ _ _ (by simp)]
      exact h.c4
    exact World.cell?_setCell_same _ _ _ a4
/-- The piece's box at X, the gather at b with a fresh row at B. -/
structure PFm (w : World) (b B X n : Nat) (m : Int) (t : ByteArray) (wx : World) : Prop where
  x3 : wx.cell? ⟨X, 3, none⟩ = some (.int .i64 m)
  x4 : wx.cell? ⟨X, 4, none⟩ = some (.string t)
  c3 : wx.cell? ⟨b, 3, none⟩ = some (.slice (some ⟨B, 0, none⟩) n n)
  c4 : wx.cell? ⟨b, 4, none⟩ = some (.int .i64 0)
  f : ∀ j, wx.frozen? ⟨b, j, none⟩ = false
  row : ∀ i, i < n → wx.cell? ⟨B, i, none⟩ = some (.string ⟨#[]⟩)
  rf : ∀ i, wx.frozen? ⟨B, i, none⟩ = false
  ge : w.heap.size ≤ B
  tch : Touch (fun k => k = b) w wx
theorem made_row (u : World) (n i : Nat) (h : i < n) (B : Nat) (hB : u.heap.size = B) : (u.alloc (.cells (madeCells #[.string ⟨#[]⟩] n) 9)).cell? ⟨B, i, none⟩ = some (.string ⟨#[]⟩) := by
  rw [cell_new' _ _ hB]
  rw [← Array.getElem?_toList, toList_madeCells_one]
  simp [h]
theorem pf_after {w W w2 : World} {b X n : Nat} {m : Int} {t : ByteArray} (hb : b < w.heap.size) (hX : X = w.heap.size) (hW : Touch (fun k => k = b) w W) (hg : Ga0 W b) (hx3 : W.cell? ⟨X, 3, none⟩ = some (.int .i64 m)) (hx4 : W.cell? ⟨X, 4, none⟩ = some (.string t)) (h2 : Below W.heap.size W w2) (v0 v1 v2 : Value) :
    PFm w b w2.heap.size X n m t ((set5 w2 b v0 v1 v2 (.slice (some ⟨w2.heap.size, 0, none⟩) n n) (.int .i64 0)).alloc (.cells (madeCells #[.string ⟨#[]⟩] n) 9)) := by
  have hg2 := hg.keep h2
  have hs := set5_touch w2 b v0 v1 v2 (.slice (some ⟨w2.heap.size, 0, none⟩) n n) (.int .i64 0)
  obtain ⟨e3, e4, ef⟩ := set5_at hg2 v0 v1 v2 (.slice (some ⟨w2.heap.size, 0, none⟩) n n) (.int .i64 0)
  have hsz : (set5 w2 b v0 v1 v2 (.slice (some ⟨w2.heap.size, 0, none⟩) n n) (.int .i64 0)).heap.size = w2.heap.size := by unfold set5; simp
  have x3 := (hs.cell (p := ⟨X, 3, none⟩) (block_lt_of_cell ((h2.cell (p := ⟨X, 3, none⟩) (block_lt_of_cell hx3)).trans hx3)) (by show ¬ X = b; omega)).trans ((h2.cell (p := ⟨X, 3, none⟩) (block_lt_of_cell hx3)).trans hx3)
  have x4 := (hs.cell (p := ⟨X, 4, none⟩) (block_lt_of_cell ((h2.cell (p := ⟨X, 4, none⟩) (block_lt_of_cell hx4)).trans hx4)) (by show ¬ X = b; omega)).trans ((h2.cell (p := ⟨X, 4, none⟩) (block_lt_of_cell hx4)).trans hx4)
  have hbl := block_lt_of_cell e3
  simp only at hbl
  have hwz := hW.size
  have h2z := h2.size
  generalize set5 w2 b v0 v1 v2 (.slice (some ⟨w2.heap.size, 0, none⟩) n n) (.int .i64 0) = W5 at hs e3 e4 ef hsz x3 x4 hbl ⊢
  exact ⟨alloc_cell x3 _, alloc_cell x4 _, alloc_cell e3 _, alloc_cell e4 _, fun j => (frozen_old _ _ _ hbl).trans (ef j), fun i hi => made_row W5 n i hi _ hsz, fun i => by rw [← hsz]; exact frozen_new _ _ _ _, by omega, ((hW.trans (touch_of_below h2)).trans hs).alloc _⟩
theorem keepG {W w' : World} {b : Nat} (hb : Below W.drew.heap.size W.drew w') (h : Ga0 W b) : Ga0 w' b := h.keep ⟨hb.os, hb.tape, hb.output, hb.size, hb.block⟩
set_option maxRecDepth 100000 in
set_option maxHeartbeats 2000000 in
theorem put_first (b : Nat) (p : Pc) (w : World) (h : Ga0 w b) (hp : checkP p = 0) (ht : p.text.length ≤ 1000000) : Calls Try.prog 10 #[.pointer (some ⟨b, 0, none⟩), pcV p] w fun r w' => r = .returned (.int .i64 0) ∧ Touch (fun k => k = b) w w' := by
  have hb := block_lt_of_cell h.c0
  simp only at hb
  have HCK := Lib.hid (fun W => pcCheck_any p W ht)
  have HHD := Lib.hid (fun W => pcHead_any p W)
  rw [hp] at HCK
  have hf := hp
  unfold checkP at hf
  obtain ⟨p0, p1, p2, p3, p4⟩ := p
  simp only at hf ht
  have hf1 : ¬ (p0 < 0 ∨ 1099511627776 < p0 ∨ p3 < 0) := fun h => by rw [if_pos h] at hf; omega
  rw [if_neg hf1] at hf
  have hf2 : ¬ (p1 < 1 ∨ 65536 < p1) := fun h => by rw [if_pos h] at hf; omega
  rw [if_neg hf2] at hf
  have hf3 : ¬ (countP p1 ≤ p3 ∨ (p4.length : Int) ≠ min (p1 - p3 * 100) 100) := fun h => by rw [if_pos h] at hf; omega
  have HCT := Lib.hid (fun W => chCount_any p1 (by unfold B64; omega) W)
  obtain ⟨n, hn⟩ : ∃ n : Nat, countP p1 = (n : Int) := Int.eq_ofNat_of_zero_le (by unfold countP; split <;> omega)
  have hn2 : n ≤ 1000 := by unfold countP at hn; split at hn <;> omega
  rw [hn] at hf3 HCT
  obtain ⟨m, rfl⟩ : ∃ m : Nat, p3 = (m : Int) := Int.eq_ofNat_of_zero_le (by omega)
  have hm : m < n := by omega
  have hmk := fun u => made_str u n hn2
  have hq1 : (p1 == 0) = false := by simp; omega
  clear hf hf3 hn hp
  unfold pcV headV at HHD
  unfold pcV at HCK ⊢
  simp only at HHD HCK ⊢
  have HG := Lib.hid (h.keep (bel_alloc (Below.refl _ _) (.cells #[.int .i64 p0, .int .i64 p1, .int .u64 (p2 : Int), .int .i64 (m : Int), .string (bs p4)] 32)))
  go_enter Try.func10, Try.ntmps10
  go_wp2_with fail
  refine (HCK.out _).mono ?_
  rintro r w1 ⟨rfl, hb1⟩
  have HG1 := Lib.hid (HG.out.keep hb1)
  have hxs : ∀ j v, (#[.int .i64 p0, .int .i64 p1, .int .u64 (p2 : Int), .int .i64 (m : Int), .string (bs p4)] : Array Value)[j]? = some v → w1.cell? ⟨w.heap.size, j, none⟩ = some v := fun j v hv => (hb1.cell (p := ⟨w.heap.size, j, none⟩) (by simp)).trans (by rw [cell_new' _ _ rfl]; exact hv)
  have x0 := hxs 0 _ rfl
  have x1 := hxs 1 _ rfl
  have x2 := hxs 2 _ rfl
  have x3 := hxs 3 _ rfl
  have x4 := hxs 4 _ rfl
  have HB1 := Lib.hid (show Below w.heap.size w w1 from (bel_alloc (Below.refl _ _) _).trans (hb1.mono (by simp)))
  have hXl := block_lt_of_cell x0
  simp only at hXl
  clear hxs hb1 HG HCK h
  generalize hXw : w.heap.size = X at x0 x1 x2 x3 x4 hXl ⊢
  have hbl := block_lt_of_cell HG1.out.c0
  simp only at hbl
  go_upto_region 4 with (fail)
  have g0 := HG1.out.c0
  have g1 := HG1.out.c1
  have g2 := HG1.out.c2
  have hnq := head_neq p0 p1 (p2 : Int) 0 0 0
  rw [show (!(p0 == 0 && (p1 == 0 && (p2 : Int) == 0))) = true by rw [hq1]; simp] at hnq
  have HGc := Lib.hid (HG1.out.keep (w' := w1.drew) (Below.refl _ _).drew)
  have HBc := Lib.hid HB1.out.drew
  clear HG1 HB1
  go_region_held3 (fun w' => (w'.cell? ⟨X, 0, none⟩ = some (.int .i64 p0) ∧ w'.cell? ⟨X, 1, none⟩ = some (.int .i64 p1) ∧ w'.cell? ⟨X, 2, none⟩ = some (.int .u64 (p2 : Int)) ∧ w'.cell? ⟨X, 3, none⟩ = some (.int .i64 (m : Int)) ∧ w'.cell? ⟨X, 4, none⟩ = some (.string (bs p4))) ∧ (w'.cell? ⟨b, 0, none⟩ = some (.int .i64 0) ∧ w'.cell? ⟨b, 1, none⟩ = some (.int .i64 0) ∧ w'.cell? ⟨b, 2, none⟩ = some (.int .u64 0)))
    (first | (refine keep8c hbK ?_; assumption) | assumption | exact ⟨⟨x0, x1, x2, x3, x4⟩, g0, g1, g2⟩)
    (first | (go_at_call 24; refine (HHD.out _).mono ?_; rintro e wK ⟨rfl, hbK⟩; have HGc := Lib.hid (HGc.out.keep hbK); have HBc := Lib.hid (HBc.out.trans (hbK.mono HBc.out.size))))
  all_goals
    have hS : (wK.cell? ⟨X, 0, none⟩ = some (.int .i64 p0) ∧ wK.cell? ⟨X, 1, none⟩ = some (.int .i64 p1) ∧ wK.cell? ⟨X, 2, none⟩ = some (.int .u64 (p2 : Int)) ∧ wK.cell? ⟨X, 3, none⟩ = some (.int .i64 (m : Int)) ∧ wK.cell? ⟨X, 4, none⟩ = some (.string (bs p4))) ∧ (wK.cell? ⟨b, 0, none⟩ = some (.int .i64 0) ∧ wK.cell? ⟨b, 1, none⟩ = some (.int .i64 0) ∧ wK.cell? ⟨b, 2, none⟩ = some (.int .u64 0)) := by assumption
    have HGk := Lib.hid HGc.out
    have HBk := Lib.hid HBc.out
    obtain ⟨⟨x0, x1, x2, x3, x4⟩, g0, -, -⟩ := hS
    have g4 := HGk.out.c4
    clear hnq
    go_upto_region 5 with (fail)
    generalize wK = W5 at HGk HBk x0 x1 x2 x3 x4 g0 g4 ⊢
    have hXl := block_lt_of_cell x0
    have hbl := block_lt_of_cell g0
    simp only at hXl hbl
    go_quiet (fail)
    have HG6 : Hid (Ga0 (W5.drewN nq) b) := Lib.hid ⟨HGk.out.c0, HGk.out.c1, HGk.out.c2, HGk.out.c3, HGk.out.c4, HGk.out.f⟩
    have HB6 : Hid (Below w.heap.size w (W5.drewN nq)) := Lib.hid ⟨HBk.out.os, HBk.out.tape, HBk.out.output, HBk.out.size, HBk.out.block⟩
    have y0 : (W5.drewN nq).cell? ⟨X, 0, none⟩ = some (.int .i64 p0) := x0
    have y1 : (W5.drewN nq).cell? ⟨X, 1, none⟩ = some (.int .i64 p1) := x1
    have y2 : (W5.drewN nq).cell? ⟨X, 2, none⟩ = some (.int .u64 (p2 : Int)) := x2
    have y3 : (W5.drewN nq).cell? ⟨X, 3, none⟩ = some (.int .i64 (m : Int)) := x3
    have y4 : (W5.drewN nq).cell? ⟨X, 4, none⟩ = some (.string (bs p4)) := x4
    clear HGk HBk x0 x1 x2 x3 x4 g0 g4 hXl hbl
    generalize W5.drewN nq = W6 at HG6 HB6 y0 y1 y2 y3 y4 ⊢
    have hXl := block_lt_of_cell y0
    have g0 := HG6.out.c0
    have g1 := HG6.out.c1
    have g2 := HG6.out.c2
    have g3 := HG6.out.c3
    have g4 := HG6.out.c4
    have f0 := HG6.out.f 0
    have f1 := HG6.out.f 1
    have f2 := HG6.out.f 2
    have f3 := HG6.out.f 3
    have f4 := HG6.out.f 4
    have hbl := block_lt_of_cell g0
    simp only at hXl hbl
    have HPF := Lib.hid (fun w2 (h2 : Below W6.drew.heap.size W6.drew w2) => pf_after (n := n) hb hXw.symm (touch_of_below HB6.out) HG6.out y3 y4 (show Below W6.heap.size W6 w2 from ⟨h2.os, h2.tape, h2.output, h2.size, h2.block⟩) (.int .i64 p0) (.int .i64 p1) (.int .u64 (p2 : Int)))
    unfold set5 at HPF
    go_upto_region 7 with (fail)
    go_region_law (first
      | (go_simp; go_at_call 24; refine (HHD.out _).mono ?_; rintro e wH ⟨rfl, hbH⟩; have HPH := Lib.hid (HPF.out wH hbH); have HKG := Lib.hid (keepG hbH HG6.out); have q1 := (hbH.cell (p := ⟨X, 1, none⟩) hXl).trans y1; have r0 := HKG.out.c0; have r1 := HKG.out.c1; have r2 := HKG.out.c2; have r3 := HKG.out.c3; have r4 := HKG.out.c4; have s0 := HKG.out.f 0; have s1 := HKG.out.f 1; have s2 := HKG.out.f 2; have s3 := HKG.out.f 3; have s4 := HKG.out.f 4; have hbl2 := block_lt_of_cell r0; simp only at hbl2; clear hbH HKG)
      | (go_simp; go_at_call 22; refine (HCT.out _).mono ?_; rintro e wC ⟨rfl, rfl⟩))
    all_goals
      clear r0 r1 r2 r3 r4 s0 s1 s2 s3 s4 hbl2 q1 y0 y1 y2 y3 y4 g0 g1 g2 g3 g4 f0 f1 f2 f3 f4 hbl hXl HPF
      go_upto_region 8 with (fail)
      generalize ((((((wH.setCell ⟨b, 0, none⟩ (.int .i64 p0)).setCell ⟨b, 1, none⟩ (.int .i64 p1)).setCell ⟨b, 2, none⟩ (.int .u64 (p2 : Int))).setCell ⟨b, 3, none⟩ (.slice (some ⟨wH.heap.size, 0, none⟩) n n)).setCell ⟨b, 4, none⟩ (.int .i64 0)).alloc (.cells (madeCells #[.string ⟨#[]⟩] n) 9)) = W7 at HPH ⊢
      generalize wH.heap.size = B at HPH ⊢
      have x3 := HPH.out.x3
      have c3 := HPH.out.c3
      have rm := HPH.out.row m hm
      have hXl := block_lt_of_cell x3
      have hbl := block_lt_of_cell c3
      have hBl := block_lt_of_cell rm
      simp only at hXl hbl hBl
      have hm0 : (0 : Int) ≤ (m : Int) := by omega
      have hm1 : (m : Int) < (n : Int) := by omega
      go_quiet (fail)
      have HP8 : Hid (PFm w b B X n (m : Int) (bs p4) (W7.drewN nq)) := Lib.hid ⟨HPH.out.x3, HPH.out.x4, HPH.out.c3, HPH.out.c4, HPH.out.f, HPH.out.row, HPH.out.rf, HPH.out.ge, ⟨HPH.out.tch.os, HPH.out.tch.tape, HPH.out.tch.output, HPH.out.tch.size, HPH.out.tch.block⟩⟩
      clear HPH x3 c3 rm hXl hbl hBl
      generalize W7.drewN nq = W8 at HP8 ⊢
      have x3 := HP8.out.x3
      have x4 := HP8.out.x4
      have c3 := HP8.out.c3
      have c4 := HP8.out.c4
      have rm := HP8.out.row m hm
      have rf := HP8.out.rf m
      have f4 := HP8.out.f 4
      have hXl := block_lt_of_cell x3
      have hbl := block_lt_of_cell c3
      have hBl := block_lt_of_cell rm
      simp only at hXl hbl hBl
      have hBb : B ≠ b := by have := HP8.out.ge; omega
      have HFN := Lib.hid (show Touch (fun k => k = b) w ((W8.setCell ⟨B, m, none⟩ (.string (bs p4))).drew.setCell ⟨b, 4, none⟩ (.int .i64 1)) from (((HP8.out.tch.setCell (p := ⟨B, m, none⟩) (fun h => by have := HP8.out.ge; simp only at h; omega) _).drew).setCell (p := ⟨b, 4, none⟩) (fun _ => rfl) _))
      clear HP8
      go_upto_region 10 with (fail)
      go_region
      all_goals
        go_wp2
        go_ret
        exact ⟨rfl, HFN.out⟩
def zeros250 : List UInt8 := List.replicate 250 0
theorem zeros250_len : zeros250.length = 250 := List.length_replicate
theorem first_ok : checkP (pcAt 3 zeros250 0) = 0 := by
  unfold checkP pcAt
  simp only [zeros250_len, List.length_take, List.length_drop]
  rw [if_neg (by omega), if_neg (by omega), if_neg]
  unfold countP
  omega
theorem made_bytes (u : World) : (Instr.makeSlice 61 (.int .i64 250) (.int .i64 250)).run Try.prog u = .ok (.slice (some ⟨u.heap.size, 0, none⟩) 250 250) (u.alloc (.cells (madeCells #[.int .u8 0] 250) 5)) := by
  have h0 : (Try.prog.info? 5).map (fun i => (i.zero, i.size, i.bytes)) = some (some (.int .u8 0), 1, 1) := by kernel_rfl
  obtain ⟨i0, hi, hz0, hz1, hz2⟩ := info_is h0
  have := run_make (P := Try.prog) u 61 5 i0 _ Try.underlying61 hi hz0 .i64 .i64 250 250 (by omega) (by omega) (by rw [hz2]; omega) (by omega)
  rw [hz1] at this
  simpa [Value.cells] using this
theorem str_zeros (u : World) (B : Nat) (hB : u.heap.size = B) : (convert 61 9 (.slice (some ⟨B, 0, none⟩) 250 250)).run Try.prog (u.alloc (.cells (madeCells #[.int .u8 0] 250) 5)) = .ok (.string (bs zeros250)) (u.alloc (.cells (madeCells #[.int .u8 0] 250) 5)) := by
  refine bytes_back _ B 250 250 zeros250 zeros250_len.symm (fun j hj => ?_)
  rw [zeros250_len] at hj
  rw [cell_new' _ _ hB, ← Array.getElem?_toList, toList_madeCells_one, List.getElem?_replicate, if_pos hj]
  have : ∀ (h : j < zeros250.length), zeros250[j] = 0 := fun h => by unfold zeros250; exact List.getElem_replicate _
  rw [this]
  rfl
theorem own_piece {e : TypeId} {B : Nat} {a : Option Addr} {c : Nat} {t : Int} {l : List UInt8} {w : World} (h : OwnV e 5 B a c ((splitL t l).map pcCells) w) (h0 : 0 < cntN l.length) : ∃ gb, a = some ⟨gb, 0, none⟩ ∧ gb < w.heap.size ∧ B ≤ gb ∧ ∀ i, i < cntN l.length → w.cell? ⟨gb, i * 5, none⟩ = some (.int .i64 t) ∧ w.cell? ⟨gb, i * 5 + 1, none⟩ = some (.int .i64 (l.length : Int)) ∧ w.cell? ⟨gb, i * 5 + 2, none⟩ = some (.int .u64 (sumOf l : Int)) ∧ w.cell? ⟨gb, i * 5 + 3, none⟩ = some (.int .i64 (i : Int)) ∧ w.cell? ⟨gb, i * 5 + 4, none⟩ = some (.string (bs ((l.drop (100 * i)).take 100))) := by
  have hlen : ((splitL t l).map pcCells).length = cntN l.length := by simp [splitL, splitK]
  rcases h.1.2 with ⟨-, h00⟩ | ⟨g, cap, cur, hv, -, hg, hnc, -, hsz, htk⟩
  · omega
  · have hr := h.row (pc_wide _) (by rw [hlen]; exact h0)
    obtain ⟨b, off, e1, hc⟩ := hr
    simp only [Value.slice.injEq] at hv
    rw [hv.1] at e1
    simp only [Option.some.injEq, Addr.mk.injEq] at e1
    obtain ⟨rfl, rfl, -⟩ := e1
    refine ⟨g, hv.1, (Array.getElem?_eq_some_iff.1 hg).1, h.2 _ hv.1, fun i hi => ?_⟩
    have hx : ∀ j, j < 5 → w.cell? ⟨g, i * 5 + j, none⟩ = (pcCells (pcAt t l i))[j]? := fun j hj => by
      have h1 := hc i (by rw [hlen]; exact hi) j hj
      rw [Nat.zero_add] at h1
      rw [h1]
      simp [splitL, splitK]
    exact ⟨hx 0 (by decide), hx 1 (by decide), hx 2 (by decide), hx 3 (by decide), hx 4 (by decide)⟩
theorem keep8t {S : Nat → Prop} {W w' : World} (ht : Touch S W w') {g p q r t u p' q' r' : Nat} {x y z v y' x1 x2 x3 : Value} (hs : ¬ S g) (h : (W.cell? ⟨g, p, none⟩ = some x ∧ W.cell? ⟨g, q, none⟩ = some y ∧ W.cell? ⟨g, r, none⟩ = some z ∧ W.cell? ⟨g, t, none⟩ = some v ∧ W.cell? ⟨g, u, none⟩ = some y') ∧ (W.cell? ⟨g, p', none⟩ = some x1 ∧ W.cell? ⟨g, q', none⟩ = some x2 ∧ W.cell? ⟨g, r', none⟩ = some x3)) :
    (w'.cell? ⟨g, p, none⟩ = some x ∧ w'.cell? ⟨g, q, none⟩ = some y ∧ w'.cell? ⟨g, r, none⟩ = some z ∧ w'.cell? ⟨g, t, none⟩ = some v ∧ w'.cell? ⟨g, u, none⟩ = some y') ∧ (w'.cell? ⟨g, p', none⟩ = some x1 ∧ w'.cell? ⟨g, q', none⟩ = some x2 ∧ w'.cell? ⟨g, r', none⟩ = some x3) := by
  have hl := block_lt_of_cell h.1.1
  simp only at hl
  exact ⟨⟨(ht.cell (p := ⟨g, p, none⟩) hl hs).trans h.1.1, (ht.cell (p := ⟨g, q, none⟩) hl hs).trans h.1.2.1, (ht.cell (p := ⟨g, r, none⟩) hl hs).trans h.1.2.2.1, (ht.cell (p := ⟨g, t, none⟩) hl hs).trans h.1.2.2.2.1, (ht.cell (p := ⟨g, u, none⟩) hl hs).trans h.1.2.2.2.2⟩,
    (ht.cell (p := ⟨g, p', none⟩) hl hs).trans h.2.1, (ht.cell (p := ⟨g, q', none⟩) hl hs).trans h.2.2.1, (ht.cell (p := ⟨g, r', none⟩) hl hs).trans h.2.2.2⟩
set_option maxRecDepth 100000 in
set_option maxHeartbeats 2000000 in
theorem awake11_any (w : World) : Calls Try.prog 6 #[] w fun e w' => e = .returned (.bool true) ∧ Below w.heap.size w w' := by
  have hmk := made_bytes
  have HST := Lib.hid str_zeros
  have HSP := Lib.hid (fun W => split_any 3 zeros250 W (by rw [zeros250_len]; omega))
  have HCT := Lib.hid (fun W => chCount_any 101 (by unfold B64; omega) W)
  rw [show countP 101 = 2 from rfl] at HCT
  go_enter Try.func6, Try.ntmps6
  have hst := str_zeros w _ rfl
  have hA : Below w.heap.size w (w.alloc (.cells (madeCells #[.int .u8 0] 250) 5)) := bel_alloc (Below.refl _ _) _
  go_wp2_with fail
  generalize w.alloc (.cells (madeCells #[.int .u8 0] 250) 5) = WA at hA ⊢
  refine (HSP.out _).mono ?_
  rintro r w1 ⟨a, c, rfl, hown, hb1⟩
  obtain ⟨gb, rfl, hgl, hgB, hc⟩ := own_piece hown (by rw [zeros250_len]; decide)
  have hc0 := hc 0 (by rw [zeros250_len]; decide)
  have hc2 := hc 2 (by rw [zeros250_len]; decide)
  have HB1 := Lib.hid (hA.trans (hb1.mono hA.size))
  have hlen : (splitL 3 zeros250).length = 3 := by rw [splitL, splitK_len, zeros250_len]; rfl
  have HFO := Lib.hid first_ok
  have HFL : Hid ((pcAt 3 zeros250 0).text.length ≤ 1000000) := Lib.hid (by show ((zeros250.drop (100 * 0)).take 100).length ≤ 1000000; rw [List.length_take]; omega)
  have HPV := Lib.hid (show pcV (pcAt 3 zeros250 0) = .agg #[.int .i64 3, .int .i64 (zeros250.length : Int), .int .u64 (sumOf zeros250 : Int), .int .i64 0, .string (bs ((zeros250.drop (100 * 0)).take 100))] from rfl)
  have h50 : (bs ((zeros250.drop (100 * 2)).take 100)).size = 50 := by rw [bs_size, List.length_take, List.length_drop, zeros250_len]; decide
  rw [hlen]
  generalize pcAt 3 zeros250 0 = P0 at HFO HFL HPV
  generalize bs ((zeros250.drop (100 * 0)).take 100) = T0 at hc0 HPV
  generalize bs ((zeros250.drop (100 * 2)).take 100) = T2 at hc2 h50
  generalize (zeros250.length : Int) = L0 at hc0 hc2 HPV
  generalize sumOf zeros250 = s0 at hc0 hc2 HPV
  obtain ⟨c0, c1, c2, c3, c4⟩ := hc0
  obtain ⟨d0, -, -, d3, d4⟩ := hc2
  simp only [Nat.zero_mul, Nat.zero_add, Nat.reduceMul, Nat.reduceAdd] at c0 c1 c2 c3 c4 d0 d3 d4
  have hwB : w.heap.size ≤ WA.heap.size := hA.size
  clear hown hb1 hc hlen hst hmk HSP HST hA
  go_wp2_with fail
  refine (gaNew_any w1).mono ?_
  rintro r w2 ⟨rfl, hg2, hb2⟩
  have HG2 := Lib.hid hg2
  have HB2 := Lib.hid (HB1.out.trans (hb2.mono HB1.out.size))
  have hgb2 : gb < w2.heap.size := by have := hb2.size; omega
  have e0 := (hb2.cell (p := ⟨gb, 0, none⟩) hgl).trans c0
  have e1 := (hb2.cell (p := ⟨gb, 1, none⟩) hgl).trans c1
  have e2 := (hb2.cell (p := ⟨gb, 2, none⟩) hgl).trans c2
  have e3 := (hb2.cell (p := ⟨gb, 3, none⟩) hgl).trans c3
  have e4 := (hb2.cell (p := ⟨gb, 4, none⟩) hgl).trans c4
  have q0 := (hb2.cell (p := ⟨gb, 10, none⟩) hgl).trans d0
  have q3 := (hb2.cell (p := ⟨gb, 13, none⟩) hgl).trans d3
  have q4 := (hb2.cell (p := ⟨gb, 14, none⟩) hgl).trans d4
  have hne : ¬ gb = w1.heap.size := by omega
  have hw1 : w.heap.size ≤ w1.heap.size := HB1.out.size
  clear c0 c1 c2 c3 c4 d0 d3 d4 hg2 hb2 HB1 hgl
  generalize w1.heap.size = b at HG2 hne hw1 ⊢
  have HPU := Lib.hid (fun W hg => put_first b P0 W hg HFO.out HFL.out)
  rw [HPV.out] at HPU
  go_wp2_with fail
  refine (HCT.out _).mono ?_
  rintro r w3 ⟨rfl, rfl⟩
  go_wp2_with fail
  refine (HPU.out _ HG2.out).mono ?_
  rintro r w3 ⟨rfl, ht3⟩
  have HBz := Lib.hid (HB2.out.trans (ht3.below HB2.out.size (fun k hk e => by omega)))
  clear ht3
  go_wp2
  go_ret
  exact ⟨rfl, HBz.out⟩
end Go.Proofs.Ythgnkkpmnfjohaa
