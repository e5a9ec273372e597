/-
  Layer 11: a gather: a piece of another snapshot that comes.
-/
import Derived.Test.YthgnkkpmnfjohaaChunk7
namespace Go.Proofs.Ythgnkkpmnfjohaa
open Go.RowKit
set_option linter.unusedVariables false

/-- A gather: its head, the pieces' texts (empty: it didn't come), how many came. -/
structure GaS where
  t : Int
  b : Int
  h : Nat
  ts : List (List UInt8)
  cm : Nat
def gaA (B : Nat) (ts : List (List UInt8)) : Option Addr := if ts = [] then none else some ⟨B, 0, none⟩
structure GaAt (w : World) (b B : Nat) (g : GaS) : Prop where
  c0 : w.cell? ⟨b, 0, none⟩ = some (.int .i64 g.t)
  c1 : w.cell? ⟨b, 1, none⟩ = some (.int .i64 g.b)
  c2 : w.cell? ⟨b, 2, none⟩ = some (.int .u64 (g.h : Int))
  c3 : w.cell? ⟨b, 3, none⟩ = some (.slice (gaA B g.ts) g.ts.length g.ts.length)
  c4 : w.cell? ⟨b, 4, none⟩ = some (.int .i64 (g.cm : Int))
  f : ∀ j, w.frozen? ⟨b, j, none⟩ = false
  row : ∀ i (h : i < g.ts.length), w.cell? ⟨B, i, none⟩ = some (.string (bs g.ts[i]))
  rf : 0 < g.ts.length → ∀ i, w.frozen? ⟨B, i, none⟩ = false
  ne : 0 < g.ts.length → B ≠ b
theorem GaAt.lt {w : World} {b B : Nat} {g : GaS} (h : GaAt w b B g) : b < w.heap.size := block_lt_of_cell h.c0
theorem GaAt.touch {S : Nat → Prop} {w w' : World} {b B : Nat} {g : GaS} (h : GaAt w b B g) (ht : Touch S w w') (hb : ¬ S b) (hB : 0 < g.ts.length → ¬ S B) : GaAt w' b B g :=
  ⟨(ht.cell (p := ⟨b, 0, none⟩) h.lt hb).trans h.c0, (ht.cell (p := ⟨b, 1, none⟩) h.lt hb).trans h.c1, (ht.cell (p := ⟨b, 2, none⟩) h.lt hb).trans h.c2, (ht.cell (p := ⟨b, 3, none⟩) h.lt hb).trans h.c3, (ht.cell (p := ⟨b, 4, none⟩) h.lt hb).trans h.c4, fun j => (ht.frozen (p := ⟨b, j, none⟩) h.lt hb).trans (h.f j),
    fun i hi => (ht.cell (p := ⟨B, i, none⟩) (block_lt_of_cell (h.row i hi)) (hB (by omega))).trans (h.row i hi), fun h0 i => (ht.frozen (p := ⟨B, i, none⟩) (show B < w.heap.size from block_lt_of_cell (h.row 0 h0)) (hB h0)).trans (h.rf h0 i), h.ne⟩
theorem GaAt.keep {w w' : World} {b B : Nat} {g : GaS} (h : GaAt w b B g) (hb : Below w.heap.size w w') : GaAt w' b B g := h.touch (touch_of_below (S := fun _ => False) hb) id (fun _ => id)
def sameHead (g : GaS) (p : Pc) : Prop := p.turn = g.t ∧ p.bytes = g.b ∧ p.hash = g.h
/-- A gather to which one piece came. -/
def putNew (p : Pc) : GaS := ⟨p.turn, p.bytes, p.hash, (List.replicate (countP p.bytes).toNat []).set p.n.toNat p.text, 1⟩
theorem set5_all {w : World} {b B : Nat} {g : GaS} (h : GaAt w b B g) (v0 v1 v2 v3 v4 : Value) : PBox b v0 v1 v2 v3 v4 (set5 w b v0 v1 v2 v3 v4) := by
  have hp : PBox b _ _ _ _ _ w := ⟨h.c0, h.c1, h.c2, h.c3, h.c4, h.f⟩
  exact ((((hp.set0 v0 v1)).set2 v2).set3 v3).set4 v4
/-- The piece's box at X, the gather at b with a fresh row at B. -/
structure PNm (w : World) (b B X n : Nat) (v0 v1 v2 : Value) (m : Int) (t : ByteArray) (wx : World) : Prop where
  x3 : wx.cell? ⟨X, 3, none⟩ = some (.int .i64 m)
  x4 : wx.cell? ⟨X, 4, none⟩ = some (.string t)
  gb : PBox b v0 v1 v2 (.slice (some ⟨B, 0, none⟩) n n) (.int .i64 0) wx
  row : ∀ i, i < n → wx.cell? ⟨B, i, none⟩ = some (.string ⟨#[]⟩)
  rf : ∀ i, wx.frozen? ⟨B, i, none⟩ = false
  ge : w.heap.size ≤ B
  tch : Touch (fun k => k = b) w wx
theorem pn_after {w W w2 : World} {b B0 X n : Nat} {g : GaS} {m : Int} {t : ByteArray} (hb : b < w.heap.size) (hX : X = w.heap.size) (hW : Touch (fun k => k = b) w W) (hg : GaAt W b B0 g) (hx3 : W.cell? ⟨X, 3, none⟩ = some (.int .i64 m)) (hx4 : W.cell? ⟨X, 4, none⟩ = some (.string t)) (h2 : Below W.heap.size W w2) (v0 v1 v2 : Value) :
    PNm w b w2.heap.size X n v0 v1 v2 m t ((set5 w2 b v0 v1 v2 (.slice (some ⟨w2.heap.size, 0, none⟩) n n) (.int .i64 0)).alloc (.cells (madeCells #[.string ⟨#[]⟩] n) 9)) := by
  have hg2 := hg.keep h2
  have hs := set5_touch w2 b v0 v1 v2 (.slice (some ⟨w2.heap.size, 0, none⟩) n n) (.int .i64 0)
  have hp := set5_all hg2 v0 v1 v2 (.slice (some ⟨w2.heap.size, 0, none⟩) n n) (.int .i64 0)
  have hsz : (set5 w2 b v0 v1 v2 (.slice (some ⟨w2.heap.size, 0, none⟩) n n) (.int .i64 0)).heap.size = w2.heap.size := by unfold set5; simp
  have x3 := (hs.cell (p := ⟨X, 3, none⟩) (block_lt_of_cell ((h2.cell (p := ⟨X, 3, none⟩) (block_lt_of_cell hx3)).trans hx3)) (by show ¬ X = b; omega)).trans ((h2.cell (p := ⟨X, 3, none⟩) (block_lt_of_cell hx3)).trans hx3)
  have x4 := (hs.cell (p := ⟨X, 4, none⟩) (block_lt_of_cell ((h2.cell (p := ⟨X, 4, none⟩) (block_lt_of_cell hx4)).trans hx4)) (by show ¬ X = b; omega)).trans ((h2.cell (p := ⟨X, 4, none⟩) (block_lt_of_cell hx4)).trans hx4)
  have hwz := hW.size
  have h2z := h2.size
  generalize set5 w2 b v0 v1 v2 (.slice (some ⟨w2.heap.size, 0, none⟩) n n) (.int .i64 0) = W5 at hs hp hsz x3 x4 ⊢
  exact ⟨alloc_cell x3 _, alloc_cell x4 _, hp.touch (touch_of_below (S := fun _ => False) (bel_alloc (Below.refl _ _) _)) id, fun i hi => made_row W5 n i hi _ hsz, fun i => by rw [← hsz]; exact frozen_new _ _ _ _, by omega, ((hW.trans (touch_of_below h2)).trans hs).alloc _⟩
theorem PNm.fin {w : World} {b B X n : Nat} {p : Pc} {wx : World} {v0 v1 v2 : Value} {m : Nat} (h : PNm w b B X n (.int .i64 p.turn) (.int .i64 p.bytes) (.int .u64 (p.hash : Int)) (m : Int) (bs p.text) wx) (hb : b < w.heap.size) (hn : countP p.bytes = (n : Int)) (hm : p.n = (m : Int)) (hmn : m < n) :
    GaAt ((wx.setCell ⟨B, m, none⟩ (.string (bs p.text))).drew.setCell ⟨b, 4, none⟩ (.int .i64 1)) b B (putNew p) ∧ Touch (fun k => k = b) w ((wx.setCell ⟨B, m, none⟩ (.string (bs p.text))).drew.setCell ⟨b, 4, none⟩ (.int .i64 1)) := by
  have hge := h.ge
  have hBb : B ≠ b := by omega
  have t1 : Touch (fun k => k = B) wx (wx.setCell ⟨B, m, none⟩ (.string (bs p.text))).drew := ((Touch.refl (fun k => k = B) wx).setCell (p := ⟨B, m, none⟩) (fun _ => rfl) _).drew
  have hp1 := (h.gb.touch t1 (by show ¬ b = B; omega)).set4 (.int .i64 1)
  have t2 : Touch (fun k => k = b) (wx.setCell ⟨B, m, none⟩ (.string (bs p.text))).drew ((wx.setCell ⟨B, m, none⟩ (.string (bs p.text))).drew.setCell ⟨b, 4, none⟩ (.int .i64 1)) := (Touch.refl (fun k => k = b) _).setCell (p := ⟨b, 4, none⟩) (fun _ => rfl) _
  have hlen : (putNew p).ts.length = n := by simp [putNew, hn]
  have hne : (putNew p).ts ≠ [] := by intro e; rw [e] at hlen; simp at hlen; omega
  refine ⟨⟨hp1.c0, hp1.c1, hp1.c2, ?_, hp1.c4, hp1.f, fun i hi => ?_, fun _ i => ?_, fun _ => hBb⟩, (h.tch.trans' t1 (fun j hj e => by omega)).trans t2⟩
  · rw [hlen, gaA, if_neg hne]; exact hp1.c3
  · rw [hlen] at hi
    have hr := h.row i hi
    have e2 : ∀ v, (wx.setCell ⟨B, m, none⟩ (.string (bs p.text))).drew.cell? ⟨B, i, none⟩ = some v → ((wx.setCell ⟨B, m, none⟩ (.string (bs p.text))).drew.setCell ⟨b, 4, none⟩ (.int .i64 1)).cell? ⟨B, i, none⟩ = some v := fun v hv => (t2.cell (p := ⟨B, i, none⟩) (block_lt_of_cell hv) hBb).trans hv
    apply e2
    by_cases e : i = m
    · subst e
      have : (wx.setCell ⟨B, i, none⟩ (.string (bs p.text))).drew.cell? ⟨B, i, none⟩ = some (.string (bs p.text)) := World.cell?_setCell_same _ _ _ hr
      rw [this]
      simp [putNew, hm]
    · have : (wx.setCell ⟨B, m, none⟩ (.string (bs p.text))).drew.cell? ⟨B, i, none⟩ = some (.string ⟨#[]⟩) := (World.cell?_setCell_other _ _ _ _ (by simp)).trans hr
      rw [this]
      have e3 : (putNew p).ts[i]'(by rw [hlen]; exact hi) = [] := by simp [putNew, hm, Ne.symm e]
      rw [e3]; rfl
  · have hl : B < wx.heap.size := by have := h.row m hmn; exact block_lt_of_cell this
    have := h.rf i
    simpa using this
set_option maxRecDepth 100000 in
set_option maxHeartbeats 2000000 in
theorem put_new (b B0 : Nat) (g : GaS) (p : Pc) (w : World) (h : GaAt w b B0 g) (hp : checkP p = 0) (ht : p.text.length ≤ 1000000) (hh : ¬ sameHead g p) (hold : ¬ (0 < g.cm ∧ p.turn ≤ g.t)) : Calls Try.prog 10 #[.pointer (some ⟨b, 0, none⟩), pcV p] w fun r w' => r = .returned (.int .i64 0) ∧ ∃ B, w.heap.size ≤ B ∧ GaAt w' b B (putNew p) ∧ Touch (fun k => k = b) w w' := by
  have hb := block_lt_of_cell h.c0
  simp only at hb
  have HCK := Lib.hid (fun W => pcCheck_any p W ht)
  have HHD := Lib.hid (fun W => pcHead_any p W)
  rw [hp] at HCK
  have hf := hp
  unfold checkP at hf
  obtain ⟨p0, p1, p2, p3, p4⟩ := p
  simp only at hf ht
  have hf1 : ¬ (p0 < 0 ∨ 1099511627776 < p0 ∨ p3 < 0) := fun h => by rw [if_pos h] at hf; omega
  rw [if_neg hf1] at hf
  have hf2 : ¬ (p1 < 1 ∨ 65536 < p1) := fun h => by rw [if_pos h] at hf; omega
  rw [if_neg hf2] at hf
  have hf3 : ¬ (countP p1 ≤ p3 ∨ (p4.length : Int) ≠ min (p1 - p3 * 100) 100) := fun h => by rw [if_pos h] at hf; omega
  have HCT := Lib.hid (fun W => chCount_any p1 (by unfold B64; omega) W)
  obtain ⟨n, hn⟩ : ∃ n : Nat, countP p1 = (n : Int) := Int.eq_ofNat_of_zero_le (by unfold countP; split <;> omega)
  have hn2 : n ≤ 1000 := by unfold countP at hn; split at hn <;> omega
  rw [hn] at hf3 HCT
  obtain ⟨m, rfl⟩ : ∃ m : Nat, p3 = (m : Int) := Int.eq_ofNat_of_zero_le (by omega)
  have hm : m < n := by omega
  have hmk := fun u => made_str u n hn2
  obtain ⟨gt, gb', gh, gts, gcm⟩ := g
  have hne3 : (p0 == gt && (p1 == gb' && (p2 : Int) == (gh : Int))) = false := by
    cases hc : (p0 == gt && (p1 == gb' && (p2 : Int) == (gh : Int)))
    · rfl
    · exact absurd (by simp at hc; exact ⟨hc.1, hc.2.1, by simp only; omega⟩) hh
  have HOLD := Lib.hid hold
  have HNN := Lib.hid hn
  clear hf hf3 hn hp hh hold
  unfold pcV headV at HHD
  unfold pcV at HCK ⊢
  simp only at HHD HCK ⊢
  have HG := Lib.hid (h.keep (bel_alloc (Below.refl _ _) (.cells #[.int .i64 p0, .int .i64 p1, .int .u64 (p2 : Int), .int .i64 (m : Int), .string (bs p4)] 32)))
  go_enter Try.func10, Try.ntmps10
  go_wp2_with fail
  refine (HCK.out _).mono ?_
  rintro r w1 ⟨rfl, hb1⟩
  have HG1 := Lib.hid (HG.out.keep hb1)
  have hxs : ∀ j v, (#[.int .i64 p0, .int .i64 p1, .int .u64 (p2 : Int), .int .i64 (m : Int), .string (bs p4)] : Array Value)[j]? = some v → w1.cell? ⟨w.heap.size, j, none⟩ = some v := fun j v hv => (hb1.cell (p := ⟨w.heap.size, j, none⟩) (by simp)).trans (by rw [cell_new' _ _ rfl]; exact hv)
  have x0 := hxs 0 _ rfl
  have x1 := hxs 1 _ rfl
  have x2 := hxs 2 _ rfl
  have x3 := hxs 3 _ rfl
  have x4 := hxs 4 _ rfl
  have HB1 := Lib.hid (show Below w.heap.size w w1 from (bel_alloc (Below.refl _ _) _).trans (hb1.mono (by simp)))
  have hXl := block_lt_of_cell x0
  simp only at hXl
  clear hxs hb1 HG HCK h
  generalize hXw : w.heap.size = X at x0 x1 x2 x3 x4 hXl ⊢
  have hbl := block_lt_of_cell HG1.out.c0
  simp only at hbl
  go_upto_region 4 with (fail)
  have g0 := HG1.out.c0
  have g1 := HG1.out.c1
  have g2 := HG1.out.c2
  have hnq := head_neq p0 p1 (p2 : Int) gt gb' (gh : Int)
  rw [hne3] at hnq
  simp only [Bool.not_false] at hnq
  have HGc := Lib.hid (HG1.out.keep (w' := w1.drew) (Below.refl _ _).drew)
  have HBc := Lib.hid HB1.out.drew
  clear HG1 HB1
  go_region_held3 (fun w' => (w'.cell? ⟨X, 0, none⟩ = some (.int .i64 p0) ∧ w'.cell? ⟨X, 1, none⟩ = some (.int .i64 p1) ∧ w'.cell? ⟨X, 2, none⟩ = some (.int .u64 (p2 : Int)) ∧ w'.cell? ⟨X, 3, none⟩ = some (.int .i64 (m : Int)) ∧ w'.cell? ⟨X, 4, none⟩ = some (.string (bs p4))) ∧ (w'.cell? ⟨b, 0, none⟩ = some (.int .i64 gt) ∧ w'.cell? ⟨b, 1, none⟩ = some (.int .i64 gb') ∧ w'.cell? ⟨b, 2, none⟩ = some (.int .u64 (gh : Int))))
    (first | (refine keep8c hbK ?_; assumption) | assumption | exact ⟨⟨x0, x1, x2, x3, x4⟩, g0, g1, g2⟩)
    (first | (go_at_call 24; refine (HHD.out _).mono ?_; rintro e wK ⟨rfl, hbK⟩; have HGc := Lib.hid (HGc.out.keep hbK); have HBc := Lib.hid (HBc.out.trans (hbK.mono HBc.out.size))))
  all_goals
    have hS : (wK.cell? ⟨X, 0, none⟩ = some (.int .i64 p0) ∧ wK.cell? ⟨X, 1, none⟩ = some (.int .i64 p1) ∧ wK.cell? ⟨X, 2, none⟩ = some (.int .u64 (p2 : Int)) ∧ wK.cell? ⟨X, 3, none⟩ = some (.int .i64 (m : Int)) ∧ wK.cell? ⟨X, 4, none⟩ = some (.string (bs p4))) ∧ (wK.cell? ⟨b, 0, none⟩ = some (.int .i64 gt) ∧ wK.cell? ⟨b, 1, none⟩ = some (.int .i64 gb') ∧ wK.cell? ⟨b, 2, none⟩ = some (.int .u64 (gh : Int))) := by assumption
    have HGk := Lib.hid HGc.out
    have HBk := Lib.hid HBc.out
    obtain ⟨⟨x0, x1, x2, x3, x4⟩, g0, -, -⟩ := hS
    have g4 : wK.cell? ⟨b, 4, none⟩ = some (.int .i64 (gcm : Int)) := HGk.out.c4
    clear hnq
    go_upto_region 5 with (fail)
    generalize wK = W5 at HGk HBk x0 x1 x2 x3 x4 g0 g4 ⊢
    have hXl := block_lt_of_cell x0
    have hbl := block_lt_of_cell g0
    simp only at hXl hbl
    have hcs : (decide ((0 : Int) < (gcm : Int)) = false ∧ decide (0 < gcm) = false ∧ ¬ 0 < gcm) ∨ ((decide ((0 : Int) < (gcm : Int)) = true ∧ decide (0 < gcm) = true ∧ 0 < gcm) ∧ decide (p0 ≤ gt) = false ∧ ¬ p0 ≤ gt) := by
      by_cases h0 : 0 < gcm
      · have : ¬ p0 ≤ gt := fun h1 => HOLD.out ⟨h0, h1⟩
        exact .inr ⟨⟨by simp; omega, by simp; omega, h0⟩, by simp; omega, this⟩
      · exact .inl ⟨by simp; omega, by simp; omega, h0⟩
    rcases hcs with ⟨hc1, hc3, hc5⟩ | ⟨⟨hc1, hc3, hc5⟩, hc2, hc4⟩
    all_goals
     go_quiet (fail)
     have HG6 : Hid (GaAt (W5.drewN nq) b B0 ⟨gt, gb', gh, gts, gcm⟩) := Lib.hid ⟨HGk.out.c0, HGk.out.c1, HGk.out.c2, HGk.out.c3, HGk.out.c4, HGk.out.f, HGk.out.row, HGk.out.rf, HGk.out.ne⟩
     have HB6 : Hid (Below w.heap.size w (W5.drewN nq)) := Lib.hid ⟨HBk.out.os, HBk.out.tape, HBk.out.output, HBk.out.size, HBk.out.block⟩
     have y0 : (W5.drewN nq).cell? ⟨X, 0, none⟩ = some (.int .i64 p0) := x0
     have y1 : (W5.drewN nq).cell? ⟨X, 1, none⟩ = some (.int .i64 p1) := x1
     have y2 : (W5.drewN nq).cell? ⟨X, 2, none⟩ = some (.int .u64 (p2 : Int)) := x2
     have y3 : (W5.drewN nq).cell? ⟨X, 3, none⟩ = some (.int .i64 (m : Int)) := x3
     have y4 : (W5.drewN nq).cell? ⟨X, 4, none⟩ = some (.string (bs p4)) := x4
     clear HGk HBk x0 x1 x2 x3 x4 g0 g4 hXl hbl
     generalize W5.drewN nq = W6 at HG6 HB6 y0 y1 y2 y3 y4 ⊢
     have hXl := block_lt_of_cell y0
     have g0 := HG6.out.c0
     have g1 := HG6.out.c1
     have g2 := HG6.out.c2
     have g3 := HG6.out.c3
     have g4 := HG6.out.c4
     have f0 := HG6.out.f 0
     have f1 := HG6.out.f 1
     have f2 := HG6.out.f 2
     have f3 := HG6.out.f 3
     have f4 := HG6.out.f 4
     have hbl := block_lt_of_cell g0
     simp only at hXl hbl
     have HPF := Lib.hid (fun w2 (h2 : Below W6.drew.heap.size W6.drew w2) => pn_after (n := n) hb hXw.symm (touch_of_below HB6.out) HG6.out y3 y4 (show Below W6.heap.size W6 w2 from ⟨h2.os, h2.tape, h2.output, h2.size, h2.block⟩) (.int .i64 p0) (.int .i64 p1) (.int .u64 (p2 : Int)))
     unfold set5 at HPF
     go_upto_region 7 with (fail)
     go_region_law (first
       | (go_simp; go_at_call 24; refine (HHD.out _).mono ?_; rintro e wH ⟨rfl, hbH⟩; have HPH := Lib.hid (HPF.out wH hbH); have HKG := Lib.hid (HG6.out.keep (w' := wH) ⟨hbH.os, hbH.tape, hbH.output, hbH.size, hbH.block⟩); have q1 := (hbH.cell (p := ⟨X, 1, none⟩) hXl).trans y1; have r0 := HKG.out.c0; have r1 := HKG.out.c1; have r2 := HKG.out.c2; have r3 := HKG.out.c3; have r4 := HKG.out.c4; have s0 := HKG.out.f 0; have s1 := HKG.out.f 1; have s2 := HKG.out.f 2; have s3 := HKG.out.f 3; have s4 := HKG.out.f 4; have hbl2 := block_lt_of_cell r0; simp only at hbl2; clear hbH HKG)
       | (go_simp; go_at_call 22; refine (HCT.out _).mono ?_; rintro e wC ⟨rfl, rfl⟩))
     all_goals
       clear r0 r1 r2 r3 r4 s0 s1 s2 s3 s4 hbl2 q1 y0 y1 y2 y3 y4 g0 g1 g2 g3 g4 f0 f1 f2 f3 f4 hbl hXl HPF
       go_upto_region 8 with (fail)
       generalize ((((((wH.setCell ⟨b, 0, none⟩ (.int .i64 p0)).setCell ⟨b, 1, none⟩ (.int .i64 p1)).setCell ⟨b, 2, none⟩ (.int .u64 (p2 : Int))).setCell ⟨b, 3, none⟩ (.slice (some ⟨wH.heap.size, 0, none⟩) n n)).setCell ⟨b, 4, none⟩ (.int .i64 0)).alloc (.cells (madeCells #[.string ⟨#[]⟩] n) 9)) = W7 at HPH ⊢
       generalize wH.heap.size = B at HPH ⊢
       have x3 := HPH.out.x3
       have c3 := HPH.out.gb.c3
       have rm := HPH.out.row m hm
       have hXl := block_lt_of_cell x3
       have hbl := block_lt_of_cell c3
       have hBl := block_lt_of_cell rm
       simp only at hXl hbl hBl
       have hm0 : (0 : Int) ≤ (m : Int) := by omega
       have hm1 : (m : Int) < (n : Int) := by omega
       go_quiet (fail)
       have HP8 : Hid (PNm w b B X n (.int .i64 p0) (.int .i64 p1) (.int .u64 (p2 : Int)) (m : Int) (bs p4) (W7.drewN nq)) := Lib.hid ⟨HPH.out.x3, HPH.out.x4, ⟨HPH.out.gb.c0, HPH.out.gb.c1, HPH.out.gb.c2, HPH.out.gb.c3, HPH.out.gb.c4, HPH.out.gb.f⟩, HPH.out.row, HPH.out.rf, HPH.out.ge, ⟨HPH.out.tch.os, HPH.out.tch.tape, HPH.out.tch.output, HPH.out.tch.size, HPH.out.tch.block⟩⟩
       clear HPH x3 c3 rm hXl hbl hBl
       generalize W7.drewN nq = W8 at HP8 ⊢
       have x3 := HP8.out.x3
       have x4 := HP8.out.x4
       have c3 := HP8.out.gb.c3
       have c4 := HP8.out.gb.c4
       have rm := HP8.out.row m hm
       have rf := HP8.out.rf m
       have f4 := HP8.out.gb.f 4
       have hXl := block_lt_of_cell x3
       have hbl := block_lt_of_cell c3
       have hBl := block_lt_of_cell rm
       simp only at hXl hbl hBl
       have hBb : B ≠ b := by have := HP8.out.ge; omega
       have HFN := Lib.hid (PNm.fin (p := ⟨p0, p1, p2, (m : Int), p4⟩) (v0 := .int .i64 0) (v1 := .int .i64 0) (v2 := .int .i64 0) HP8.out hb HNN.out rfl hm)
       have HGE := Lib.hid HP8.out.ge
       clear HP8
       go_upto_region 10 with (fail)
       go_region
       all_goals
         go_wp2
         go_ret
         exact ⟨rfl, B, hXw ▸ HGE.out, HFN.out.1, HFN.out.2⟩
end Go.Proofs.Ythgnkkpmnfjohaa
