/-
  Layer 11: a gather: pieces that change nothing.
-/
import Derived.Test.YthgnkkpmnfjohaaChunk11
namespace Go.Proofs.Ythgnkkpmnfjohaa
open Go.RowKit
set_option linter.unusedVariables false

set_option maxRecDepth 100000 in
set_option maxHeartbeats 2000000 in
theorem put_bad (b : Nat) (p : Pc) (w : World) (hp : checkP p ≠ 0) (ht : p.text.length ≤ 1000000) : Calls Try.prog 10 #[.pointer (some ⟨b, 0, none⟩), pcV p] w fun r w' => r = .returned (.int .i64 (checkP p : Nat)) ∧ Below w.heap.size w w' := by
  have HCK := Lib.hid (fun W => pcCheck_any p W ht)
  have hcz : ((checkP p : Int) == 0) = false := by rw [beq_eq_false_iff_ne]; omega
  generalize checkP p = c at HCK hcz hp ⊢
  obtain ⟨p0, p1, p2, p3, p4⟩ := p
  unfold pcV at HCK ⊢
  simp only at HCK ⊢
  go_enter Try.func10, Try.ntmps10
  go_wp2_with fail
  refine (HCK.out _).mono ?_
  rintro r w1 ⟨rfl, hb1⟩
  have HB1 := Lib.hid (show Below w.heap.size w w1 from (bel_alloc (Below.refl _ _) _).trans (hb1.mono (by simp)))
  clear hb1 HCK
  go_wp2
  go_ret
  exact ⟨rfl, HB1.out⟩
set_option maxRecDepth 100000 in
set_option maxHeartbeats 2000000 in
theorem put_old (b B0 : Nat) (g : GaS) (p : Pc) (w : World) (h : GaAt w b B0 g) (hp : checkP p = 0) (ht : p.text.length ≤ 1000000) (hh : ¬ sameHead g p) (hold : 0 < g.cm ∧ p.turn ≤ g.t) : Calls Try.prog 10 #[.pointer (some ⟨b, 0, none⟩), pcV p] w fun r w' => r = .returned (.int .i64 11) ∧ Below w.heap.size w w' := by
  have hb := block_lt_of_cell h.c0
  simp only at hb
  have HCK := Lib.hid (fun W => pcCheck_any p W ht)
  have HHD := Lib.hid (fun W => pcHead_any p W)
  rw [hp] at HCK
  have hf := hp
  unfold checkP at hf
  obtain ⟨p0, p1, p2, p3, p4⟩ := p
  simp only at hf ht
  have hf1 : ¬ (p0 < 0 ∨ 1099511627776 < p0 ∨ p3 < 0) := fun h => by rw [if_pos h] at hf; omega
  rw [if_neg hf1] at hf
  have hf2 : ¬ (p1 < 1 ∨ 65536 < p1) := fun h => by rw [if_pos h] at hf; omega
  rw [if_neg hf2] at hf
  have hf3 : ¬ (countP p1 ≤ p3 ∨ (p4.length : Int) ≠ min (p1 - p3 * 100) 100) := fun h => by rw [if_pos h] at hf; omega
  have HCT := Lib.hid (fun W => chCount_any p1 (by unfold B64; omega) W)
  obtain ⟨n, hn⟩ : ∃ n : Nat, countP p1 = (n : Int) := Int.eq_ofNat_of_zero_le (by unfold countP; split <;> omega)
  have hn2 : n ≤ 1000 := by unfold countP at hn; split at hn <;> omega
  rw [hn] at hf3 HCT
  obtain ⟨m, rfl⟩ : ∃ m : Nat, p3 = (m : Int) := Int.eq_ofNat_of_zero_le (by omega)
  have hm : m < n := by omega
  have hmk := fun u => made_str u n hn2
  obtain ⟨gt, gb', gh, gts, gcm⟩ := g
  have hne3 : (p0 == gt && (p1 == gb' && (p2 : Int) == (gh : Int))) = false := by
    cases hc : (p0 == gt && (p1 == gb' && (p2 : Int) == (gh : Int)))
    · rfl
    · exact absurd (by simp at hc; exact ⟨hc.1, hc.2.1, by simp only; omega⟩) hh
  have HOLD := Lib.hid hold
  have HNN := Lib.hid hn
  clear hf hf3 hn hp hh hold
  unfold pcV headV at HHD
  unfold pcV at HCK ⊢
  simp only at HHD HCK ⊢
  have HG := Lib.hid (h.keep (bel_alloc (Below.refl _ _) (.cells #[.int .i64 p0, .int .i64 p1, .int .u64 (p2 : Int), .int .i64 (m : Int), .string (bs p4)] 32)))
  go_enter Try.func10, Try.ntmps10
  go_wp2_with fail
  refine (HCK.out _).mono ?_
  rintro r w1 ⟨rfl, hb1⟩
  have HG1 := Lib.hid (HG.out.keep hb1)
  have hxs : ∀ j v, (#[.int .i64 p0, .int .i64 p1, .int .u64 (p2 : Int), .int .i64 (m : Int), .string (bs p4)] : Array Value)[j]? = some v → w1.cell? ⟨w.heap.size, j, none⟩ = some v := fun j v hv => (hb1.cell (p := ⟨w.heap.size, j, none⟩) (by simp)).trans (by rw [cell_new' _ _ rfl]; exact hv)
  have x0 := hxs 0 _ rfl
  have x1 := hxs 1 _ rfl
  have x2 := hxs 2 _ rfl
  have x3 := hxs 3 _ rfl
  have x4 := hxs 4 _ rfl
  have HB1 := Lib.hid (show Below w.heap.size w w1 from (bel_alloc (Below.refl _ _) _).trans (hb1.mono (by simp)))
  have hXl := block_lt_of_cell x0
  simp only at hXl
  clear hxs hb1 HG HCK h
  generalize hXw : w.heap.size = X at x0 x1 x2 x3 x4 hXl ⊢
  have hbl := block_lt_of_cell HG1.out.c0
  simp only at hbl
  go_upto_region 4 with (fail)
  have g0 := HG1.out.c0
  have g1 := HG1.out.c1
  have g2 := HG1.out.c2
  have hnq := head_neq p0 p1 (p2 : Int) gt gb' (gh : Int)
  rw [hne3] at hnq
  simp only [Bool.not_false] at hnq
  have HGc := Lib.hid (HG1.out.keep (w' := w1.drew) (Below.refl _ _).drew)
  have HBc := Lib.hid HB1.out.drew
  clear HG1 HB1
  go_region_held3 (fun w' => (w'.cell? ⟨X, 0, none⟩ = some (.int .i64 p0) ∧ w'.cell? ⟨X, 1, none⟩ = some (.int .i64 p1) ∧ w'.cell? ⟨X, 2, none⟩ = some (.int .u64 (p2 : Int)) ∧ w'.cell? ⟨X, 3, none⟩ = some (.int .i64 (m : Int)) ∧ w'.cell? ⟨X, 4, none⟩ = some (.string (bs p4))) ∧ (w'.cell? ⟨b, 0, none⟩ = some (.int .i64 gt) ∧ w'.cell? ⟨b, 1, none⟩ = some (.int .i64 gb') ∧ w'.cell? ⟨b, 2, none⟩ = some (.int .u64 (gh : Int))))
    (first | (refine keep8c hbK ?_; assumption) | assumption | exact ⟨⟨x0, x1, x2, x3, x4⟩, g0, g1, g2⟩)
    (first | (go_at_call 24; refine (HHD.out _).mono ?_; rintro e wK ⟨rfl, hbK⟩; have HGc := Lib.hid (HGc.out.keep hbK); have HBc := Lib.hid (HBc.out.trans (hbK.mono HBc.out.size))))
  all_goals
    have hS : (wK.cell? ⟨X, 0, none⟩ = some (.int .i64 p0) ∧ wK.cell? ⟨X, 1, none⟩ = some (.int .i64 p1) ∧ wK.cell? ⟨X, 2, none⟩ = some (.int .u64 (p2 : Int)) ∧ wK.cell? ⟨X, 3, none⟩ = some (.int .i64 (m : Int)) ∧ wK.cell? ⟨X, 4, none⟩ = some (.string (bs p4))) ∧ (wK.cell? ⟨b, 0, none⟩ = some (.int .i64 gt) ∧ wK.cell? ⟨b, 1, none⟩ = some (.int .i64 gb') ∧ wK.cell? ⟨b, 2, none⟩ = some (.int .u64 (gh : Int))) := by assumption
    have HGk := Lib.hid HGc.out
    have HBk := Lib.hid HBc.out
    obtain ⟨⟨x0, x1, x2, x3, x4⟩, g0, -, -⟩ := hS
    have g4 : wK.cell? ⟨b, 4, none⟩ = some (.int .i64 (gcm : Int)) := HGk.out.c4
    clear hnq
    go_upto_region 5 with (fail)
    generalize wK = W5 at HGk HBk x0 x1 x2 x3 x4 g0 g4 ⊢
    have hXl := block_lt_of_cell x0
    have hbl := block_lt_of_cell g0
    simp only at hXl hbl
    have hc0 : 0 < gcm := HOLD.out.1
    have hc2 : p0 ≤ gt := HOLD.out.2
    have hc1 : decide ((0 : Int) < (gcm : Int)) = true := by simp; omega
    have hc3 : decide (p0 ≤ gt) = true := by simp; omega
    go_quiet (fail)
    go_wp2
    go_ret
    have HBf : Below w.heap.size w (W5.drewN nq) := ⟨HBk.out.os, HBk.out.tape, HBk.out.output, HBk.out.size, HBk.out.block⟩
    exact ⟨rfl, HBf⟩
set_option maxRecDepth 100000 in
set_option maxHeartbeats 2000000 in
theorem put_there (b B0 : Nat) (g : GaS) (p : Pc) (w : World) (h : GaAt w b B0 g) (hp : checkP p = 0) (ht : p.text.length ≤ 1000000) (hh : sameHead g p) (hl : g.ts.length = (countP p.bytes).toNat) (hth : g.ts.getD p.n.toNat [] ≠ []) : Calls Try.prog 10 #[.pointer (some ⟨b, 0, none⟩), pcV p] w fun r w' => r = .returned (.int .i64 10) ∧ Below w.heap.size w w' := by
  have hb := block_lt_of_cell h.c0
  simp only at hb
  have HCK := Lib.hid (fun W => pcCheck_any p W ht)
  have HHD := Lib.hid (fun W => pcHead_any p W)
  rw [hp] at HCK
  have hf := hp
  unfold checkP at hf
  obtain ⟨p0, p1, p2, p3, p4⟩ := p
  simp only at hf ht
  have hf1 : ¬ (p0 < 0 ∨ 1099511627776 < p0 ∨ p3 < 0) := fun h => by rw [if_pos h] at hf; omega
  rw [if_neg hf1] at hf
  have hf2 : ¬ (p1 < 1 ∨ 65536 < p1) := fun h => by rw [if_pos h] at hf; omega
  rw [if_neg hf2] at hf
  have hf3 : ¬ (countP p1 ≤ p3 ∨ (p4.length : Int) ≠ min (p1 - p3 * 100) 100) := fun h => by rw [if_pos h] at hf; omega
  have HCT := Lib.hid (fun W => chCount_any p1 (by unfold B64; omega) W)
  obtain ⟨n, hn⟩ : ∃ n : Nat, countP p1 = (n : Int) := Int.eq_ofNat_of_zero_le (by unfold countP; split <;> omega)
  have hn2 : n ≤ 1000 := by unfold countP at hn; split at hn <;> omega
  rw [hn] at hf3 HCT
  obtain ⟨m, rfl⟩ : ∃ m : Nat, p3 = (m : Int) := Int.eq_ofNat_of_zero_le (by omega)
  have hm : m < n := by omega
  have hmk := fun u => made_str u n hn2
  obtain ⟨gt, gb', gh, gts, gcm⟩ := g
  obtain ⟨hh0, hh1, hh2⟩ := hh
  simp only at hh0 hh1 hh2 hl hth
  subst hh0 hh1 hh2
  rw [hn] at hl
  simp only [Int.toNat_natCast] at hl hth
  have hml : m < gts.length := by omega
  have hgm : gts[m] ≠ [] := by simpa [List.getD, hml] using hth
  have HNE := Lib.hid hgm
  clear hf hf3 hn hp hth hgm
  unfold pcV headV at HHD
  unfold pcV at HCK ⊢
  simp only at HHD HCK ⊢
  have HG := Lib.hid (h.keep (bel_alloc (Below.refl _ _) (.cells #[.int .i64 p0, .int .i64 p1, .int .u64 (p2 : Int), .int .i64 (m : Int), .string (bs p4)] 32)))
  go_enter Try.func10, Try.ntmps10
  go_wp2_with fail
  refine (HCK.out _).mono ?_
  rintro r w1 ⟨rfl, hb1⟩
  have HG1 := Lib.hid (HG.out.keep hb1)
  have hxs : ∀ j v, (#[.int .i64 p0, .int .i64 p1, .int .u64 (p2 : Int), .int .i64 (m : Int), .string (bs p4)] : Array Value)[j]? = some v → w1.cell? ⟨w.heap.size, j, none⟩ = some v := fun j v hv => (hb1.cell (p := ⟨w.heap.size, j, none⟩) (by simp)).trans (by rw [cell_new' _ _ rfl]; exact hv)
  have x0 := hxs 0 _ rfl
  have x1 := hxs 1 _ rfl
  have x2 := hxs 2 _ rfl
  have x3 := hxs 3 _ rfl
  have x4 := hxs 4 _ rfl
  have HB1 := Lib.hid (show Below w.heap.size w w1 from (bel_alloc (Below.refl _ _) _).trans (hb1.mono (by simp)))
  have hXl := block_lt_of_cell x0
  simp only at hXl
  clear hxs hb1 HG HCK h
  generalize hXw : w.heap.size = X at x0 x1 x2 x3 x4 hXl ⊢
  have hbl := block_lt_of_cell HG1.out.c0
  simp only at hbl
  go_upto_region 4 with (fail)
  have g0 := HG1.out.c0
  have g1 := HG1.out.c1
  have g2 := HG1.out.c2
  have hnq := head_neq p0 p1 (p2 : Int) p0 p1 (p2 : Int)
  simp only [beq_self_eq_true, Bool.and_self, Bool.not_true] at hnq
  have HGc := Lib.hid (HG1.out.keep (w' := w1.drew) (Below.refl _ _).drew)
  have HBc := Lib.hid HB1.out.drew
  clear HG1 HB1
  go_region_held3 (fun w' => (w'.cell? ⟨X, 0, none⟩ = some (.int .i64 p0) ∧ w'.cell? ⟨X, 1, none⟩ = some (.int .i64 p1) ∧ w'.cell? ⟨X, 2, none⟩ = some (.int .u64 (p2 : Int)) ∧ w'.cell? ⟨X, 3, none⟩ = some (.int .i64 (m : Int)) ∧ w'.cell? ⟨X, 4, none⟩ = some (.string (bs p4))) ∧ (w'.cell? ⟨b, 0, none⟩ = some (.int .i64 p0) ∧ w'.cell? ⟨b, 1, none⟩ = some (.int .i64 p1) ∧ w'.cell? ⟨b, 2, none⟩ = some (.int .u64 (p2 : Int))))
    (first | (refine keep8c hbK ?_; assumption) | assumption | exact ⟨⟨x0, x1, x2, x3, x4⟩, g0, g1, g2⟩)
    (first | (go_at_call 24; refine (HHD.out _).mono ?_; rintro e wK ⟨rfl, hbK⟩; have HGc := Lib.hid (HGc.out.keep hbK); have HBc := Lib.hid (HBc.out.trans (hbK.mono HBc.out.size))))
  all_goals
    have hS : (wK.cell? ⟨X, 0, none⟩ = some (.int .i64 p0) ∧ wK.cell? ⟨X, 1, none⟩ = some (.int .i64 p1) ∧ wK.cell? ⟨X, 2, none⟩ = some (.int .u64 (p2 : Int)) ∧ wK.cell? ⟨X, 3, none⟩ = some (.int .i64 (m : Int)) ∧ wK.cell? ⟨X, 4, none⟩ = some (.string (bs p4))) ∧ (wK.cell? ⟨b, 0, none⟩ = some (.int .i64 p0) ∧ wK.cell? ⟨b, 1, none⟩ = some (.int .i64 p1) ∧ wK.cell? ⟨b, 2, none⟩ = some (.int .u64 (p2 : Int))) := by assumption
    have HGk := Lib.hid HGc.out
    have HBk := Lib.hid HBc.out
    obtain ⟨⟨x0, x1, x2, x3, x4⟩, g0, -, -⟩ := hS
    clear hnq
    go_upto_region 8 with (fail)
    generalize wK = W7 at HGk HBk x0 x1 x2 x3 x4 g0 ⊢
    have hA : gaA B0 gts = some ⟨B0, 0, none⟩ := if_neg (by intro e; rw [e] at hml; simp at hml)
    have c3 := HGk.out.c3
    rw [hA] at c3
    have rm := HGk.out.row m hml
    simp only at c3 rm
    have hXl := block_lt_of_cell x3
    have hbl := block_lt_of_cell c3
    have hBl := block_lt_of_cell rm
    simp only at hXl hbl hBl
    have hm0 : (0 : Int) ≤ (m : Int) := by omega
    have hm1 : (m : Int) < (gts.length : Int) := by omega
    have hse : (bs gts[m]).toList.isEmpty = false := by
      rw [ByteArray.toList_eq, bs_list]
      cases hc : gts[m].isEmpty
      · rfl
      · exact absurd (List.isEmpty_iff.1 hc) HNE.out
    go_quiet (fail)
    go_wp2
    go_ret
    have HBf : Below w.heap.size w (W7.drewN nq) := ⟨HBk.out.os, HBk.out.tape, HBk.out.output, HBk.out.size, HBk.out.block⟩
    exact ⟨rfl, HBf⟩
/-- A piece that came, of the gather's snapshot. -/
def putMore (g : GaS) (p : Pc) : GaS := ⟨g.t, g.b, g.h, g.ts.set p.n.toNat p.text, g.cm + 1⟩
theorem GaAt.more {w : World} {b B : Nat} {g : GaS} {p : Pc} {m : Nat} (h : GaAt w b B g) (hp : p.n = (m : Int)) (hm : m < g.ts.length) :
    GaAt ((w.setCell ⟨B, m, none⟩ (.string (bs p.text))).drew.setCell ⟨b, 4, none⟩ (.int .i64 ((g.cm : Int) + 1))) b B (putMore g p) ∧ Touch (fun k => k = b ∨ k = B) w ((w.setCell ⟨B, m, none⟩ (.string (bs p.text))).drew.setCell ⟨b, 4, none⟩ (.int .i64 ((g.cm : Int) + 1))) := by
  have hBb : B ≠ b := h.ne (by omega)
  have hpb : PBox b _ _ _ _ _ w := ⟨h.c0, h.c1, h.c2, h.c3, h.c4, h.f⟩
  have t1 : Touch (fun k => k = B) w (w.setCell ⟨B, m, none⟩ (.string (bs p.text))).drew := ((Touch.refl (fun k => k = B) w).setCell (p := ⟨B, m, none⟩) (fun _ => rfl) _).drew
  have hp1 := (hpb.touch t1 (by show ¬ b = B; omega)).set4 (.int .i64 ((g.cm : Int) + 1))
  have t2 : Touch (fun k => k = b) (w.setCell ⟨B, m, none⟩ (.string (bs p.text))).drew ((w.setCell ⟨B, m, none⟩ (.string (bs p.text))).drew.setCell ⟨b, 4, none⟩ (.int .i64 ((g.cm : Int) + 1))) := (Touch.refl (fun k => k = b) _).setCell (p := ⟨b, 4, none⟩) (fun _ => rfl) _
  have t3 : Touch (fun k => k = b ∨ k = B) w ((w.setCell ⟨B, m, none⟩ (.string (bs p.text))).drew.setCell ⟨b, 4, none⟩ (.int .i64 ((g.cm : Int) + 1))) := (((Touch.refl (fun k => k = b ∨ k = B) w).setCell (p := ⟨B, m, none⟩) (fun _ => .inr rfl) _).drew).setCell (p := ⟨b, 4, none⟩) (fun _ => .inl rfl) _
  have hlen : (putMore g p).ts.length = g.ts.length := by simp [putMore]
  have hA : gaA B (putMore g p).ts = gaA B g.ts := by
    unfold gaA
    rw [if_neg (by intro e; rw [e] at hlen; simp at hlen; omega), if_neg (by intro e; rw [e] at hm; simp at hm)]
  refine ⟨⟨hp1.c0, hp1.c1, hp1.c2, ?_, ?_, hp1.f, fun i hi => ?_, fun _ i => ?_, fun _ => hBb⟩, t3⟩
  · rw [hlen, hA]; exact hp1.c3
  · have := hp1.c4
    simpa [putMore] using this
  · rw [hlen] at hi
    have hr := h.row i hi
    apply (fun v hv => (t2.cell (p := ⟨B, i, none⟩) (block_lt_of_cell hv) hBb).trans hv : ∀ v, (w.setCell ⟨B, m, none⟩ (.string (bs p.text))).drew.cell? ⟨B, i, none⟩ = some v → _)
    by_cases e : i = m
    · subst e
      have : (w.setCell ⟨B, i, none⟩ (.string (bs p.text))).drew.cell? ⟨B, i, none⟩ = some (.string (bs p.text)) := World.cell?_setCell_same _ _ _ hr
      rw [this]
      simp [putMore, hp]
    · have : (w.setCell ⟨B, m, none⟩ (.string (bs p.text))).drew.cell? ⟨B, i, none⟩ = some (.string (bs g.ts[i])) := (World.cell?_setCell_other _ _ _ _ (by simp)).trans hr
      rw [this]
      have e3 : (putMore g p).ts[i]'(by rw [hlen]; exact hi) = g.ts[i] := by simp [putMore, hp, Ne.symm e]
      rw [e3]
  · have := h.rf (by omega) i
    simpa using this
set_option maxRecDepth 100000 in
set_option maxHeartbeats 2000000 in
theorem put_more (b B0 : Nat) (g : GaS) (p : Pc) (w : World) (h : GaAt w b B0 g) (hp : checkP p = 0) (ht : p.text.length ≤ 1000000) (hh : sameHead g p) (hl : g.ts.length = (countP p.bytes).toNat) (hth : g.ts.getD p.n.toNat [] = []) (hcm : g.cm ≤ 1000000) : Calls Try.prog 10 #[.pointer (some ⟨b, 0, none⟩), pcV p] w fun r w' => r = .returned (.int .i64 0) ∧ GaAt w' b B0 (putMore g p) ∧ Touch (fun k => k = b ∨ k = B0) w w' := by
  have hb := block_lt_of_cell h.c0
  simp only at hb
  have HCK := Lib.hid (fun W => pcCheck_any p W ht)
  have HHD := Lib.hid (fun W => pcHead_any p W)
  rw [hp] at HCK
  have hf := hp
  unfold checkP at hf
  obtain ⟨p0, p1, p2, p3, p4⟩ := p
  simp only at hf ht
  have hf1 : ¬ (p0 < 0 ∨ 1099511627776 < p0 ∨ p3 < 0) := fun h => by rw [if_pos h] at hf; omega
  rw [if_neg hf1] at hf
  have hf2 : ¬ (p1 < 1 ∨ 65536 < p1) := fun h => by rw [if_pos h] at hf; omega
  rw [if_neg hf2] at hf
  have hf3 : ¬ (countP p1 ≤ p3 ∨ (p4.length : Int) ≠ min (p1 - p3 * 100) 100) := fun h => by rw [if_pos h] at hf; omega
  have HCT := Lib.hid (fun W => chCount_any p1 (by unfold B64; omega) W)
  obtain ⟨n, hn⟩ : ∃ n : Nat, countP p1 = (n : Int) := Int.eq_ofNat_of_zero_le (by unfold countP; split <;> omega)
  have hn2 : n ≤ 1000 := by unfold countP at hn; split at hn <;> omega
  rw [hn] at hf3 HCT
  obtain ⟨m, rfl⟩ : ∃ m : Nat, p3 = (m : Int) := Int.eq_ofNat_of_zero_le (by omega)
  have hm : m < n := by omega
  have hmk := fun u => made_str u n hn2
  obtain ⟨gt, gb', gh, gts, gcm⟩ := g
  obtain ⟨hh0, hh1, hh2⟩ := hh
  simp only at hh0 hh1 hh2 hl hth hcm
  subst hh0 hh1 hh2
  rw [hn] at hl
  simp only [Int.toNat_natCast] at hl hth
  have hml : m < gts.length := by omega
  have hgm : gts[m] = [] := by simpa [List.getD, hml] using hth
  have HNE := Lib.hid hgm
  clear hf hf3 hn hp hth hgm
  unfold pcV headV at HHD
  unfold pcV at HCK ⊢
  simp only at HHD HCK ⊢
  have HG := Lib.hid (h.keep (bel_alloc (Below.refl _ _) (.cells #[.int .i64 p0, .int .i64 p1, .int .u64 (p2 : Int), .int .i64 (m : Int), .string (bs p4)] 32)))
  go_enter Try.func10, Try.ntmps10
  go_wp2_with fail
  refine (HCK.out _).mono ?_
  rintro r w1 ⟨rfl, hb1⟩
  have HG1 := Lib.hid (HG.out.keep hb1)
  have hxs : ∀ j v, (#[.int .i64 p0, .int .i64 p1, .int .u64 (p2 : Int), .int .i64 (m : Int), .string (bs p4)] : Array Value)[j]? = some v → w1.cell? ⟨w.heap.size, j, none⟩ = some v := fun j v hv => (hb1.cell (p := ⟨w.heap.size, j, none⟩) (by simp)).trans (by rw [cell_new' _ _ rfl]; exact hv)
  have x0 := hxs 0 _ rfl
  have x1 := hxs 1 _ rfl
  have x2 := hxs 2 _ rfl
  have x3 := hxs 3 _ rfl
  have x4 := hxs 4 _ rfl
  have HB1 := Lib.hid (show Below w.heap.size w w1 from (bel_alloc (Below.refl _ _) _).trans (hb1.mono (by simp)))
  have hXl := block_lt_of_cell x0
  simp only at hXl
  clear hxs hb1 HG HCK h
  generalize hXw : w.heap.size = X at x0 x1 x2 x3 x4 hXl ⊢
  have hbl := block_lt_of_cell HG1.out.c0
  simp only at hbl
  go_upto_region 4 with (fail)
  have g0 := HG1.out.c0
  have g1 := HG1.out.c1
  have g2 := HG1.out.c2
  have hnq := head_neq p0 p1 (p2 : Int) p0 p1 (p2 : Int)
  simp only [beq_self_eq_true, Bool.and_self, Bool.not_true] at hnq
  have HGc := Lib.hid (HG1.out.keep (w' := w1.drew) (Below.refl _ _).drew)
  have HBc := Lib.hid HB1.out.drew
  clear HG1 HB1
  go_region_held3 (fun w' => (w'.cell? ⟨X, 0, none⟩ = some (.int .i64 p0) ∧ w'.cell? ⟨X, 1, none⟩ = some (.int .i64 p1) ∧ w'.cell? ⟨X, 2, none⟩ = some (.int .u64 (p2 : Int)) ∧ w'.cell? ⟨X, 3, none⟩ = some (.int .i64 (m : Int)) ∧ w'.cell? ⟨X, 4, none⟩ = some (.string (bs p4))) ∧ (w'.cell? ⟨b, 0, none⟩ = some (.int .i64 p0) ∧ w'.cell? ⟨b, 1, none⟩ = some (.int .i64 p1) ∧ w'.cell? ⟨b, 2, none⟩ = some (.int .u64 (p2 : Int))))
    (first | (refine keep8c hbK ?_; assumption) | assumption | exact ⟨⟨x0, x1, x2, x3, x4⟩, g0, g1, g2⟩)
    (first | (go_at_call 24; refine (HHD.out _).mono ?_; rintro e wK ⟨rfl, hbK⟩; have HGc := Lib.hid (HGc.out.keep hbK); have HBc := Lib.hid (HBc.out.trans (hbK.mono HBc.out.size))))
  all_goals
    have hS : (wK.cell? ⟨X, 0, none⟩ = some (.int .i64 p0) ∧ wK.cell? ⟨X, 1, none⟩ = some (.int .i64 p1) ∧ wK.cell? ⟨X, 2, none⟩ = some (.int .u64 (p2 : Int)) ∧ wK.cell? ⟨X, 3, none⟩ = some (.int .i64 (m : Int)) ∧ wK.cell? ⟨X, 4, none⟩ = some (.string (bs p4))) ∧ (wK.cell? ⟨b, 0, none⟩ = some (.int .i64 p0) ∧ wK.cell? ⟨b, 1, none⟩ = some (.int .i64 p1) ∧ wK.cell? ⟨b, 2, none⟩ = some (.int .u64 (p2 : Int))) := by assumption
    have HGk := Lib.hid HGc.out
    have HBk := Lib.hid HBc.out
    obtain ⟨⟨x0, x1, x2, x3, x4⟩, g0, -, -⟩ := hS
    clear hnq
    go_upto_region 8 with (fail)
    generalize wK = W7 at HGk HBk x0 x1 x2 x3 x4 g0 ⊢
    have hA : gaA B0 gts = some ⟨B0, 0, none⟩ := if_neg (by intro e; rw [e] at hml; simp at hml)
    have c3 := HGk.out.c3
    rw [hA] at c3
    have rm := HGk.out.row m hml
    simp only at c3 rm
    have hXl := block_lt_of_cell x3
    have hbl := block_lt_of_cell c3
    have hBl := block_lt_of_cell rm
    simp only at hXl hbl hBl
    have hm0 : (0 : Int) ≤ (m : Int) := by omega
    have hm1 : (m : Int) < (gts.length : Int) := by omega
    have hse : (bs gts[m]).toList.isEmpty = true := by
      rw [ByteArray.toList_eq, bs_list, HNE.out]; rfl
    go_quiet (fail)
    have HG8 : Hid (GaAt (W7.drewN nq) b B0 ⟨p0, p1, p2, gts, gcm⟩) := Lib.hid ⟨HGk.out.c0, HGk.out.c1, HGk.out.c2, HGk.out.c3, HGk.out.c4, HGk.out.f, HGk.out.row, HGk.out.rf, HGk.out.ne⟩
    have HB8 : Hid (Below w.heap.size w (W7.drewN nq)) := Lib.hid ⟨HBk.out.os, HBk.out.tape, HBk.out.output, HBk.out.size, HBk.out.block⟩
    have y3 : (W7.drewN nq).cell? ⟨X, 3, none⟩ = some (.int .i64 (m : Int)) := x3
    have y4 : (W7.drewN nq).cell? ⟨X, 4, none⟩ = some (.string (bs p4)) := x4
    clear HGk HBk x0 x1 x2 x3 x4 g0 c3 rm hXl hbl hBl
    generalize W7.drewN nq = W8 at HG8 HB8 y3 y4 ⊢
    have c3 := HG8.out.c3
    rw [hA] at c3
    have c4 := HG8.out.c4
    have rm := HG8.out.row m hml
    have rf := HG8.out.rf (show 0 < gts.length by omega) m
    have f4 := HG8.out.f 4
    simp only at c3 c4 rm
    have hXl := block_lt_of_cell y3
    have hbl := block_lt_of_cell c3
    have hBl := block_lt_of_cell rm
    simp only at hXl hbl hBl
    have hBb : B0 ≠ b := HG8.out.ne (show 0 < gts.length by omega)
    have HFN := Lib.hid (GaAt.more (p := ⟨p0, p1, p2, (m : Int), p4⟩) HG8.out rfl hml)
    simp only at HFN
    have HTT := Lib.hid (touch_of_below (S := fun k => k = b ∨ k = B0) HB8.out)
    clear HG8 HB8
    have hwr : IntKind.i64.wrap ((gcm : Int) + 1) = (gcm : Int) + 1 := by rw [IntKind.wrap_i64]; omega
    go_upto_region 10 with (fail)
    go_region
    all_goals
      go_wp2
      go_ret
      exact ⟨rfl, HFN.out.1, HTT.out.trans HFN.out.2⟩
end Go.Proofs.Ythgnkkpmnfjohaa
