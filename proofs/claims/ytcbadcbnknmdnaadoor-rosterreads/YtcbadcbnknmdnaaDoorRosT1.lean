/-
  Layer 18: a roster out of bytes.
-/
import Derived.Test.YtcbadcbnknmdnaaDoorWalkRPlays
namespace Go.Proofs.YtcbadcbnknmdnaaDoor
open Go.RowKit
set_option linter.unusedVariables false

/-- A roster's two numbers, as the reader takes them. -/
def rosS (st : St) : St × Nat × Nat := ((countS (countS st 4294967295).1 1099511627776).1, (countS st 4294967295).2, (countS (countS st 4294967295).1 1099511627776).2)
def rosT (t : St × Nat × Nat) : Nat × Nat := if t.1.2 = 0 then t.2 else (0, 0)
theorem rosT_le (st : St) : (rosT (rosS st)).1 < 4294967296 ∧ (rosT (rosS st)).2 ≤ 1099511627776 := by
  have h1 := countS_le st 4294967295
  have h2 := countS_le (countS st 4294967295).1 1099511627776
  unfold rosT
  split
  · exact ⟨Nat.lt_succ_of_le h1, h2⟩
  · exact ⟨by decide, by decide⟩
theorem cell_to {b : Nat} {st : St} {w w' : World} (h : InTo w b st w') {p : Addr} {v : Value} (hp : p.block ≠ b) (hc : w.cell? p = some v) : w'.cell? p = some v := (h.2.cell (block_lt_of_cell hc) (fun e => hp e)).trans hc
theorem froz_to {b : Nat} {st : St} {w w' : World} (h : InTo w b st w') {p : Addr} (hp : p.block ≠ b) (hl : p.block < w.heap.size) : w'.frozen? p = w.frozen? p := h.2.frozen hl (fun e => hp e)
theorem into_set {w W : World} {b X : Nat} {st : St} (h : InTo w b st W) (hX : w.heap.size ≤ X) (hb : b < w.heap.size) (u v : Value) : InTo w b st ((W.setCell ⟨X, 0, none⟩ u).setCell ⟨X, 1, none⟩ v) :=
  ⟨h.1.touch (S := fun k => k = X) (((Touch.refl (fun k => k = X) W).setCell (p := ⟨X, 0, none⟩) (fun _ => rfl) _).setCell (p := ⟨X, 1, none⟩) (fun _ => rfl) _) (fun e => by omega), (h.2.setCell (p := ⟨X, 0, none⟩) (fun e => by simp only at e; omega) _).setCell (p := ⟨X, 1, none⟩) (fun e => by simp only at e; omega) _⟩
theorem into_alloc {w W : World} {b : Nat} {st : St} (h : InTo w b st W) (o : Obj) : InTo w b st (W.alloc o) := ⟨h.1.below (bel_alloc (Below.refl _ _) _), h.2.alloc o⟩
theorem into_trans {w W V : World} {b : Nat} {s t : St} (h : InTo w b s W) (k : InTo W b t V) : InTo w b t V := ⟨k.1, h.2.trans k.2⟩
def RReadPost18 (b : Nat) (t : St × Nat × Nat) (w : World) (r : Ending) (w' : World) : Prop := r = .returned (rosV (rosT t).1 ((rosT t).2 : Nat)) ∧ InTo w b t.1 w'
set_option maxRecDepth 100000 in
set_option maxHeartbeats 4000000 in
theorem rread_any (b : Nat) (st : St) (w : World) (h : InSt w b st) : Calls Tryd.prog 20 #[.pointer (some ⟨b, 0, none⟩)] w (RReadPost18 b (rosS st) w) := by
  have hb := h.lt
  have HA := Lib.hid (fun W (hW : InSt W b st) => count_any b st.1 st.2 4294967295 W (by decide) (by decide) hW)
  have hle := countS_le st 4294967295
  have hR : rosS st = ((countS (countS st 4294967295).1 1099511627776).1, (countS st 4294967295).2, (countS (countS st 4294967295).1 1099511627776).2) := rfl
  have HS := Lib.hid h
  have HF : Hid (∀ (n e : Nat) W, rosT (rosS st) = (n, e) → InTo w b (rosS st).1 W → RReadPost18 b (rosS st) w (.returned (.agg #[.int .u32 (n : Int), .int .i64 (e : Int)])) W) := Lib.hid fun n e W h1 h2 => ⟨by rw [h1]; rfl, h2⟩
  generalize hPost : RReadPost18 b (rosS st) w = Post at HF ⊢
  clear hPost h
  generalize rosS st = T at HF hR
  generalize countS st 4294967295 = t1 at HA hR hle
  obtain ⟨s1, n1⟩ := t1
  simp only at hle hR
  have HB := Lib.hid (fun W (hW : InSt W b s1) => count_any b s1.1 s1.2 1099511627776 W (by decide) (by decide) hW)
  generalize countS s1 1099511627776 = t2 at HB hR
  obtain ⟨⟨l2, e2⟩, n2⟩ := t2
  simp only at hR HB
  subst hR
  have hbx : w.heap.size ≠ b := by omega
  have HI0 : Hid (InTo w b st (w.alloc (.cells #[.int .u32 0, .int .i64 0] 27))) := Lib.hid (into_alloc ⟨HS.out, Touch.refl _ _⟩ _)
  have a0 : (w.alloc (.cells #[.int .u32 0, .int .i64 0] 27)).cell? ⟨w.heap.size, 0, none⟩ = some (.int .u32 0) := new_cell rfl rfl
  have a1 : (w.alloc (.cells #[.int .u32 0, .int .i64 0] 27)).cell? ⟨w.heap.size, 1, none⟩ = some (.int .i64 0) := new_cell rfl rfl
  have b0 : (w.alloc (.cells #[.int .u32 0, .int .i64 0] 27)).frozen? ⟨w.heap.size, 0, none⟩ = false := frozen_new _ _ _ _
  have b1 : (w.alloc (.cells #[.int .u32 0, .int .i64 0] 27)).frozen? ⟨w.heap.size, 1, none⟩ = false := frozen_new _ _ _ _
  have hsz : w.heap.size < (w.alloc (.cells #[.int .u32 0, .int .i64 0] 27)).heap.size := by simp
  have hcv : (n1 : Int) % 4294967296 = (n1 : Int) := by omega
  have hcv2 : IntKind.u32.wrap (n1 : Int) = (n1 : Int) := by rw [wrap_u32']; exact hcv
  have HBB := Lib.hid (And.intro hb hbx)
  clear HS hle
  go_enter Tryd.func20, Tryd.ntmps20
  go_wp2_with fail
  generalize w.alloc (.cells #[.int .u32 0, .int .i64 0] 27) = W at HI0 a0 a1 b0 b1 hsz ⊢
  refine (HA.out _ HI0.out.1).mono ?_
  rintro r w1 ⟨rfl, hi1⟩
  dsimp only
  have a0 := cell_to hi1 (p := ⟨w.heap.size, 0, none⟩) hbx a0
  have a1 := cell_to hi1 (p := ⟨w.heap.size, 1, none⟩) hbx a1
  have b0 := (froz_to hi1 (p := ⟨w.heap.size, 0, none⟩) hbx hsz).trans b0
  have b1 := (froz_to hi1 (p := ⟨w.heap.size, 1, none⟩) hbx hsz).trans b1
  have hsz := block_lt_of_cell a0
  simp only at hsz
  have HI1 := Lib.hid (into_trans HI0.out hi1)
  clear hi1 HI0 HA
  go_wp2_with fail
  refine (HB.out _ HI1.out.1).mono ?_
  rintro r w2 ⟨rfl, hi2⟩
  dsimp only
  have a0 := cell_to hi2 (p := ⟨w.heap.size, 0, none⟩) hbx a0
  have a1 := cell_to hi2 (p := ⟨w.heap.size, 1, none⟩) hbx a1
  have b0 := (froz_to hi2 (p := ⟨w.heap.size, 0, none⟩) hbx hsz).trans b0
  have b1 := (froz_to hi2 (p := ⟨w.heap.size, 1, none⟩) hbx hsz).trans b1
  have hsz := block_lt_of_cell a0
  simp only at hsz
  have HI2 := Lib.hid (into_trans HI1.out hi2)
  clear hi2 HI1 HB
  have HI3 := Lib.hid (into_alloc HI2.out (.cells #[.int .u32 (n1 : Int), .int .i64 (n2 : Int)] 27))
  have HER := Lib.hid (err_any b l2 e2 _ HI3.out.1)
  by_cases he : e2 = 0
  · subst he
    have HT : Hid (rosT (((l2, 0), n1, n2) : St × Nat × Nat) = (n1, n2)) := Lib.hid rfl
    go_wp2_with fail
    refine HER.out.mono ?_
    rintro r w3 ⟨rfl, rfl⟩
    dsimp only
    go_wp2
    have y0 : (((w2.setCell ⟨w.heap.size, 0, none⟩ (.int .u32 (n1 : Int))).setCell ⟨w.heap.size, 1, none⟩ (.int .i64 (n2 : Int))).alloc (.cells #[.int .u32 (n1 : Int), .int .i64 (n2 : Int)] 27)).cell? ⟨w.heap.size, 0, none⟩ = some (.int .u32 (n1 : Int)) := alloc_cell (by rw [World.cell?_setCell_other _ _ _ _ (by simp)]; exact World.cell?_setCell_same' _ _ _ (by rw [a0]; rfl)) _
    have y1 : (((w2.setCell ⟨w.heap.size, 0, none⟩ (.int .u32 (n1 : Int))).setCell ⟨w.heap.size, 1, none⟩ (.int .i64 (n2 : Int))).alloc (.cells #[.int .u32 (n1 : Int), .int .i64 (n2 : Int)] 27)).cell? ⟨w.heap.size, 1, none⟩ = some (.int .i64 (n2 : Int)) := alloc_cell (World.cell?_setCell_same' _ _ _ (by rw [World.cell?_setCell_other _ _ _ _ (by simp), a1]; rfl)) _
    exact bodyPost_ret (v := .agg #[.int .u32 (n1 : Int), .int .i64 (n2 : Int)]) (by simp only [results, Tryd.results20]; simp [go_sem, y0, y1]) rfl (HF.out _ _ _ HT.out (into_alloc (into_set HI2.out (Nat.le_refl _) HBB.out.1 _ _) _))
  · have heb : ((e2 : Int) == 0) = false := by rw [beq_eq_false_iff_ne]; omega
    have hei : ¬ (e2 : Int) = 0 := by omega
    have HT : Hid (rosT (((l2, e2), n1, n2) : St × Nat × Nat) = (0, 0)) := Lib.hid (if_neg he)
    clear he
    go_wp2_with fail
    refine HER.out.mono ?_
    rintro r w3 ⟨rfl, rfl⟩
    dsimp only
    go_wp2
    have y0 : (((w2.setCell ⟨w.heap.size, 0, none⟩ (.int .u32 0)).setCell ⟨w.heap.size, 1, none⟩ (.int .i64 0)).alloc (.cells #[.int .u32 (n1 : Int), .int .i64 (n2 : Int)] 27)).cell? ⟨w.heap.size, 0, none⟩ = some (.int .u32 0) := alloc_cell (by rw [World.cell?_setCell_other _ _ _ _ (by simp)]; exact World.cell?_setCell_same' _ _ _ (by rw [a0]; rfl)) _
    have y1 : (((w2.setCell ⟨w.heap.size, 0, none⟩ (.int .u32 0)).setCell ⟨w.heap.size, 1, none⟩ (.int .i64 0)).alloc (.cells #[.int .u32 (n1 : Int), .int .i64 (n2 : Int)] 27)).cell? ⟨w.heap.size, 1, none⟩ = some (.int .i64 0) := alloc_cell (World.cell?_setCell_same' _ _ _ (by rw [World.cell?_setCell_other _ _ _ _ (by simp), a1]; rfl)) _
    exact bodyPost_ret (v := .agg #[.int .u32 0, .int .i64 0]) (by simp only [results, Tryd.results20]; simp [go_sem, y0, y1]) rfl (HF.out 0 0 _ HT.out (into_alloc (into_set HI2.out (Nat.le_refl _) HBB.out.1 _ _) _))
end Go.Proofs.YtcbadcbnknmdnaaDoor
