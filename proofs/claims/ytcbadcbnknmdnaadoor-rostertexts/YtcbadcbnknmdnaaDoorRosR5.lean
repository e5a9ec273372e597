/-
  Layer 18: the document's own: behind one that joins.
-/
import Derived.Test.YtcbadcbnknmdnaaDoorRosR4
import Derived.Test.YtcbadcbnknmdnaaDoorRos8
namespace Go.Proofs.YtcbadcbnknmdnaaDoor
open Go.RowKit
set_option linter.unusedVariables false

theorem field18 (v : Value) (e : Int) (w : World) : (Instr.field 30 (.agg #[v, .int .i64 e]) 0).run Tryd.prog w = .ok v w := by kernel_rfl
theorem introw_drew {w : World} {a : Option Addr} {l : List Int} (h : IntRow .i64 w a l) : IntRow .i64 w.drew a l := h
theorem act_set2 {w : World} {a : Option Addr} {c : Nat} {l : List Int} {B : Nat} (h : ActL w (.slice a l.length c) l) (hne : ∀ x, a = some x → x.block ≠ B) (u v : Value) : ActL ((w.setCell ⟨B, 0, none⟩ u).setCell ⟨B, 1, none⟩ v) (.slice a l.length c) l := by
  obtain ⟨a', c', e1, h1, h2, h3, h4⟩ := h
  simp only [Value.slice.injEq, true_and] at e1
  obtain ⟨rfl, rfl⟩ := e1
  exact ⟨a, c, rfl, h1, h2, h3.touch (S := fun b => b = B) (((Touch.refl (fun b => b = B) w).setCell (p := ⟨B, 0, none⟩) (fun _ => rfl) _).setCell (p := ⟨B, 1, none⟩) (fun _ => rfl) _) (fun x hx e => hne x hx e), h4⟩
theorem keep3r {w w' : World} {p q r : Addr} {a b c : Value} (hb : Below w.heap.size w w') (h : w.cell? p = some a ∧ w.cell? q = some b ∧ w.cell? r = some c) : w'.cell? p = some a ∧ w'.cell? q = some b ∧ w'.cell? r = some c :=
  ⟨(hb.cell (block_lt_of_cell h.1)).trans h.1, (hb.cell (block_lt_of_cell h.2.1)).trans h.2.1, (hb.cell (block_lt_of_cell h.2.2)).trans h.2.2⟩
theorem keepSet3 {w : World} {B : Nat} {a b c v u : Value} (h : w.cell? ⟨B, 0, none⟩ = some a ∧ w.cell? ⟨B, 1, none⟩ = some b ∧ w.cell? ⟨B + 1, 1, none⟩ = some c) : ((w.setCell ⟨B + 1 + 1, 0, none⟩ v).setCell ⟨B + 1 + 1, 1, none⟩ u).cell? ⟨B, 0, none⟩ = some a ∧ ((w.setCell ⟨B + 1 + 1, 0, none⟩ v).setCell ⟨B + 1 + 1, 1, none⟩ u).cell? ⟨B, 1, none⟩ = some b ∧ ((w.setCell ⟨B + 1 + 1, 0, none⟩ v).setCell ⟨B + 1 + 1, 1, none⟩ u).cell? ⟨B + 1, 1, none⟩ = some c := by
  refine ⟨?_, ?_, ?_⟩
  · rw [World.cell?_setCell_other _ _ _ _ (by simp), World.cell?_setCell_other _ _ _ _ (by simp)]; exact h.1
  · rw [World.cell?_setCell_other _ _ _ _ (by simp), World.cell?_setCell_other _ _ _ _ (by simp)]; exact h.2.1
  · rw [World.cell?_setCell_other _ _ _ _ (by simp), World.cell?_setCell_other _ _ _ _ (by simp)]; exact h.2.2
theorem keepRes {w w' : World} {s t : Addr} {a b : Value} (hb : Below w.heap.size w w') (h : w.cell? s = some a ∧ w.cell? t = some b ∧ w.frozen? s = false ∧ w.frozen? t = false) : w'.cell? s = some a ∧ w'.cell? t = some b ∧ w'.frozen? s = false ∧ w'.frozen? t = false ∧ s.block < w'.heap.size :=
  ⟨(hb.cell (block_lt_of_cell h.1)).trans h.1, (hb.cell (block_lt_of_cell h.2.1)).trans h.2.1, (hb.frozen (block_lt_of_cell h.1)).trans h.2.2.1, (hb.frozen (block_lt_of_cell h.2.1)).trans h.2.2.2, Nat.lt_of_lt_of_le (block_lt_of_cell h.1) hb.size⟩
set_option maxRecDepth 100000 in
set_option maxHeartbeats 8000000 in
/-- One that joins. -/
theorem done_join (n : Nat) (a : Option Addr) (c : Nat) (e p : Int) (u : Value) (w : World) (h0 : IntRow .i64 w a (lstP n)) (hn : a = none → lstP n = []) (he : 0 ≤ e ∧ e ≤ 1000000) : Calls Tryd.prog 40 #[docV a (lenP n) c e, .agg #[.int .i64 1, .int .i64 p, u]] w (DocNew (lstP (ofP (lstP n ++ [p]))) (e + 1) w) := by
  have HM := Lib.hid (OneM.new w (.slice a (lenP n) c) e 1 p u)
  have HOF := Lib.hid (fun a' c' W (hr : IntRow .i64 W a' (lstP n ++ [p])) => dof_any a' c' (lstP n ++ [p]) W hr (by have := lenP_le n; unfold lenP at this; simp; omega) (lenP n + 1) (by simp [lenP]))
  generalize hQ : lstP (ofP (lstP n ++ [p])) = Q at HOF ⊢
  have HF : Hid (∀ a' c' W, (∀ x, a' = some x → w.heap.size ≤ x.block) → ActL W (.slice a' Q.length c') Q → Below w.heap.size w W → DocNew Q (e + 1) w (.returned (.agg #[.slice a' Q.length c', .int .i64 (e + 1)])) W) := Lib.hid fun a' c' W h9 h1 h2 => ⟨a', c', rfl, Lib.hid h1, h9, h2⟩
  have HR := Lib.hid (fun W (hW : Below w.heap.size w W) => h0.below hW)
  have HLEN : Hid ((lstP n).length = lenP n) := Lib.hid rfl
  have hll := lenP_le n
  have HNN := Lib.hid hn
  clear hQ hn
  generalize lstP n = L at HOF HR HLEN HNN
  generalize DocNew Q (e + 1) w = Post at HF ⊢
  generalize lenP n = LN at HOF HM HLEN hll ⊢
  have hwe : IntKind.i64.wrap (e + 1) = e + 1 := by rw [IntKind.wrap_i64]; omega
  clear h0
  unfold docV
  go_enter Tryd.func40, Tryd.ntmps40
  go_upto_region 2 with (fail)
  generalize ((w.alloc (.cells #[.slice a LN c, .int .i64 e] 30)).alloc (.cells #[.int .i64 1, .int .i64 p, u] 47)).alloc (.cells #[.slice none 0 0, .int .i64 0] 30) = W at HM ⊢
  have HRW := Lib.hid (HR.out _ HM.out.bel)
  have hfld := field18
  have hlt := HM.out.lt
  obtain ⟨r0, r1, -, c1, -, s0, s1, f0, f1, -⟩ := HM.out
  have HL30 := Lib.hid hll
  go_region_held3 (fun w' => w'.cell? ⟨w.heap.size, 0, none⟩ = some (.slice a LN c) ∧ w'.cell? ⟨w.heap.size, 1, none⟩ = some (.int .i64 e) ∧ w'.cell? ⟨w.heap.size + 1, 1, none⟩ = some (.int .i64 p))
    (first
      | (with_reducible exact keepSet3 (keep3r (w := W) HB6.out ⟨r0, r1, c1⟩))
      | exact keep3r (w := W) (by (repeat' (first | exact Below.refl _ _ | exact HB6.out | exact HN5.out.2 | exact HN4.out.2 | refine Below.drew ?_ | refine bel_alloc ?_ _)); done) ⟨r0, r1, c1⟩)
    (first
      | (refine step_app_ex _ rfl (.tmp 11) (.tmp 13) 22 22 rfl _ _ (by rfl) (by rfl) LN _ (app18a (W0 := W) (by first | exact (NewV.made _ _ (by repeat' (first | exact Below.refl _ _ | refine Below.drew ?_ | refine bel_alloc ?_ _)) _ (by first | rfl | (simp; done))).drew | exact ((NewV.made _ _ (by repeat' (first | exact Below.refl _ _ | refine Below.drew ?_ | refine bel_alloc ?_ _)) _ (by first | rfl | (simp; done))).keep (bel_alloc (Below.refl _ _) _)).drew | exact ((NewV.made _ _ (by repeat' (first | exact Below.refl _ _ | refine Below.drew ?_ | refine bel_alloc ?_ _)) _ (by first | rfl | (simp; done)))) | exact ((NewV.made _ _ (by repeat' (first | exact Below.refl _ _ | refine Below.drew ?_ | refine bel_alloc ?_ _)) _ (by first | rfl | (simp; done))).keep (bel_alloc (Below.refl _ _) _))) HRW.out HNN.out (by have := HLEN.out; have := HL30.out; omega) LN HLEN.out) ?_; rintro a4 c4 w4 ⟨hn4, ht4⟩; have HN4 := Lib.hid hn4; have HT4 := Lib.hid ht4; clear hn4 ht4)
      | (refine step_app_ex _ rfl (.tmp 14) (.tmp 17) 22 22 rfl _ _ (by rfl) (by rfl) (LN + 1) _ (app18b (W0 := W) (M := [p]) (by first | exact HN4.out | exact HN4.out.keep (bel_alloc (Below.refl _ _) _) | exact HN4.out.drew) (by first | exact row_new18 _ _ [p] _ rfl _ (by first | rfl | (simp; done)) | exact IntRow.touch (introw_drew (row_new18 _ _ [p] _ rfl _ (by first | rfl | (simp; done)))) HT4.out (fun x hx => by cases hx; first | omega | (simp; done) | (simp; omega)) | exact IntRow.touch (introw_drew (IntRow.below (row_new18 _ _ [p] _ rfl _ (by first | rfl | (simp; done))) (bel_alloc (Below.refl _ _) _))) HT4.out (fun x hx => by cases hx; first | omega | (simp; done) | (simp; omega))) (fun h => by cases h) (by have := HLEN.out; have := HL30.out; simp; omega) LN 1 HLEN.out rfl) ?_; rintro a5 c5 w5 hn5; have HN5 := Lib.hid hn5; clear hn5)
      | (go_at_call 7; refine (HOF.out _ _ _ (own18_row HN5.out.1)).mono ?_; rintro r w6 ⟨a6, c6, rfl, HA6, hfr6, hb6⟩; have HFR6 := Lib.hid (fun x hx => Nat.le_trans HN5.out.2.size (hfr6 x hx)); clear hfr6; unfold docV; have HB6 := Lib.hid (HN5.out.2.trans (hb6.mono HN5.out.2.size)); obtain ⟨s0, s1, f0, f1, hlt6⟩ := keepRes HB6.out ⟨s0, s1, f0, f1⟩; simp only at hlt6; clear hb6))
  all_goals
    have HACT := Lib.hid (act_set2 HA6.out (B := w.heap.size + 1 + 1) (fun x hx => by have := HFR6.out x hx; omega) (.slice a6 Q.length c6) (.int .i64 (e + 1)))
    have HFRE : Hid (∀ x, a6 = some x → w.heap.size ≤ x.block) := Lib.hid (fun x hx => by have := HFR6.out x hx; omega)
    have HBW := Lib.hid (HM.out.bel.trans (HB6.out.mono HM.out.bel.size))
    clear HA6 HN5 HN4 HT4
    go_wp2
    exact bodyPost_ret (v := .agg #[.slice a6 Q.length c6, .int .i64 (e + 1)]) (by simp [results, Tryd.results40, go_sem, s0, s1]) rfl (HF.out _ _ _ HFRE.out HACT.out (by repeat (first | exact HBW.out | refine Below.setCell ?_ (by first | (simp; done) | (simp; omega)) _)))
end Go.Proofs.YtcbadcbnknmdnaaDoor
